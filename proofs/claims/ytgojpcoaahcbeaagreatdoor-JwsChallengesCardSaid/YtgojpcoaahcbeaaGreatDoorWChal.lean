/-
  The contracts of Challenge and of the document's Challenge.
-/
import Derived.Test.YtgojpcoaahcbeaaGreatDoorWPB
import Derived.Test.YtgojpcoaahcbeaaGreatDoorWRSmall
import Derived.Test.YtgojpcoaahcbeaaGreatDoorQL1
import Derived.Test.YtgojpcoaahcbeaaGreatDoorQR5
namespace Go.Proofs.YtgojpcoaahcbeaaGreatDoor
open Go.RowKit
namespace Wq
/-- A verifier that has a challenge. -/
def ChalOk (q : List Nat) : Prop := 43 ≤ q.length ∧ q.length ≤ 128 ∧ ∀ x ∈ q, Pq.pl x = true
theorem e1_pos (c : Nat) : 1 ≤ (Pq.e1 c).length ∧ ((Pq.e1 c).length = 1 → Pq.pl c = true) := by
  unfold Pq.e1
  split
  · rename_i h; exact ⟨by simp, fun _ => h⟩
  · exact ⟨by simp, fun h => by simp at h⟩
theorem es_long : ∀ q : List Nat, q.length ≤ (Pq.es q).length ∧ ((Pq.es q).length = q.length → ∀ x ∈ q, Pq.pl x = true)
  | [] => ⟨Nat.le_refl _, fun _ _ h => nomatch h⟩
  | c :: r => by
    obtain ⟨h1, h2⟩ := es_long r
    obtain ⟨g1, g2⟩ := e1_pos c
    rw [Pq.es_cons, List.length_append, List.length_cons]
    refine ⟨by omega, fun h x hx => ?_⟩
    rcases List.mem_cons.1 hx with rfl | hx
    · exact g2 (by omega)
    · exact h2 (by omega) x hx
theorem es_plain : ∀ q : List Nat, (∀ x ∈ q, Pq.pl x = true) → Pq.es q = q
  | [], _ => rfl
  | c :: r, h => by
    rw [Pq.es_cons, Pq.e1_yes (h c (List.mem_cons_self ..)), es_plain r fun x hx => h x (List.mem_cons_of_mem _ hx)]
    rfl
end Wq
/-- What Challenge answers. -/
def ChalEnd (q : List Nat) (w : World) (e : Ending) (w' : World) : Prop := Below w.heap.size w w' ∧
  ((Wq.ChalOk q ∧ e = .returned (.tuple #[.string (strOf (B64.enc (Sha.sum q))), .bool true])) ∨ (¬ Wq.ChalOk q ∧ e = .returned (.tuple #[.string ByteArray.empty, .bool false])))

set_option maxHeartbeats 1000000 in
set_option maxRecDepth 100000 in
theorem challenge_any (s : ByteArray) (w : World) (hT : Tab w) :
    Calls Tryz.prog 19 #[.string s] w (ChalEnd (numsOf s) w) := by
  have Hlen := Lib.hid (numsOf_length s)
  by_cases h1 : s.size < 43
  · have hd : decide ((s.size : Int) < 43) = true := decide_eq_true (by omega)
    have HE : Hid (ChalEnd (numsOf s) w (.returned (.tuple #[.string ByteArray.empty, .bool false])) w) := ⟨Below.refl _ _, .inr ⟨fun h => absurd h.1 (by rw [Hlen.out]; omega), rfl⟩⟩
    clear hT
    go_enter Tryz.func19, Tryz.ntmps19
    go_wp2
    go_ret2
    exact HE.out
  have hd1 : decide ((s.size : Int) < 43) = false := decide_eq_false (by omega)
  by_cases h2 : 128 < s.size
  · have hd : decide ((128 : Int) < (s.size : Int)) = true := decide_eq_true (by omega)
    have HE : Hid (ChalEnd (numsOf s) w (.returned (.tuple #[.string ByteArray.empty, .bool false])) w) := ⟨Below.refl _ _, .inr ⟨fun h => absurd h.2.1 (by rw [Hlen.out]; omega), rfl⟩⟩
    clear hT
    go_enter Tryz.func19, Tryz.ntmps19
    go_wp2
    go_ret2
    exact HE.out
  have hd2 : decide ((128 : Int) < (s.size : Int)) = false := decide_eq_false (by omega)
  have hEs := pairsEscape_any s w (by omega)
  have HTt := Lib.hid hT
  clear hT
  by_cases hp : ∀ x ∈ numsOf s, Pq.pl x = true
  rotate_left
  · have hbq : ((strOf (Pq.es (numsOf s))).toList == s.toList) = false := by
      have := str_beq (p := Pq.es (numsOf s)) (q := numsOf s) (Pq.es_lt (numsOf_lt s)) (numsOf_lt s)
      rw [strOf_numsOf] at this
      rw [this]
      exact decide_eq_false fun h => hp ((Wq.es_long (numsOf s)).2 (by rw [h]))
    have HC : Hid (¬ Wq.ChalOk (numsOf s)) := fun h => hp h.2.2
    obtain ⟨X, eX⟩ : ∃ X, strOf (Pq.es (numsOf s)) = X := ⟨_, rfl⟩
    rw [eX] at hEs hbq
    clear hp eX
    go_enter Tryz.func19, Tryz.ntmps19
    go_wp2_with fail
    refine hEs.mono ?_
    rintro e w1 ⟨rfl, hb1⟩
    clear hEs
    have HE : Hid (ChalEnd (numsOf s) w (.returned (.tuple #[.string ByteArray.empty, .bool false])) w1) := ⟨hb1, .inr ⟨HC.out, rfl⟩⟩
    clear hb1
    go_wp2
    go_ret2
    exact HE.out
  have HC : Hid (Wq.ChalOk (numsOf s)) := ⟨by rw [Hlen.out]; omega, by rw [Hlen.out]; omega, hp⟩
  rw [Wq.es_plain _ hp, strOf_numsOf] at hEs
  clear hp
  go_enter Tryz.func19, Tryz.ntmps19
  go_wp2_with fail
  refine hEs.mono ?_
  rintro e w1 ⟨rfl, hb1⟩
  clear hEs
  have hz := zero25
  repeat ((fail_if_success (with_reducible show wpList _ _ _ (⟨some 18, _, _, _, _, _⟩ :: _) _ _)); first | go_values | go_skip | go_guarded | go_step | go_upon | go_back | go_simp)
  with_reducible refine conv_here rfl (.tmp 17) rfl s ?s1 ?s2 ?_
  case s1 => rfl
  case s2 => omega
  intro w2 A c harg hb2
  have hbw2 := below_more hb1 hb2
  have hS := sum_any (numsOf s) A c w2 (HTt.out.below hbw2 HTt.out.lt) harg (by rw [Hlen.out]; omega)
  rw [Hlen.out] at hS
  clear harg hb1 hb2
  go_frame
  go_wp2_with fail
  refine hS.mono ?_
  rintro e w7 ⟨rfl, hb7⟩
  clear hS
  have hbw7 := below_more hbw2 hb7
  have Hl32 : Hid ((Sha.sum (numsOf s)).length = 32) := Sha.sum_length _
  have Hlt : Hid (∀ x ∈ Sha.sum (numsOf s), x < 256) := Sha.sum_lt _
  have HEnd : Hid (∀ w', Below w.heap.size w w' → ChalEnd (numsOf s) w (.returned (.tuple #[.string (strOf (B64.enc (Sha.sum (numsOf s)))), .bool true])) w') := fun w' h => ⟨h, .inl ⟨HC.out, rfl⟩⟩
  obtain ⟨D, hDe⟩ : ∃ D, Sha.sum (numsOf s) = D := ⟨_, rfl⟩
  rw [hDe] at Hl32 Hlt HEnd ⊢
  have Hone : Hid ((u8s D).all (·.oneCell') = true) := List.all_eq_true.2 (u8s_one _)
  clear hDe hb7 hbw2
  repeat ((fail_if_success (with_reducible show wpList _ _ _ (⟨none, _, _, _, _, _⟩ :: _) _ _)); first | go_values | go_skip | go_guarded | go_step | go_upon | go_back | go_simp)
  with_reducible refine store_lies rfl 51 (.tmp 4) (.tmp 19) rfl w7.heap.size (u8s D) 51 (z8 32) (Lies.new_ rfl) ?sx ?sy ?si ?sl ?so ?_
  case sx => rfl
  case sy => rfl
  case si => (rw [z8_length]; exact info25)
  case sl => rw [u8s_length, Hl32.out, z8_length]
  case so => exact Hone.out
  generalize hw8 : World.setRow _ _ _ = w8
  have hD8 : Lies w8 w7.heap.size 51 (u8s D) := by rw [← hw8]; exact Lies.row (cs := z8 32) (Lies.new_ rfl)
  have hb8 : Below w.heap.size w w8 := by rw [← hw8]; exact below_row (hbw7.alloc hbw7.size _) hbw7.size
  clear hw8 hz
  have hE := encode_any D (some ⟨w7.heap.size, 0, none⟩) 32 w8 (arg_lies hD8 Hlt.out (by rw [Hl32.out]; exact Nat.le_refl _) (by decide)) (by rw [Hl32.out]; decide)
  rw [Hl32.out] at hE
  clear hD8 hbw7
  go_frame
  go_wp2_with fail
  refine hE.mono ?_
  rintro e w9 ⟨rfl, hb9⟩
  clear hE
  have HE := Lib.hid (HEnd.out w9 (below_more hb8 hb9))
  clear hb8 hb9 HEnd
  go_wp2
  go_ret2
  exact HE.out
end Go.Proofs.YtgojpcoaahcbeaaGreatDoor
