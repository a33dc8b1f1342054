/-
  QL1: PMem PSmall PEsc PUn PEs, side by side.
-/
import Derived.Test.YtgojpcoaahcbeaaGreatDoorRows
import Derived.Test.YtgojpcoaahcbeaaGreatDoorQM
import Derived.Test.YtgojpcoaahcbeaaGreatDoorQP
import Derived.WalkKit
import Derived.WalkSpells
import Derived.WalkLawsBesides
import Derived.Lib.Hide
import Derived.Deep.QuietTactic
import Derived.BigQuiet
import Derived.ArgAppend
import Derived.Laws.BytesArg
import Derived.Laws.MakeOwn
import Derived.Laws.AppendOwnNone
import Derived.Lib.Bytealg
import Derived.StillTailTactics
import Derived.Deep.AppendLies
import Derived.Deep.Cut
import Derived.Outline
import Derived.Laws.BitsAllLaws
import Derived.Deep.RegionLaw
import Derived.Test.YtgojpcoaahcbeaaGreatDoorQI

/-
  Bytes, texts and pairs in memory, for the walks over pairs.
-/
namespace Go.Proofs.YtgojpcoaahcbeaaGreatDoor
open Go.RowKit
section
variable {w w' : World} {A : Option Addr} {c : Nat} {q : List Nat}
end
section
variable {ops : Array Oper} {rest : List Oper} {o : Oper} {a : Act} {Q : Exit → Act → World → Prop} {w : World}
end
section
variable {w w' : World} {A : Option Addr} {cs : List Value}
end

/-- Pairs as cells. -/
def pcells (L : List (List Nat × List Nat)) : List Value := L.flatMap fun p => [.string (strOf p.1), .string (strOf p.2)]
theorem pcells_cons (p : List Nat × List Nat) (L : List (List Nat × List Nat)) : pcells (p :: L) = .string (strOf p.1) :: .string (strOf p.2) :: pcells L := rfl
theorem pcells_append (L M : List (List Nat × List Nat)) : pcells (L ++ M) = pcells L ++ pcells M := by simp [pcells]
theorem pcells_length (L : List (List Nat × List Nat)) : (pcells L).length = L.length * 2 := by
  induction L with
  | nil => rfl
  | cons p L ih => rw [pcells_cons]; simp only [List.length_cons, ih]; omega
theorem pcells_one (L : List (List Nat × List Nat)) : ∀ u ∈ pcells L, u.oneCell' = true := by
  induction L with
  | nil => intro u hu; cases hu
  | cons p L ih =>
    intro u hu
    rw [pcells_cons] at hu
    rcases List.mem_cons.1 hu with rfl | hu
    · rfl
    · rcases List.mem_cons.1 hu with rfl | hu
      · rfl
      · exact ih u hu
theorem pcells_at : ∀ (L : List (List Nat × List Nat)) (i : Nat), i < L.length → (pcells L)[i * 2]? = some (.string (strOf (L.getD i ([], [])).1)) ∧ (pcells L)[i * 2 + 1]? = some (.string (strOf (L.getD i ([], [])).2))
  | [], i, h => by simp at h
  | p :: L, 0, _ => ⟨rfl, rfl⟩
  | p :: L, i + 1, h => by
    have := pcells_at L i (by simpa using h)
    rw [pcells_cons, show (i + 1) * 2 = i * 2 + 2 from by omega]
    simpa using this
theorem Row.pair {w : World} {A : Option Addr} {L : List (List Nat × List Nat)} (h : Row w A (pcells L)) {i : Nat} (hi : i < L.length) :
    ∃ b off, A = some ⟨b, off, none⟩ ∧ b < w.heap.size ∧ w.cell? ⟨b, off + i * 2, none⟩ = some (.string (strOf (L.getD i ([], [])).1)) ∧ w.cell? ⟨b, off + i * 2 + 1, none⟩ = some (.string (strOf (L.getD i ([], [])).2)) := by
  obtain ⟨b, off, e, hb, hc⟩ := h (by rw [pcells_length]; omega)
  obtain ⟨h1, h2⟩ := pcells_at L i hi
  exact ⟨b, off, e, hb, hc _ _ h1, hc _ _ h2⟩
theorem getD_lt {L : List (List Nat × List Nat)} (h : Pq.Fine L) (i : Nat) : (∀ x ∈ (L.getD i ([], [])).1, x < 256) ∧ ∀ x ∈ (L.getD i ([], [])).2, x < 256 := by
  rw [List.getD_eq_getElem?_getD]
  cases e : L[i]? with
  | none => exact ⟨(fun x hx => by cases hx), (fun x hx => by cases hx)⟩
  | some p => exact h p (List.mem_of_getElem? e)
end Go.Proofs.YtgojpcoaahcbeaaGreatDoor

/-
  The contracts of the small functions over bytes: plain, digitValue, escaped, and the document's Plain and Hex.
-/
namespace Go.Proofs.YtgojpcoaahcbeaaGreatDoor
open Go.RowKit
set_option maxRecDepth 100000 in
set_option maxHeartbeats 1000000 in
theorem plain_any (c : Nat) (hc : c < 256) (w : World) :
    Calls Tryz.prog 69 #[.int .u8 c] w fun e w' => e = .returned (.bool (Pq.pl c)) ∧ w = w' := by
  go_enter Tryz.func69, Tryz.ntmps69
  go_wp2
  all_goals
    go_ret
    refine ⟨ret_bool ?_, rfl⟩
    rw [Bool.eq_iff_iff, Pq.pl_iff]
    simp
    first | omega | (simp only [beq_iff_eq, beq_eq_false_iff_ne] at *; omega)

set_option maxRecDepth 100000 in
set_option maxHeartbeats 1000000 in
theorem refPlain_any (c : Nat) (hc : c < 256) (w : World) :
    Calls Tryz.prog 48 #[.int .u8 c] w fun e w' => e = .returned (.bool (Pq.pl c)) ∧ w = w' := by
  go_enter Tryz.func48, Tryz.ntmps48
  go_wp2
  all_goals
    go_ret
    refine ⟨ret_bool ?_, rfl⟩
    rw [Bool.eq_iff_iff, Pq.pl_iff]
    simp
    omega

theorem hv_cases {c : Nat} (h : Pq.hv c < 16) : (48 ≤ c ∧ c ≤ 57 ∧ Pq.hv c = c - 48) ∨ (65 ≤ c ∧ c ≤ 70 ∧ Pq.hv c = c - 55) ∨ (97 ≤ c ∧ c ≤ 102 ∧ Pq.hv c = c - 87) := by
  unfold Pq.hv at h ⊢
  split at h
  · rename_i h1; rw [if_pos h1]; omega
  · split at h
    · rename_i h1 h2; rw [if_neg h1, if_pos h2]; omega
    · split at h
      · rename_i h1 h2 h3; rw [if_neg h1, if_neg h2, if_pos h3]; omega
      · omega
theorem hv_none {c : Nat} (h : ¬ Pq.hv c < 16) : ¬ (48 ≤ c ∧ c ≤ 57) ∧ ¬ (65 ≤ c ∧ c ≤ 70) ∧ ¬ (97 ≤ c ∧ c ≤ 102) := by
  unfold Pq.hv at h
  split at h
  · omega
  · split at h
    · omega
    · split at h
      · omega
      · omega
theorem ret_u8 {a b : Int} {c : Bool} (h : a = b) : Ending.returned (.tuple #[.int .u8 a, .bool c]) = .returned (.tuple #[.int .u8 b, .bool c]) := by rw [h]

end Go.Proofs.YtgojpcoaahcbeaaGreatDoor

/-
  The contract of escaped.
-/
namespace Go.Proofs.YtgojpcoaahcbeaaGreatDoor
open Go.RowKit

theorem or_hex : ∀ a : Nat, a < 16 → ∀ b : Nat, b < 16 → bits .or .u8 ((a : Int) * 16) (b : Int) = ((a * 16 + b : Nat) : Int) := by
  intro a ha b hb
  have e : ((a : Int) * 16) = ((a * 16 : Nat) : Int) := by omega
  rw [e, u8_or_nat _ _ (by omega) (by omega), show a * 16 = 2 ^ 4 * a from by omega, ← Nat.two_pow_add_eq_or_of_lt (by omega : b < 2 ^ 4)]

end Go.Proofs.YtgojpcoaahcbeaaGreatDoor

/-
  The contract of Unescape.
-/
namespace Go.Proofs.YtgojpcoaahcbeaaGreatDoor
open Go.RowKit
theorem rep_set (T : List Nat) (n cap x : Nat) (h : T.length = n) (hn : n < cap) : (T ++ List.replicate (cap - n) 0).set n x = (T ++ [x]) ++ List.replicate (cap - (n + 1)) 0 := by
  rw [List.set_append_right _ _ (by omega), h, Nat.sub_self, show cap - n = (cap - (n + 1)) + 1 from by omega, List.replicate_succ, List.set_cons_zero, List.append_assoc, List.singleton_append]
theorem arg_part {w : World} {g : Nat} {t : TypeId} {T R : List Nat} {c : Nat} (h : Lies w g t (u8s (T ++ R))) (hT : ∀ x ∈ T, x < 256) (hR : ∀ x ∈ R, x < 256) (hc : T.length ≤ c) (hcm : c ≤ 9223372036854775807) : ArgIs w (some ⟨g, 0, none⟩) c T :=
  ⟨hc, hcm, hT, fun _ => ⟨g, 0, rfl, h.lt, by
    have := h.bytes (fun x hx => (List.mem_append.1 hx).elim (hT x) (hR x)) 0 T.length
    simpa using this⟩⟩
/-- What Unescape answers. -/
def UnEnd (plus : Bool) (S : List Nat) (w : World) (e : Ending) (w' : World) : Prop :=
  e = .returned (.tuple #[.string (strOf ((Pq.un plus S).getD [])), .bool (Pq.un plus S).isSome]) ∧ Below w.heap.size w w'
theorem UnEnd.yes {plus : Bool} {S T : List Nat} {w w' : World} (h : Pq.un plus S = some T) (hb : Below w.heap.size w w') : UnEnd plus S w (.returned (.tuple #[.string (strOf T), .bool true])) w' := ⟨by rw [h]; rfl, hb⟩
theorem UnEnd.no {plus : Bool} {S : List Nat} {w w' : World} (h : Pq.un plus S = none) (hb : Below w.heap.size w w') : UnEnd plus S w (.returned (.tuple #[.string { data := #[] }, .bool false])) w' := ⟨by rw [h]; rfl, hb⟩
/-- What holds at each round of Unescape's loop. -/
def UnRel (plus : Bool) (S : List Nat) (w : World) (cap : Nat) (text next i : Value) (wr : World) : Prop :=
  ∃ (k nx n : Nat) (T : List Nat), i = .int .i64 k ∧ next = .int .i64 nx ∧ text = .slice (some ⟨w.heap.size, 0, none⟩) n cap ∧ T.length = n ∧ n ≤ k ∧ k ≤ cap ∧ nx ≤ cap ∧ Pq.Acc plus S T (max k nx) ∧ (∀ x ∈ T, x < 256) ∧
    Lies wr w.heap.size 5 (u8s (T ++ List.replicate (cap - n) 0)) ∧ Below w.heap.size w wr

end Go.Proofs.YtgojpcoaahcbeaaGreatDoor

/-
  The contract of Escape.
-/
namespace Go.Proofs.YtgojpcoaahcbeaaGreatDoor
open Go.RowKit

section
variable {ops : Array Oper} {o : Oper} {a : Act} {Q : Exit → Act → World → Prop} {w : World} {K : Act → World → Prop} {E : Prop}
end
theorem three_one (a b c : Int) : ∀ u ∈ (#[Value.int .u8 a, .int .u8 b, .int .u8 c] : Array Value).toList, u.oneCell' = true := by
  intro u hu
  simp at hu
  rcases hu with rfl | rfl | rfl <;> rfl
/-- The signs, as the program has them. -/
abbrev hexUB : ByteArray := { data := #[48, 49, 50, 51, 52, 53, 54, 55, 56, 57, 65, 66, 67, 68, 69, 70] }
theorem hexU_get : ∀ n, n < 16 → (hexUB.data.toList[n]?).map (fun u : UInt8 => u.toNat) = some (Pq.hx n) := by decide +kernel
theorem hexU_at (i : Int) (n : Nat) (hi : i = n) (hn : n < 16) (p : i.toNat < hexUB.size) : ((hexUB[i.toNat]'p).toNat : Int) = ((Pq.hx n : Nat) : Int) := by
  subst hi
  have hg := hexU_get n hn
  have hn' : n < hexUB.data.toList.length := hn
  rw [List.getElem?_eq_getElem hn'] at hg
  have hg' : (hexUB.data.toList[n]).toNat = Pq.hx n := by simpa using hg
  rw [← hg']
  rfl
/-- What holds at each round of Escape's loop. -/
def EsRel (S : List Nat) (w : World) (text i : Value) (wr : World) : Prop :=
  ∃ (k n : Nat), i = .int .i64 k ∧ k ≤ S.length ∧ n ≤ 3 * k ∧ (Pq.es (S.take k)).length = n ∧ wr.ownsRow w.heap.size 5 1 text n (u8s (Pq.es (S.take k))) ∧ Below w.heap.size w wr

set_option maxHeartbeats 2000000 in
set_option maxRecDepth 100000 in
theorem pairsEscape_any (s : ByteArray) (w : World) (hs : s.size ≤ 4194304) :
    Calls Tryz.prog 46 #[.string s] w fun e w' => e = .returned (.string (strOf (Pq.es (numsOf s)))) ∧ Below w.heap.size w w' := by
  have Hlen := Lib.hid (numsOf_length s)
  go_enter Tryz.func46, Tryz.ntmps46
  repeat ((fail_if_success (with_reducible show wpList _ _ _ (⟨some 8, _, _, _, _, _⟩ :: _) _ _)); first | go_values | go_skip | go_guarded | go_step | go_upon | go_back | go_simp)
  with_reducible refine make_at rfl (.const (.int .i64 0)) (.tmp 7) rfl 0 s.size ?s1 ?s2 (Nat.zero_le _) (by omega) ?_
  case s1 => rfl
  case s2 => rfl
  intro w1 hL1 hb1
  have hown1 : w1.ownsRow w.heap.size 5 1 (.slice (some ⟨w.heap.size, 0, none⟩) 0 s.size) 0 (u8s []) := ⟨rfl, .inr ⟨w.heap.size, s.size, _, rfl, Nat.le_refl _, hL1, Nat.zero_le _, by unfold maxLen; omega, by simp [u8s_length], rfl⟩⟩
  go_frame
  go_wp2_with fail
  go_loopw [3, 11] (fun t i wr => EsRel (numsOf s) w t i wr) (fun _ i _ => s.size - (intOf i).toNat)
  case atStart => exact ⟨0, 0, rfl, Nat.zero_le _, Nat.zero_le _, rfl, hown1, hb1⟩
  case round =>
    obtain ⟨k, n, rfl, hk, hnk, hn, hown, hb⟩ := hrel
    rw [Hlen.out] at hk
    have Hn := Lib.hid hn
    clear hn hL1 hb1 hown1
    by_cases hlt : k < s.size
    · have hX := Lib.hid (nums_at s k hlt)
      have hx256 := s[k].toNat_lt
      have HE := Lib.hid (Pq.es_take (numsOf s) k (by rw [Hlen.out]; exact hlt))
      rw [hX.out] at HE
      have hP := fun w => plain_any s[k].toNat hx256 w
      have HLen : Hid (∀ m, (Pq.e1 s[k].toNat).length = m → (Pq.es (List.take (k + 1) (numsOf s))).length = n + m) := fun m hm => by rw [HE.out, List.length_append, Hn.out, hm]
      cases hp : Pq.pl s[k].toNat
      · rw [hp] at hP
        rw [Pq.e1_no hp] at HE HLen
        clear hp
        go_wp2_with fail
        refine (hP _).mono ?_
        rintro e w' ⟨rfl, rfl⟩
        clear hP
        generalize s[k].toNat = c at *
        go_upto_region 8 with (fail)
        have b1 : (0 : Int) ≤ (c : Int) / 16 := by omega
        have b2 : (c : Int) / 16 < 16 := by omega
        have b3 : (0 : Int) ≤ (c : Int) % 16 := by omega
        have b4 : (c : Int) % 16 < 16 := by omega
        have b5 := and15 c hx256
        have b6 : w.heap.size ≤ wr.heap.size := hb.size
        go_region_law (refine step_append_row rfl (.tmp 23) (.tmp 30) 26 5 (.int .u8 0) 1 1 rfl Tryz.underlying26 infoByte rfl (by decide) w.heap.size u3 n _ ⟨wr.heap.size, 0, none⟩ 3 3 _ (own_drew (hown.alloc _)) ?_ (fun j u hj => new_drew wr _ _ j u hj) ?_ rfl rfl ?_ ?_ ?_ ?_; rotate_left 5; intro v2 w2 hown2 hgr2; rotate_right 5; exact rfl; exact three_one _ _ _; omega; omega; simp; omega)
        all_goals
          have hb2 : Below w.heap.size w w2 := (hb.alloc hb.size _).grown (grown_drew hgr2) (by simp; omega) (own_ge hown)
          have hown3 : w2.ownsRow w.heap.size 5 1 v2 (n + 3) (u8s (Pq.es (List.take (k + 1) (numsOf s)))) := by
            rw [HE.out, u8s_append]
            refine own_as hown2 ?_
            rw [hexU_at _ (c / 16) (by omega) (by omega), hexU_at _ (c % 16) (by omega) (by omega)]
            rfl
          clear hgr2 hown2 hown hb b5
          go_wp2
          go_roundw
          case rel => exact ⟨k + 1, n + 3, by go_num, by rw [Hlen.out]; omega, by omega, HLen.out 3 rfl, hown3, hb2⟩
          case measure => simp [intOf]; omega
      · rw [hp] at hP
        rw [Pq.e1_yes hp] at HE HLen
        clear hp
        go_wp2_with fail
        refine (hP _).mono ?_
        rintro e w' ⟨rfl, rfl⟩
        clear hP
        go_upto_region 7 with (fail)
        repeat ((fail_if_success (with_reducible show wpList _ _ _ (⟨some 22, _, _, _, _, _⟩ :: _) _ _)); first | go_values | go_skip | go_guarded | go_step | go_upon | go_back | go_simp)
        with_reducible refine append_row rfl (.tmp 19) (.tmp 21) 26 5 (.int .u8 0) 1 1 rfl Tryz.underlying26 infoByte rfl (by decide) w.heap.size _ n _ ⟨wr.heap.size, 0, none⟩ 1 1 (u8s [s[k].toNat]) (hown.alloc _) ?c1 ?c2 ?c3 ?c4 ?c5 ?c6 ?c7 ?c8 ?_
        case c1 => rfl
        case c2 => exact fun j u hj => new_cells wr _ _ j u hj
        case c3 => exact u8s_one _
        case c4 => rfl
        case c5 => rfl
        case c6 => omega
        case c7 => omega
        case c8 => have := hb.size; simp; omega
        intro v2 w2 hown2 hgr2
        have hb2 : Below w.heap.size w w2 := (hb.alloc hb.size _).grown hgr2 (by have := hb.size; simp; omega) (own_ge hown)
        rw [← u8s_append, ← HE.out] at hown2
        clear hgr2 hown hb
        go_frame
        go_wp2
        go_roundw
        case rel => exact ⟨k + 1, n + 1, by go_num, by rw [Hlen.out]; omega, by omega, HLen.out 1 rfl, hown2, hb2⟩
        case measure => simp [intOf]; omega
    · obtain rfl : k = s.size := by omega
      have hd : decide ((s.size : Int) < (s.size : Int)) = false := by simp
      obtain ⟨A1, c1, rfl⟩ := own_slice hown
      rw [List.take_of_length_le (by rw [Hlen.out]; exact Nat.le_refl _)] at hown
      obtain ⟨hl, harg⟩ := own_arg hown (Pq.es_lt (numsOf_lt s))
      have hconv := conv_str harg
      rw [hl] at hconv
      clear hl harg hown
      go_wp2
      go_ret
      exact ⟨rfl, hb⟩
end Go.Proofs.YtgojpcoaahcbeaaGreatDoor
