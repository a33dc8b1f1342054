/-
  The contracts of parsePart and of the document's pair.
-/
import Derived.Test.YtejmkijnngkoaaaDoorPLib
import Derived.Test.YtejmkijnngkoaaaDoorPRefU
namespace Go.Proofs.YtejmkijnngkoaaaDoor
open Go.RowKit

theorem unescape_of (q : List Nat) (hq : ∀ x ∈ q, x < 256) (hl : q.length ≤ 4096) (plus : Bool) (w : World) :
    Calls Tryd.prog 55 #[.string (strOf q), .bool plus] w fun e w' => UnEnd plus q w e w' := by
  have h := unescape_any (strOf q) plus w (by rw [strOf_size]; omega)
  rwa [numsOf_strOf hq] at h
theorem refUnescape_of (q : List Nat) (hq : ∀ x ∈ q, x < 256) (hl : q.length ≤ 4096) (plus : Bool) (w : World) :
    Calls Tryd.prog 63 #[.string (strOf q), .bool plus] w fun e w' => UnEnd plus q w e w' := by
  have h := refUnescape_any (strOf q) plus w (by rw [strOf_size]; omega)
  rwa [numsOf_strOf hq] at h

/-- What parsePart answers. -/
def PairEnd (l : List Nat) (w : World) (e : Ending) (w' : World) : Prop :=
  Below w.heap.size w w' ∧ ((∃ p, Pq.pair l = some p ∧ e = .returned (.tuple #[.agg #[.string (strOf p.1), .string (strOf p.2)], .bool true])) ∨ (Pq.pair l = none ∧ ∃ a b, e = .returned (.tuple #[.agg #[.string a, .string b], .bool false])))

theorem two_put {w : World} {g : Nat} {t : TypeId} {a b : Value} (h : Lies w g t [a, b]) (x y : Value) : (w.setCell ⟨g, 0, none⟩ x).cell? ⟨g, 0, none⟩ = some x ∧ ((w.setCell ⟨g, 0, none⟩ x).setCell ⟨g, 1, none⟩ y).cell? ⟨g, 0, none⟩ = some x ∧ ((w.setCell ⟨g, 0, none⟩ x).setCell ⟨g, 1, none⟩ y).cell? ⟨g, 1, none⟩ = some y :=
  ⟨(h.put 0 x).cell 0, ((h.put 0 x).put 1 y).cell 0, ((h.put 0 x).put 1 y).cell 1⟩
/-- A struct's two cells are written into a block of the call's own. -/
theorem below_two {w wa w' : World} {o : Obj} {x y : Value} (ha : wa = w.alloc o) (hb : Below wa.heap.size wa w') : Below w.heap.size w ((w'.setCell ⟨w.heap.size, 0, none⟩ x).setCell ⟨w.heap.size, 1, none⟩ y) := by
  subst ha
  exact ((((Below.refl _ _).alloc (Nat.le_refl _) o).trans (hb.mono (by simp))).setCell (by simp) _).setCell (by simp) _
theorem keep2 {w w' : World} {g : Nat} {t : TypeId} {a b : Value} (h : Lies w g t [a, b]) (hb : Below w.heap.size w w') : w'.cell? ⟨g, 0, none⟩ = some a ∧ w'.cell? ⟨g, 1, none⟩ = some b ∧ w'.frozen? ⟨g, 0, none⟩ = false ∧ w'.frozen? ⟨g, 1, none⟩ = false := by
  have h' := h.below hb h.lt
  exact ⟨h'.cell 0, h'.cell 1, h'.free 0, h'.free 1⟩

set_option maxHeartbeats 2000000 in
set_option maxRecDepth 100000 in
theorem parsePart_any (s : ByteArray) (w : World) (hs : s.size ≤ 4096) :
    Calls Tryd.prog 36 #[.string s] w fun e w' => PairEnd (numsOf s) w e w' := by
  have Hlen := Lib.hid (numsOf_length s)
  have hlt := numsOf_lt s
  have hF := fun w => unescape_of (Pq.front (numsOf s)) (fun x hx => hlt x (List.mem_of_mem_take (by rw [Pq.front_take]; exact hx))) (by have := Pq.front_le (numsOf s); rw [Hlen.out] at this; omega) true w
  have hB := fun w => unescape_of (Pq.behind (numsOf s)) (fun x hx => hlt x (List.mem_of_mem_drop hx)) (by unfold Pq.behind; rw [List.length_drop, Hlen.out]; omega) true w
  have hC := fun w => cut_any s w hs
  have HP : Hid (∀ a b, Pq.un true (Pq.front (numsOf s)) = some a → Pq.un true (Pq.behind (numsOf s)) = some b → Pq.pair (numsOf s) = some (a, b)) := fun a b ha hb => Pq.pair_mk ha hb
  have HN1 : Hid (Pq.un true (Pq.front (numsOf s)) = none → Pq.pair (numsOf s) = none) := Pq.pair_no1
  have HN2 : Hid (Pq.un true (Pq.behind (numsOf s)) = none → Pq.pair (numsOf s) = none) := Pq.pair_no2
  obtain ⟨F, eF⟩ : ∃ F, Pq.front (numsOf s) = F := ⟨_, rfl⟩
  obtain ⟨B, eB⟩ : ∃ B, Pq.behind (numsOf s) = B := ⟨_, rfl⟩
  unfold CutEnd at hC
  rw [eF] at hF HP HN1
  rw [eB] at hB HP HN2
  simp only [eF, eB] at hC
  clear eF eB hlt
  go_enter Tryd.func36, Tryd.ntmps36
  go_wp2_with fail
  refine (hC _).mono ?_
  rintro e w1 ⟨b, rfl, hb1⟩
  clear hC
  go_wp2_with fail
  refine (hF _).mono ?_
  rintro e w2 ⟨rfl, hb2⟩
  have hb02 := hb1.trans (hb2.mono hb1.size)
  clear hb1 hb2 hF
  obtain ⟨k0, k1, f0, f1⟩ := keep2 (Lies.made w 34 [.string ByteArray.empty, .string ByteArray.empty]) hb02
  have hL2 := (Lies.made w 34 [.string ByteArray.empty, .string ByteArray.empty]).below hb02 (by simp)
  cases hu : Pq.un true F with
  | none =>
    have HN := Lib.hid (HN1.out hu)
    clear hu HN1 HN2 HP hB
    go_wp2
    obtain ⟨_, q1, q2⟩ := two_put hL2 (.string { data := #[] }) (.string { data := #[] })
    exact bodyPost_ret (v := .tuple #[.agg #[.string { data := #[] }, .string { data := #[] }], .bool false]) (by simp [results, Tryd.results36, go_sem, q1, q2]) rfl ⟨below_two rfl hb02, .inr ⟨HN.out, _, _, rfl⟩⟩
  | some a =>
    have hbs := hb02.size
    have HU := Lib.hid hu
    clear hu
    go_wp2_with fail
    refine (hB _).mono ?_
    rintro e w3 ⟨rfl, hb3⟩
    have hb03 := hb02.trans (hb3.mono hb02.size)
    clear hB
    clear hb3 k0 k1 f0 f1
    obtain ⟨k0, k1, f0, f1⟩ := keep2 (Lies.made w 34 [.string ByteArray.empty, .string ByteArray.empty]) hb03
    have hL3 := (Lies.made w 34 [.string ByteArray.empty, .string ByteArray.empty]).below hb03 (by simp)
    clear hL2
    cases hu2 : Pq.un true B with
    | none =>
      have HN := Lib.hid (HN2.out hu2)
      clear hu2 HN1 HN2 HP
      go_wp2
      obtain ⟨_, q1, q2⟩ := two_put hL3 (.string { data := #[] }) (.string { data := #[] })
      exact bodyPost_ret (v := .tuple #[.agg #[.string { data := #[] }, .string { data := #[] }], .bool false]) (by simp [results, Tryd.results36, go_sem, q1, q2]) rfl ⟨below_two rfl hb03, .inr ⟨HN.out, _, _, rfl⟩⟩
    | some b' =>
      have HN := Lib.hid (HP.out a b' HU.out hu2)
      clear hu2 HN1 HN2 HP
      go_wp2
      obtain ⟨_, q1, q2⟩ := two_put hL3 (.string (strOf a)) (.string (strOf b'))
      exact bodyPost_ret (v := .tuple #[.agg #[.string (strOf a), .string (strOf b')], .bool true]) (by simp [results, Tryd.results36, go_sem, q1, q2]) rfl ⟨below_two rfl hb03, .inl ⟨(a, b'), HN.out, rfl⟩⟩
end Go.Proofs.YtejmkijnngkoaaaDoor
