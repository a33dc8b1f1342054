/-
  The contracts of (*Hash).Write, whatever is held back, and of digest.Sum.
-/
import Derived.Test.YtkfhfokeoieajaaDoorWriteHeld
namespace Go.Proofs.YtkfhfokeoieajaaDoor
open Go.RowKit

theorem write_any (g : Nat) (p q : List Nat) (A : Option Addr) (c : Nat) (w : World) (hT : Tab w) (hH : HashIs w g p) (hq : SliceIs w g A c q) (hg0 : 0 < g) (hn : p.length + q.length < 2305843009213693952) :
    Calls Tryd.prog 16 #[.pointer (some ⟨g, 0, none⟩), .slice A q.length c] w fun e w' => e = .returned (.tuple #[]) ∧ HashIs w' g (p ++ q) ∧ w.grownBy w' (some g) := by
  by_cases h0 : p.length % 64 = 0
  · exact write_zero g p q A c w hT hH hq hg0 hn h0
  · by_cases h1 : p.length % 64 + q.length < 64
    · exact write_few g p q A c w hT hH hq hg0 hn (by omega) h1
    · exact write_more g p q A c w hT hH hq hg0 hn (by omega) (by omega)

/-- A slice of bytes that reads as these. -/
def ArgIs (w : World) (A : Option Addr) (c : Nat) (q : List Nat) : Prop :=
  q.length ≤ c ∧ c ≤ 9223372036854775807 ∧ (∀ x ∈ q, x < 256) ∧ (0 < q.length → ∃ b off, A = some ⟨b, off, none⟩ ∧ b < w.heap.size ∧ BytesAt w b off q)
section
variable {w w' : World} {A : Option Addr} {c : Nat} {q : List Nat}
theorem ArgIs.below {B : Nat} (h : ArgIs w A c q) (hb : Below B w w') (hB : w.heap.size ≤ B) : ArgIs w' A c q :=
  ⟨h.1, h.2.1, h.2.2.1, fun hq => by
    obtain ⟨b, off, e, hbw, hby⟩ := h.2.2.2 hq
    exact ⟨b, off, e, Nat.lt_of_lt_of_le hbw hb.size, hby.below hb (by omega)⟩⟩
theorem ArgIs.alloc (h : ArgIs w A c q) (o : Obj) : ArgIs (w.alloc o) A c q := h.below ((Below.refl w.heap.size w).alloc (Nat.le_refl _) o) (Nat.le_refl _)
theorem ArgIs.drew (h : ArgIs w A c q) : ArgIs w.drew A c q := h
theorem ArgIs.slice {g B : Nat} (h : ArgIs w A c q) (hb : Below B w w') (hB : w.heap.size ≤ B) (hg : w.heap.size ≤ g) : SliceIs w' g A c q :=
  ⟨h.1, h.2.1, h.2.2.1, fun hq => by
    obtain ⟨b, off, e, hbw, hby⟩ := h.2.2.2 hq
    exact ⟨b, off, e, by omega, Nat.lt_of_lt_of_le hbw hb.size, hby.below hb (by omega)⟩⟩
end

theorem hash_new {w : World} {g : Nat} (h : Lies w g 51 (hashCells Sha.init rest0 0)) : HashIs w g [] :=
  ⟨rest0, h, rfl, rfl, fun x hx => by cases hx⟩

theorem below_of_grown {w w1 w2 : World} {B g : Nat} (h : Below B w w1) (hg : w1.grownBy w2 (some g)) (hB : B ≤ w1.heap.size) (hBg : B ≤ g) : Below B w w2 :=
  h.grown hg hB (fun k hk => by injection hk with hk; omega)

set_option maxHeartbeats 400000 in
set_option maxRecDepth 100000 in
theorem sum_any (q : List Nat) (A : Option Addr) (c : Nat) (w : World) (hT : Tab w) (hq : ArgIs w A c q) (hn : q.length < 2305843009213693952) :
    Calls Tryd.prog 10 #[.slice A q.length c] w fun e w' => e = .returned (.agg (u8s (Sha.sum q)).toArray) ∧ Below w.heap.size w w' := by
  have hz := zero25
  go_enter Tryd.func10, Tryd.ntmps10
  go_wp2_with fail
  refine (new_any _).mono ?_
  rintro e w1 ⟨g, rfl, hgB, hL1, hb1⟩
  have hgB' : w.heap.size + 1 ≤ g := by simpa using hgB
  have hB1 : w.heap.size + 1 ≤ w1.heap.size := by have := hb1.size; simp at this; omega
  have h01 : Lies w1 w.heap.size 25 (z8 32) := (Lies.made w _ (z8 32)).below hb1 (by simp)
  have hbel1 : Below w.heap.size w w1 := ((Below.refl _ _).alloc (Nat.le_refl _) _).trans (hb1.mono (by simp))
  have hT1 : Tab w1 := hT.below hbel1 hT.lt
  have hq1 := hq.slice (g := g) hbel1 (Nat.le_refl _) (by omega)
  have hTl := hT.lt
  clear hb1 hz hgB
  go_wp2_with fail
  refine (write_any g [] q A c w1 hT1 (hash_new hL1) hq1 (by omega) (by simpa using hn)).mono ?_
  rintro e w2 ⟨rfl, hH2, hg2⟩
  rw [List.nil_append] at hH2
  have h02 := h01.grown hg2 (by simp; omega)
  have hbel2 := below_of_grown hbel1 hg2 hbel1.size (by omega)
  have hT2 : Tab w2 := hT.below hbel2 hT.lt
  clear hg2 hT1 hbel1 h01 hL1 hq1
  go_wp2_with fail
  refine (hashSum_any g q w2 hT2 hH2 hn).mono ?_
  rintro e w3 ⟨rfl, hb3⟩
  have h03 := h02.below hb3 h02.lt
  have hbel3 : Below w.heap.size w w3 := hbel2.trans (hb3.mono hbel2.size)
  have Hl32 : Hid ((u8s (Sha.sum q)).length = 32) := by unfold Hid; rw [u8s_length, Sha.sum_length]
  have Hone : Hid ((u8s (Sha.sum q)).all (·.oneCell') = true) := List.all_eq_true.2 (u8s_one _)
  obtain ⟨D, hDe⟩ : ∃ D, u8s (Sha.sum q) = D := ⟨_, rfl⟩
  rw [hDe] at Hl32 Hone ⊢
  have HDe := Lib.hid hDe
  clear hDe hb3 h02 hbel2 hT2
  repeat ((fail_if_success (with_reducible show wpList _ _ _ (⟨none, _, _, _, _, _⟩ :: _) _ _)); first | go_values | go_skip | go_guarded | go_step | go_upon | go_back | go_simp)
  with_reducible refine store_lies rfl 25 (.tmp 2) (.tmp 9) rfl w.heap.size D 25 (z8 32) h03 ?sx ?sy ?si ?sl ?s1 ?_
  case sx => rfl
  case sy => rfl
  case si => (rw [z8_length]; exact info25)
  case sl => rw [Hl32.out, z8_length]
  case s1 => exact Hone.out
  go_wp2
  refine bodyPost_ret (results_one Tryd.results10 _ _ w.heap.size 25 D _ rfl h03.row Tryd.underlying25 rfl (by rw [Hl32.out]; exact info25)) rfl ⟨?_, below_row hbel3 (Nat.le_refl _)⟩
  rw [HDe.out]
end Go.Proofs.YtkfhfokeoieajaaDoor
