/-
  The reader's parts: tag and content of the element ahead.
-/
import Derived.Test.YtkjofadabaecfaaTPLen
namespace Go.Proofs.Ytkjofadabaecfaa
open Go.RowKit

/-- How parts ends. -/
def PartsEnd (W : World) (R d : Nat) (q : List Nat) (w : World) (e : Ending) (w' : World) : Prop :=
  w.grownBy w' (some R) ∧ ((∃ a r n k, q = a :: r ∧ ¬ a % 32 = 31 ∧ Bq.sized r = some (n, k) ∧ k + n ≤ r.length ∧ ∃ A c, e = .returned (.tuple #[.int .u8 (a : Int), .slice A n c, .bool true]) ∧ ArgIs W A c ((r.drop k).take n) ∧ Rd W R d (r.drop (k + n)) w') ∨
    ((∀ lv, Bq.read lv q = .error 60) ∧ ∃ (x : Int) (v : Value), e = .returned (.tuple #[.int .u8 x, v, .bool false])))
section
variable {W w w' : World} {R d : Nat} {q : List Nat}
theorem PartsEnd.no {x : Int} {v : Value} (h : ∀ lv, Bq.read lv q = .error 60) (hg : w.grownBy w' (some R)) : PartsEnd W R d q w (.returned (.tuple #[.int .u8 x, v, .bool false])) w' := ⟨hg, .inr ⟨h, x, v, rfl⟩⟩
theorem LenEnd.cases {e : Ending} (h : LenEnd W R d q w e w') : w.grownBy w' (some R) ∧ ((∃ n k, Bq.sized q = some (n, k) ∧ e = .returned (.tuple #[.int .i64 (n : Int), .bool true]) ∧ Rd W R d (q.drop k) w') ∨
    (Bq.sized q = none ∧ ∃ N : Int, e = .returned (.tuple #[.int .i64 N, .bool false]))) := h
end

set_option maxHeartbeats 1000000 in
set_option maxRecDepth 100000 in
theorem parts_any (W : World) (R d : Nat) (q : List Nat) (w : World) (h : Rd W R d q w) :
    Calls Try.prog 63 #[.pointer (some ⟨R, 0, none⟩)] w (PartsEnd W R d q w) := by
  have hT := take_any W R d q 1 w h
  rw [show ((1 : Nat) : Int) = 1 from rfl] at hT
  have HB := Lib.hid h.bytes
  clear h
  go_enter Try.func63, Try.ntmps63
  go_wp2_with fail
  refine hT.mono ?_
  intro e w1 hh
  clear hT
  obtain ⟨hg1, ⟨hq1, A1, c1, rfl, hA1, hR1⟩ | ⟨hq1, rfl, hR1⟩⟩ := hh
  rotate_left
  · have HE : Hid (PartsEnd W R d q w (.returned (.tuple #[.int .u8 0, nilS, .bool false])) w1) := by
      obtain rfl : q = [] := List.eq_nil_of_length_eq_zero (by omega)
      exact PartsEnd.no Bq.read_nil hg1
    clear hq1 hR1 hg1
    go_wp2
    refine bodyPost_ret (by simp [results, Try.results63, go_sem]; rfl) rfl ?_
    exact HE.out
  obtain ⟨a, r, rfl⟩ : ∃ a r, q = a :: r := by
    cases q with
    | nil => simp at hq1
    | cons a r => exact ⟨a, r, rfl⟩
  have ha : a < 256 := HB.out a (by simp)
  rw [List.take_succ_cons, List.take_zero] at hA1
  rw [List.drop_succ_cons, List.drop_zero] at hR1
  obtain ⟨bk, off, rfl, hblt, hcell⟩ := arg_get hA1 (by simp)
  have k00 := hcell 0 (by simp)
  rw [Nat.add_zero, List.getD_cons_zero] at k00
  have HK0 : Hid (∀ W', Below W.heap.size W W' → W'.cell? ⟨bk, off, none⟩ = some (.int .u8 (a : Int))) := fun W' h => (World.cell?_of_block (a := ⟨bk, off, none⟩) (h.block bk hblt)).trans k00
  have k0 := HK0.out w1 hR1.below
  have hblt1 : bk < w1.heap.size := Nat.lt_of_lt_of_le hblt hR1.below.size
  have hc1 := hA1.1
  have hc63 := hA1.2.1
  rw [List.length_singleton] at hc1
  have HG := Lib.hid hg1
  have HR := Lib.hid hR1
  have hAl := allowed_any a ha w1
  have hL := length_any W R d r w1 hR1
  clear hq1 hA1 hcell hg1 hR1 k00
  go_wp2_with fail
  refine hAl.mono ?_
  rintro e w2 ⟨rfl, ⟨h31, rfl⟩ | ⟨h31, rfl⟩⟩
  rotate_left
  · have HE : Hid (PartsEnd W R d (a :: r) w (.returned (.tuple #[.int .u8 0, nilS, .bool false])) w1) :=
      PartsEnd.no (fun lv => by rw [Bq.read_cons, if_pos (Classical.byContradiction h31)]) HG.out
    clear hL hAl h31
    go_wp2
    refine bodyPost_ret (by simp [results, Try.results63, go_sem]; rfl) rfl ?_
    exact HE.out
  have H31 := Lib.hid h31
  clear hAl h31
  go_wp2_with fail
  refine hL.mono ?_
  intro e w2 hh
  clear hL k0
  obtain ⟨hg2, ⟨n, k, hz, rfl, hR2⟩ | ⟨hz, N, rfl⟩⟩ := hh.cases
  rotate_left
  · have HE : Hid (PartsEnd W R d (a :: r) w (.returned (.tuple #[.int .u8 0, nilS, .bool false])) w2) :=
      PartsEnd.no (fun lv => by rw [Bq.read_cons, if_neg H31.out, hz]) (gb_trans HG.out hg2)
    clear hh hz hg2
    go_wp2
    refine bodyPost_ret (by simp [results, Try.results63, go_sem]; rfl) rfl ?_
    exact HE.out
  have hk := (Bq.sized_le hz).2
  have hT := take_any W R d (r.drop k) n w2 hR2
  have HZ := Lib.hid hz
  have HG2 := Lib.hid hg2
  clear hh hz hR2 hg2
  go_wp2_with fail
  refine hT.mono ?_
  intro e w3 hh
  clear hT
  obtain ⟨hg3, hh⟩ := hh
  rw [List.length_drop] at hh
  have HG3 : Hid (w.grownBy w3 (some R)) := gb_trans (gb_trans HG.out HG2.out) hg3
  rcases hh with ⟨hn, A3, c3, rfl, hA3, hR3⟩ | ⟨hn, rfl, hR3⟩
  · have hcell := HK0.out w3 hR3.below
    have HE : Hid (PartsEnd W R d (a :: r) w (.returned (.tuple #[.int .u8 (a : Int), .slice A3 n c3, .bool true])) w3) :=
      ⟨HG3.out, .inl ⟨a, r, n, k, rfl, H31.out, HZ.out, by omega, A3, c3, rfl, hA3, by rw [List.drop_drop] at hR3; exact hR3⟩⟩
    clear hA3 hR3 hg3 hn
    go_wp2
    refine bodyPost_ret (by simp [results, Try.results63, go_sem]; rfl) rfl ?_
    exact HE.out
  · have hcell := HK0.out w3 hR3.below
    have HE : Hid (PartsEnd W R d (a :: r) w (.returned (.tuple #[.int .u8 (a : Int), nilS, .bool false])) w3) :=
      PartsEnd.no (fun lv => by rw [Bq.read_cons, if_neg H31.out, HZ.out]; simp only; rw [if_pos (by omega)]) HG3.out
    clear hR3 hg3 hn
    go_wp2
    refine bodyPost_ret (by simp [results, Try.results63, go_sem]; rfl) rfl ?_
    exact HE.out
end Go.Proofs.Ytkjofadabaecfaa
