/-
  The reader's length.
-/
import Derived.Test.YtkjofadabaecfaaTPRd
namespace Go.Proofs.Ytkjofadabaecfaa
open Go.RowKit

/-- How length ends. -/
def LenEnd (W : World) (R d : Nat) (q : List Nat) (w : World) (e : Ending) (w' : World) : Prop :=
  w.grownBy w' (some R) ∧ ((∃ n k, Bq.sized q = some (n, k) ∧ e = .returned (.tuple #[.int .i64 (n : Int), .bool true]) ∧ Rd W R d (q.drop k) w') ∨
    (Bq.sized q = none ∧ ∃ N : Int, e = .returned (.tuple #[.int .i64 N, .bool false])))
section
variable {W w w' : World} {R d : Nat} {q : List Nat}
theorem LenEnd.no {N : Int} (h : Bq.sized q = none) (hg : w.grownBy w' (some R)) : LenEnd W R d q w (.returned (.tuple #[.int .i64 N, .bool false])) w' := ⟨hg, .inr ⟨h, N, rfl⟩⟩
theorem LenEnd.yes {N : Int} {n k : Nat} (h : Bq.sized q = some (n, k)) (hN : N = (n : Int)) (hg : w.grownBy w' (some R)) (hR : Rd W R d (q.drop k) w') : LenEnd W R d q w (.returned (.tuple #[.int .i64 N, .bool true])) w' := by
  subst hN
  exact ⟨hg, .inl ⟨n, k, h, rfl, hR⟩⟩
theorem TakeEnd.cases {n : Nat} {e : Ending} (h : TakeEnd W R d q n w e w') : w.grownBy w' (some R) ∧ ((n ≤ q.length ∧ ∃ A c, e = .returned (.tuple #[.slice A n c, .bool true]) ∧ ArgIs w' A c (q.take n) ∧ Rd W R d (q.drop n) w') ∨
    (q.length < n ∧ e = .returned (.tuple #[nilS, .bool false]) ∧ Rd W R d q w')) := by
  obtain ⟨hg, ⟨h1, A, c, h2, h3, h4⟩ | h⟩ := h
  · exact ⟨hg, .inl ⟨h1, A, c, h2, h3.on h4.below, h4⟩⟩
  · exact ⟨hg, .inr h⟩
end
theorem sized_short {a : Nat} (r : List Nat) (h : a ≤ 127) : Bq.sized (a :: r) = some (a, 1) := by
  rw [Bq.sized.eq_def]; simp only; rw [if_pos (by omega)]
theorem sized_one (b : Nat) (s : List Nat) : Bq.sized (129 :: b :: s) = if 127 < b then some (b, 2) else none := by
  rw [Bq.sized.eq_def]; simp only; rw [if_neg (by omega), if_pos trivial]; rfl
theorem sized_two (b c : Nat) (s : List Nat) : Bq.sized (130 :: b :: c :: s) = if 1 ≤ b then some (b * 256 + c, 3) else none := by
  rw [Bq.sized.eq_def]; simp only; rw [if_neg (by omega), if_neg (by omega), if_pos trivial]
theorem sized_two0 (r : List Nat) (h : r.length < 2) : Bq.sized (130 :: r) = none := by
  rw [Bq.sized.eq_def]; simp only; rw [if_neg (by omega), if_neg (by omega), if_pos trivial]
  match r, h with
  | [], _ => rfl
  | [b], _ => rfl
  | b :: c :: s, h => simp at h; omega
theorem sized_else {a : Nat} (r : List Nat) (h1 : ¬ a ≤ 127) (h2 : ¬ a = 129) (h3 : ¬ a = 130) : Bq.sized (a :: r) = none := by
  rw [Bq.sized.eq_def]; simp only; rw [if_neg (by omega), if_neg h2, if_neg h3]
theorem arg_nil (w : World) : ArgIs w none 0 [] := ⟨Nat.le_refl _, by omega, (fun _ h => nomatch h), fun h => absurd h (Nat.lt_irrefl _)⟩

set_option maxHeartbeats 1000000 in
set_option maxRecDepth 100000 in
theorem length_any (W : World) (R d : Nat) (q : List Nat) (w : World) (h : Rd W R d q w) :
    Calls Try.prog 68 #[.pointer (some ⟨R, 0, none⟩)] w (LenEnd W R d q w) := by
  have hT := take_any W R d q 1 w h
  rw [show ((1 : Nat) : Int) = 1 from rfl] at hT
  have HB := Lib.hid h.bytes
  clear h
  go_enter Try.func68, Try.ntmps68
  go_wp2_with fail
  refine hT.mono ?_
  intro e w1 hh
  clear hT
  obtain ⟨hg1, ⟨hq1, A1, c1, rfl, hA1, hR1⟩ | ⟨hq1, rfl, hR1⟩⟩ := hh.cases
  rotate_left
  · have HE : Hid (LenEnd W R d q w (.returned (.tuple #[.int .i64 0, .bool false])) w1) := by
      obtain rfl : q = [] := List.eq_nil_of_length_eq_zero (by omega)
      exact LenEnd.no rfl hg1
    clear hh hq1 hR1 hg1
    go_wp2
    go_ret2
    exact HE.out
  obtain ⟨a, r, rfl⟩ : ∃ a r, q = a :: r := by
    cases q with
    | nil => simp at hq1
    | cons a r => exact ⟨a, r, rfl⟩
  have ha : a < 256 := HB.out a (by simp)
  rw [List.take_succ_cons, List.take_zero] at hA1
  rw [List.drop_succ_cons, List.drop_zero] at hR1
  obtain ⟨bk, off, rfl, hblt, hcell⟩ := arg_get hA1 (by simp)
  have k0 := hcell 0 (by simp)
  rw [Nat.add_zero, List.getD_cons_zero] at k0
  have hc1 := hA1.1
  have hc63 := hA1.2.1
  rw [List.length_singleton] at hc1
  have HG := Lib.hid hg1
  have HR := Lib.hid hR1
  clear hh hq1 hA1 hcell hg1 hR1
  by_cases h1 : a ≤ 127
  · have HE : Hid (LenEnd W R d (a :: r) w (.returned (.tuple #[.int .i64 (a : Int), .bool true])) w1) := LenEnd.yes (n := a) (k := 1) (sized_short r h1) rfl HG.out HR.out
    go_wp2
    go_ret2
    exact HE.out
  by_cases h2 : a = 129
  · subst h2
    have hT := take_any W R d r 1 w1 HR.out
    rw [show ((1 : Nat) : Int) = 1 from rfl] at hT
    clear h1
    go_wp2_with fail
    refine hT.mono ?_
    intro e w2 hh
    clear hT k0
    obtain ⟨hg2, ⟨hq2, A2, c2, rfl, hA2, hR2⟩ | ⟨hq2, rfl, hR2⟩⟩ := hh.cases
    · obtain ⟨b, s, rfl⟩ : ∃ b s, r = b :: s := by
        cases r with
        | nil => simp at hq2
        | cons b s => exact ⟨b, s, rfl⟩
      rw [List.take_succ_cons, List.take_zero] at hA2
      rw [List.drop_succ_cons, List.drop_zero] at hR2
      have hJ := joined_any [b] A2 c2 w2 hA2
      rw [List.length_singleton] at hJ
      have HG2 := Lib.hid (gb_trans HG.out hg2)
      have HR2 := Lib.hid hR2
      clear hh hq2 hA2 hg2 hR2
      go_wp2_with fail
      refine hJ.mono ?_
      rintro e w3 ⟨rfl, N, rfl, _, hN0⟩
      have hN := hN0 (by omega)
      clear hN0
      rw [show Bq.valB [b] = b from by simp [Bq.valB]] at hN
      subst hN
      clear hJ
      by_cases hb : 127 < b
      · have hdb : decide ((127 : Int) < (b : Int)) = true := decide_eq_true (by omega)
        have HE : Hid (LenEnd W R d (129 :: b :: s) w (.returned (.tuple #[.int .i64 (b : Int), .bool true])) w2) := LenEnd.yes (n := b) (k := 2) (by rw [sized_one, if_pos hb]) rfl HG2.out HR2.out
        go_wp2
        go_ret2
        exact HE.out
      · have hdb : decide ((127 : Int) < (b : Int)) = false := decide_eq_false (by omega)
        have HE : Hid (LenEnd W R d (129 :: b :: s) w (.returned (.tuple #[.int .i64 (b : Int), .bool false])) w2) := LenEnd.no (by rw [sized_one, if_neg hb]) HG2.out
        go_wp2
        go_ret2
        exact HE.out
    · have hJ := joined_any [] none 0 w2 (arg_nil w2)
      rw [List.length_nil] at hJ
      have HE : Hid (∀ N : Int, LenEnd W R d (129 :: r) w (.returned (.tuple #[.int .i64 N, .bool false])) w2) := fun N => by
        obtain rfl : r = [] := List.eq_nil_of_length_eq_zero (by omega)
        exact LenEnd.no rfl (gb_trans HG.out hg2)
      clear hh hq2 hg2 hR2
      go_wp2_with fail
      refine hJ.mono ?_
      rintro e w3 ⟨rfl, N, rfl, _, _⟩
      clear hJ
      go_wp2
      go_ret2
      exact HE.out _
  have n129 : ((a : Int) == 129) = false := by rw [beq_eq_false_iff_ne]; omega
  by_cases h3 : a = 130
  · subst h3
    have hT := take_any W R d r 2 w1 HR.out
    rw [show ((2 : Nat) : Int) = 2 from rfl] at hT
    clear h1 h2 n129
    go_wp2_with fail
    refine hT.mono ?_
    intro e w2 hh
    clear hT k0
    obtain ⟨hg2, ⟨hq2, A2, c2, rfl, hA2, hR2⟩ | ⟨hq2, rfl, hR2⟩⟩ := hh.cases
    · obtain ⟨b, c, s, rfl⟩ : ∃ b c s, r = b :: c :: s := by
        match r, hq2 with
        | b :: c :: s, _ => exact ⟨b, c, s, rfl⟩
      have hc : c < 256 := HB.out c (by simp)
      rw [List.take_succ_cons, List.take_succ_cons, List.take_zero] at hA2
      rw [List.drop_succ_cons, List.drop_succ_cons, List.drop_zero] at hR2
      have hJ := joined_any [b, c] A2 c2 w2 hA2
      rw [show ([b, c] : List Nat).length = 2 from rfl] at hJ
      have HG2 := Lib.hid (gb_trans HG.out hg2)
      have HR2 := Lib.hid hR2
      clear hh hq2 hA2 hg2 hR2
      go_wp2_with fail
      refine hJ.mono ?_
      rintro e w3 ⟨rfl, N, rfl, _, hN0⟩
      have hN := hN0 (by omega)
      clear hN0
      rw [show Bq.valB [b, c] = b * 256 + c from by simp [Bq.valB]] at hN
      subst hN
      clear hJ
      obtain ⟨v, ev⟩ : ∃ v, b * 256 + c = v := ⟨_, rfl⟩
      rw [ev]
      by_cases hb : 255 < v
      · have hdb : decide ((255 : Int) < (v : Int)) = true := decide_eq_true (by omega)
        have HE : Hid (LenEnd W R d (130 :: b :: c :: s) w (.returned (.tuple #[.int .i64 (v : Int), .bool true])) w2) := LenEnd.yes (n := v) (k := 3) (by rw [sized_two, if_pos (by omega), ev]) rfl HG2.out HR2.out
        clear ev
        go_wp2
        go_ret2
        exact HE.out
      · have hdb : decide ((255 : Int) < (v : Int)) = false := decide_eq_false (by omega)
        have HE : Hid (LenEnd W R d (130 :: b :: c :: s) w (.returned (.tuple #[.int .i64 (v : Int), .bool false])) w2) := LenEnd.no (by rw [sized_two, if_neg (by omega)]) HG2.out
        clear ev
        go_wp2
        go_ret2
        exact HE.out
    · have hJ := joined_any [] none 0 w2 (arg_nil w2)
      rw [List.length_nil] at hJ
      have HE : Hid (∀ N : Int, LenEnd W R d (130 :: r) w (.returned (.tuple #[.int .i64 N, .bool false])) w2) := fun N => by
        exact LenEnd.no (sized_two0 r hq2) (gb_trans HG.out hg2)
      clear hh hq2 hg2 hR2
      go_wp2_with fail
      refine hJ.mono ?_
      rintro e w3 ⟨rfl, N, rfl, _, _⟩
      clear hJ
      go_wp2
      go_ret2
      exact HE.out _
  · have n130 : ((a : Int) == 130) = false := by rw [beq_eq_false_iff_ne]; omega
    have HE : Hid (LenEnd W R d (a :: r) w (.returned (.tuple #[.int .i64 0, .bool false])) w1) := LenEnd.no (sized_else r h1 h2 h3) HG.out
    clear h2 h3
    go_wp2
    go_ret2
    exact HE.out
end Go.Proofs.Ytkjofadabaecfaa
