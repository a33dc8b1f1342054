/-
  The document's sized: the length with which bytes begin.
-/
import Derived.Test.YtkjofadabaecfaaTVal
import Derived.Deep.RegionLaw
namespace Go.Proofs.Ytkjofadabaecfaa
open Go.RowKit

theorem sized_at (q : List Nat) : Bq.sized q = if 1 ≤ q.length ∧ q.getD 0 0 < 128 then some (q.getD 0 0, 1) else if 2 ≤ q.length ∧ q.getD 0 0 = 129 ∧ 128 ≤ q.getD 1 0 then some (q.getD 1 0, 2)
    else if 3 ≤ q.length ∧ q.getD 0 0 = 130 ∧ 1 ≤ q.getD 1 0 then some (q.getD 1 0 * 256 + q.getD 2 0, 3) else none := by
  match q with
  | [] => rfl
  | [a] =>
    simp [Bq.sized]
  | [a, b] =>
    simp only [Bq.sized, List.length_cons, List.length_nil, List.getD_cons_zero, List.getD_cons_succ]
    by_cases h1 : a < 128
    · simp [h1]
    · by_cases h2 : a = 129
      · by_cases h3 : 128 ≤ b <;> simp [h2, h3]
      · simp [h1, h2]
  | a :: b :: c :: r =>
    simp only [Bq.sized, List.length_cons, List.getD_cons_zero, List.getD_cons_succ]
    by_cases h1 : a < 128
    · simp [h1]
    · by_cases h2 : a = 129
      · by_cases h3 : 128 ≤ b <;> simp [h2, h3]
      · by_cases h4 : a = 130
        · by_cases h5 : 1 ≤ b <;> simp [h4, h5]
        · simp [h1, h2, h4]
/-- How sized ends. -/
def SizedEnd (q : List Nat) (w : World) (e : Ending) (w' : World) : Prop := Below w.heap.size w w' ∧ ((∃ n k : Nat, Bq.sized q = some (n, k) ∧ e = .returned (.tuple #[.int .i64 (n : Int), .int .i64 (k : Int)])) ∨ (Bq.sized q = none ∧ e = .returned (.tuple #[.int .i64 0, .int .i64 0])))
theorem SizedEnd.yes {q : List Nat} {w w' : World} {n k : Nat} {a b : Int} (h : Bq.sized q = some (n, k)) (ha : a = (n : Int)) (hk : b = (k : Int)) (hb : Below w.heap.size w w') : SizedEnd q w (.returned (.tuple #[.int .i64 a, .int .i64 b])) w' := by
  subst ha hk; exact ⟨hb, .inl ⟨n, k, h, rfl⟩⟩
theorem SizedEnd.no {q : List Nat} {w w' : World} (h : Bq.sized q = none) (hb : Below w.heap.size w w') : SizedEnd q w (.returned (.tuple #[.int .i64 0, .int .i64 0])) w' := ⟨hb, .inr ⟨h, rfl⟩⟩
theorem arg_get {w : World} {A : Option Addr} {c : Nat} {q : List Nat} (h : ArgIs w A c q) (hp : 0 < q.length) : ∃ b off, A = some ⟨b, off, none⟩ ∧ b < w.heap.size ∧ ∀ j, j < q.length → w.cell? ⟨b, off + j, none⟩ = some (.int .u8 (q.getD j 0 : Nat)) := by
  obtain ⟨h1, h2, h3, h4⟩ := h
  obtain ⟨b, off, e, h5, h6⟩ := h4 hp
  exact ⟨b, off, e, h5, fun j hj => h6.get hj⟩

set_option maxHeartbeats 2000000 in
set_option maxRecDepth 100000 in
theorem refSized_any (q : List Nat) (A : Option Addr) (c : Nat) (w : World) (h : ArgIs w A c q) :
    Calls Try.prog 65 #[.slice A q.length c] w (SizedEnd q w) := by
  have hsz := sized_at q
  have h256 : ∀ j, q.getD j 0 < 256 := fun j => by
    rw [List.getD_eq_getElem?_getD]
    cases hj : q[j]? with
    | none => decide
    | some x => exact h.2.2.1 x (List.mem_of_getElem? hj)
  have hg := arg_get h
  have hNc : q.length ≤ c ∧ c ≤ 9223372036854775807 := ⟨h.1, h.2.1⟩
  obtain ⟨N, eN⟩ : ∃ N, q.length = N := ⟨_, rfl⟩
  obtain ⟨a, ea⟩ : ∃ a, q.getD 0 0 = a := ⟨_, rfl⟩
  obtain ⟨b, eb⟩ : ∃ b, q.getD 1 0 = b := ⟨_, rfl⟩
  obtain ⟨d, ed⟩ : ∃ d, q.getD 2 0 = d := ⟨_, rfl⟩
  have ha := h256 0
  have hb := h256 1
  have hd := h256 2
  rw [ea] at ha
  rw [eb] at hb
  rw [ed] at hd
  rw [eN, ea, eb, ed] at hsz
  rw [eN] at hg hNc
  rw [eN]
  have HSZ := Lib.hid hsz
  have HEA := Lib.hid ea
  have HEB := Lib.hid eb
  have HED := Lib.hid ed
  clear h h256 hsz eN ea eb ed
  obtain ⟨hNc, hc63⟩ := hNc
  by_cases h0 : N = 0
  · have HQ : Hid (Bq.sized q = none) := by
      unfold Hid
      rw [HSZ.out, if_neg (by omega), if_neg (by omega), if_neg (by omega)]
    subst h0
    clear hg
    go_enter Try.func65, Try.ntmps65
    go_wp2
    go_ret2
    exact SizedEnd.no HQ.out (Below.refl _ _)
  obtain ⟨bk, off, rfl, hlt, hcell⟩ := hg (by omega)
  have k0 := hcell 0 (by omega)
  rw [HEA.out, Nat.add_zero] at k0
  have n1 : decide ((1 : Int) ≤ (N : Int)) = true := decide_eq_true (by omega)
  have g1 : (1 : Nat) ≤ N := by omega
  by_cases ha1 : a < 128
  · have HQ : Hid (Bq.sized q = some (a, 1)) := by
      unfold Hid
      rw [HSZ.out]
      rw [if_pos ⟨g1, ha1⟩]
    have l128 : decide ((a : Int) < 128) = true := decide_eq_true (by omega)
    clear hcell
    go_enter Try.func65, Try.ntmps65
    go_wp2
    go_ret2
    exact SizedEnd.yes HQ.out rfl rfl (Below.refl _ _)
  have l128 : decide ((a : Int) < 128) = false := decide_eq_false (by omega)
  by_cases hN2 : N < 2
  · have HQ : Hid (Bq.sized q = none) := by
      unfold Hid
      rw [HSZ.out]
      rw [if_neg (by omega), if_neg (by omega), if_neg (by omega)]
    have n2 : decide ((2 : Int) ≤ (N : Int)) = false := decide_eq_false (by omega)
    have n3 : decide ((3 : Int) ≤ (N : Int)) = false := decide_eq_false (by omega)
    have g2 : ¬ (2 : Nat) ≤ N := by omega
    have g3 : ¬ (3 : Nat) ≤ N := by omega
    clear hcell
    go_enter Try.func65, Try.ntmps65
    go_wp2
    go_ret2
    exact SizedEnd.no HQ.out (Below.refl _ _)
  have n2 : decide ((2 : Int) ≤ (N : Int)) = true := decide_eq_true (by omega)
  have g2 : (2 : Nat) ≤ N := by omega
  have k1 := hcell 1 (by omega)
  rw [HEB.out] at k1
  by_cases h129 : a = 129
  · by_cases hb1 : 128 ≤ b
    · have HQ : Hid (Bq.sized q = some (b, 2)) := by
        unfold Hid
        rw [HSZ.out]
        rw [if_neg (by omega), if_pos ⟨g2, h129, hb1⟩]
      have e129 : ((a : Int) == 129) = true := by rw [beq_iff_eq]; omega
      have b128 : decide ((128 : Int) ≤ (b : Int)) = true := decide_eq_true (by omega)
      clear h129
      clear hcell
      go_enter Try.func65, Try.ntmps65
      go_wp2
      go_ret2
      exact SizedEnd.yes HQ.out rfl rfl (Below.refl _ _)
    · by_cases hN3 : N < 3
      · have HQ : Hid (Bq.sized q = none) := by
          unfold Hid
          rw [HSZ.out]
          rw [if_neg (by omega), if_neg (by omega), if_neg (by omega)]
        have e129 : ((a : Int) == 129) = true := by rw [beq_iff_eq]; omega
        have b128 : decide ((128 : Int) ≤ (b : Int)) = false := decide_eq_false (by omega)
        have n3 : decide ((3 : Int) ≤ (N : Int)) = false := decide_eq_false (by omega)
        have g3 : ¬ (3 : Nat) ≤ N := by omega
        clear h129
        clear hcell
        go_enter Try.func65, Try.ntmps65
        go_wp2
        go_ret2
        exact SizedEnd.no HQ.out (Below.refl _ _)
      · have HQ : Hid (Bq.sized q = none) := by
          unfold Hid
          rw [HSZ.out]
          rw [if_neg (by omega), if_neg (by omega), if_neg (by omega)]
        have e129 : ((a : Int) == 129) = true := by rw [beq_iff_eq]; omega
        have e130 : ((a : Int) == 130) = false := by rw [beq_eq_false_iff_ne]; omega
        have b128 : decide ((128 : Int) ≤ (b : Int)) = false := decide_eq_false (by omega)
        have n3 : decide ((3 : Int) ≤ (N : Int)) = true := decide_eq_true (by omega)
        have g3 : (3 : Nat) ≤ N := by omega
        clear h129
        clear hcell
        go_enter Try.func65, Try.ntmps65
        go_wp2
        go_ret2
        exact SizedEnd.no HQ.out (Below.refl _ _)
  have e129 : ((a : Int) == 129) = false := by rw [beq_eq_false_iff_ne]; omega
  by_cases hN3 : N < 3
  · have HQ : Hid (Bq.sized q = none) := by
      unfold Hid
      rw [HSZ.out]
      rw [if_neg (by omega), if_neg (by omega), if_neg (by omega)]
    have n3 : decide ((3 : Int) ≤ (N : Int)) = false := decide_eq_false (by omega)
    have g3 : ¬ (3 : Nat) ≤ N := by omega
    clear hcell
    go_enter Try.func65, Try.ntmps65
    go_wp2
    go_ret2
    exact SizedEnd.no HQ.out (Below.refl _ _)
  have n3 : decide ((3 : Int) ≤ (N : Int)) = true := decide_eq_true (by omega)
  have g3 : (3 : Nat) ≤ N := by omega
  have k2 := hcell 2 (by omega)
  rw [HED.out] at k2
  by_cases h130 : a = 130
  · by_cases hb1 : 1 ≤ b
    · have HQ : Hid (Bq.sized q = some (b * 256 + d, 3)) := by
        unfold Hid
        rw [HSZ.out]
        rw [if_neg (by omega), if_neg (by omega), if_pos ⟨g3, h130, hb1⟩]
      have e130 : ((a : Int) == 130) = true := by rw [beq_iff_eq]; omega
      have b1 : decide ((1 : Int) ≤ (b : Int)) = true := decide_eq_true (by omega)
      clear h130 hcell
      go_enter Try.func65, Try.ntmps65
      go_upto_region 6 with (fail)
      go_quiet (fail)
      go_wp2
      go_ret2
      exact SizedEnd.yes HQ.out (by omega) rfl (drewN_below _ _)
    · have HQ : Hid (Bq.sized q = none) := by
        unfold Hid
        rw [HSZ.out]
        rw [if_neg (by omega), if_neg (by omega), if_neg (by omega)]
      have e130 : ((a : Int) == 130) = true := by rw [beq_iff_eq]; omega
      have b1 : decide ((1 : Int) ≤ (b : Int)) = false := decide_eq_false (by omega)
      clear h130
      clear hcell
      go_enter Try.func65, Try.ntmps65
      go_wp2
      go_ret2
      exact SizedEnd.no HQ.out (Below.refl _ _)
  have HQ : Hid (Bq.sized q = none) := by
    unfold Hid
    rw [HSZ.out]
    rw [if_neg (by omega), if_neg (by omega), if_neg (by omega)]
  have e130 : ((a : Int) == 130) = false := by rw [beq_eq_false_iff_ne]; omega
  clear hcell
  go_enter Try.func65, Try.ntmps65
  go_wp2
  go_ret2
  exact SizedEnd.no HQ.out (Below.refl _ _)
end Go.Proofs.Ytkjofadabaecfaa
