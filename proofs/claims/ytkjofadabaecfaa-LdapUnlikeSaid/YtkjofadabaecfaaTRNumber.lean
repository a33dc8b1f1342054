/-
  The document's Number.
-/
import Derived.Test.YtkjofadabaecfaaTRWhole
namespace Go.Proofs.Ytkjofadabaecfaa
open Go.RowKit

/-- The number that bytes say, and whether they say one. -/
def numberP (q : List Nat) : Nat × Bool := if (1 ≤ q.length ∧ q.length ≤ 4) ∧ Bq.whole (Bq.valB q : Int) = q then (Bq.valB q, true) else (0, false)
theorem valB_take {q : List Nat} {i c : Nat} (h : q[i]? = some c) : Bq.valB (q.take (i + 1)) = Bq.valB (q.take i) * 256 + c := by
  rw [List.take_add_one, h, Option.toList_some, Bq.valB_snoc]
theorem valB_lt : ∀ (l : List Nat), (∀ x ∈ l, x < 256) → Bq.valB l < 256 ^ l.length
  | [], _ => by simp [Bq.valB]
  | c :: r, h => by
    have h1 := valB_lt r fun x hx => h x (by simp [hx])
    have h2 := h c (by simp)
    rw [Bq.valB_cons, List.length_cons, Nat.pow_succ]
    have : c * 256 ^ r.length ≤ 255 * 256 ^ r.length := Nat.mul_le_mul_right _ (by omega)
    omega

set_option maxHeartbeats 1000000 in
set_option maxRecDepth 100000 in
theorem refNumber_any (q : List Nat) (A : Option Addr) (c : Nat) (w : World) (hq : ArgIs w A c q) :
    Calls Try.prog 32 #[.slice A q.length c] w fun e w' => e = .returned (.tuple #[.int .i64 ((numberP q).1 : Int), .bool (numberP q).2]) ∧ Below w.heap.size w w' := by
  obtain ⟨N, eN⟩ : ∃ N, q.length = N := ⟨_, rfl⟩
  have h256 := hq.2.2.1
  by_cases hout : N < 1 ∨ 4 < N
  · have HQ : Hid (numberP q = (0, false)) := if_neg (by rw [eN]; omega)
    have hdd : decide ((N : Int) < 1) = true ∨ (decide ((N : Int) < 1) = false ∧ decide ((4 : Int) < (N : Int)) = true) := by
      by_cases h : N < 1
      · exact .inl (decide_eq_true (by omega))
      · exact .inr ⟨decide_eq_false (by omega), decide_eq_true (by omega)⟩
    have hnn : (N = 0) ∨ (¬ N = 0 ∧ 4 < N) := by omega
    rw [eN]
    clear hout eN hq h256
    rcases hnn with rfl | ⟨e0, e4⟩
    · clear hdd
      go_enter Try.func32, Try.ntmps32
      go_wp2
      go_ret2
      exact ⟨by rw [HQ.out]; rfl, Below.refl _ _⟩
    · have d1 : decide ((N : Int) < 1) = false := decide_eq_false (by omega)
      have d2 : decide ((4 : Int) < (N : Int)) = true := decide_eq_true (by omega)
      clear hdd
      go_enter Try.func32, Try.ntmps32
      go_wp2
      go_ret2
      exact ⟨by rw [HQ.out]; rfl, Below.refl _ _⟩
  obtain ⟨bk, off, rfl, hblt, hcell⟩ := arg_get hq (by omega)
  have d1 : decide ((N : Int) < 1) = false := decide_eq_false (by omega)
  have d2 : decide ((4 : Int) < (N : Int)) = false := decide_eq_false (by omega)
  have hN0 : ¬ N = 0 := by omega
  have hN4 : ¬ 4 < N := by omega
  have HQA := Lib.hid hq
  have HN := Lib.hid eN
  have H256 := Lib.hid h256
  have hNc : N ≤ c := by have := hq.1; omega
  have hc63 : c ≤ 9223372036854775807 := hq.2.1
  have HIN : Hid (1 ≤ q.length ∧ q.length ≤ 4) := by unfold Hid; omega
  rw [eN] at hcell ⊢
  have HC := Lib.hid hcell
  clear hout eN hq h256 hcell
  go_enter Try.func32, Try.ntmps32
  go_wp2_with fail
  go_loopw [4, 5] (fun n' i' wr => ∃ i : Nat, i' = .int .i64 i ∧ i ≤ N ∧ n' = .int .i64 (Bq.valB (q.take i) : Nat) ∧ wr = w) (fun _ i' _ => N - (intOf i').toNat)
  case atStart => exact ⟨0, rfl, Nat.zero_le _, rfl, rfl⟩
  case round =>
    obtain ⟨i, rfl, hi, rfl, rfl⟩ := hrel
    have hvb := valB_lt (q.take i) (fun x hx => H256.out x (List.mem_of_mem_take hx))
    have hvb2 : Bq.valB (q.take i) ≤ 4294967295 := by
      have h1 : (q.take i).length ≤ 4 := by rw [List.length_take]; have := HIN.out; omega
      have h2 : 256 ^ (q.take i).length ≤ 256 ^ 4 := Nat.pow_le_pow_right (by decide) h1
      have h3 : 256 ^ 4 = 4294967296 := by decide
      omega
    obtain ⟨n, en⟩ : ∃ n, Bq.valB (q.take i) = n := ⟨_, rfl⟩
    rw [en] at hvb2 ⊢
    have HEN := Lib.hid en
    clear hvb en
    by_cases hlt : i < N
    · have k0 := HC.out i hlt
      obtain ⟨x, ex⟩ : ∃ x, q.getD i 0 = x := ⟨_, rfl⟩
      rw [ex] at k0
      have hqi : q[i]? = some x := by
        have hl : i < q.length := by rw [HN.out]; exact hlt
        rw [List.getD_eq_getElem?_getD, List.getElem?_eq_getElem hl] at ex
        rw [List.getElem?_eq_getElem hl]
        exact congrArg some ex
      have hx : x < 256 := H256.out x (List.mem_of_getElem? hqi)
      have HV : Hid (Bq.valB (q.take (i + 1)) = n * 256 + x) := by unfold Hid; rw [valB_take hqi, HEN.out]
      clear hqi ex
      go_wp2
      go_roundw
      case rel => exact ⟨i + 1, by go_num, hlt, by rw [HV.out]; go_num, by first | rfl | trivial⟩
      case measure => simp [intOf]; omega
    · obtain rfl : i = N := by omega
      have hd : decide ((i : Int) < (i : Int)) = false := by simp
      have HW : Hid (∀ w', Calls Try.prog 30 #[.int .i64 (n : Int)] w' (BytesEnd (Bq.whole (n : Int)) w')) := fun w' => refWhole_any n w'
      have HNV : Hid (Bq.valB q = n) := by
        have := HEN.out
        rwa [List.take_of_length_le (by rw [HN.out]; exact Nat.le_refl _)] at this
      have HCV : Hid (∀ W, Below wr.heap.size wr W → (convert 24 9 (.slice (some ⟨bk, off, none⟩) i c)).run Try.prog W = .ok (.string (strOf q)) W) := fun W h => by
        have := conv_str (HQA.out.on h)
        rwa [HN.out] at this
      have cv0 := HCV.out wr (Below.refl _ _)
      have cv1 := HCV.out wr.drew (Below.refl _ _).drew
      have hSB := str_beq (Bq.whole_byte (n : Int)) H256.out
      by_cases hwq : Bq.whole (n : Int) = q
      · rw [decide_eq_true hwq] at hSB
        have HSB := Lib.hid hSB
        have HQ : Hid (numberP q = (n, true)) := by
          unfold Hid numberP
          rw [HNV.out, if_pos ⟨HIN.out, hwq⟩]
        clear hSB hwq
        go_upto_region 8 with (fail)
        go_region_law (go_simp; go_at_call 30; refine (HW.out _).mono ?_; intro e w1 hh; obtain ⟨A1, c1, rfl, hq1, hb1⟩ := hh; have hbx : Below wr.heap.size wr w1 := (by first | exact reg_a hb1 | exact hb1); have cv2 := HCV.out w1 hbx; have cv3 := conv_str hq1; have hsb := HSB.out; simp only [])
        all_goals
          go_wp2
          go_ret2
          exact ⟨by rw [HQ.out]; rfl, hbx⟩
      · rw [decide_eq_false hwq] at hSB
        have HSB := Lib.hid hSB
        have HQ : Hid (numberP q = (0, false)) := by
          unfold Hid numberP
          rw [HNV.out, if_neg fun h => hwq h.2]
        clear hSB hwq
        go_upto_region 8 with (fail)
        go_region_law (go_simp; go_at_call 30; refine (HW.out _).mono ?_; intro e w1 hh; obtain ⟨A1, c1, rfl, hq1, hb1⟩ := hh; have hbx : Below wr.heap.size wr w1 := (by first | exact reg_a hb1 | exact hb1); have cv2 := HCV.out w1 hbx; have cv3 := conv_str hq1; have hsb := HSB.out; simp only [])
        all_goals
          go_wp2
          go_ret2
          exact ⟨by rw [HQ.out]; rfl, hbx⟩
end Go.Proofs.Ytkjofadabaecfaa
