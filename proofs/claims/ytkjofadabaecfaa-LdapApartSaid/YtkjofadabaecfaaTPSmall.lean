/-
  The program's small functions: tags, depths, bytes.Equal, joined.
-/
import Derived.Test.YtkjofadabaecfaaTRNumber
import Derived.Test.YtkjofadabaecfaaTREncode
import Derived.Test.YtkjofadabaecfaaTRDecode
import Derived.Laws.Closers25
import Derived.Laws.Closers25b
namespace Go.Proofs.Ytkjofadabaecfaa
open Go.RowKit

/-- A bool that tells whether something is so; the world is as it was. -/
def Told (P : Prop) (w : World) (e : Ending) (w' : World) : Prop := w = w' ∧ ((P ∧ e = .returned (.bool true)) ∨ (¬ P ∧ e = .returned (.bool false)))
set_option maxRecDepth 100000 in
theorem ands : ∀ x : Fin 256, bits .and .u8 ((x.val : Nat) : Int) 32 = ((x.val / 32 % 2 * 32 : Nat) : Int) := by decide
theorem and32 {a : Nat} (ha : a < 256) : bits .and .u8 (a : Int) 32 = ((a / 32 % 2 * 32 : Nat) : Int) := ands ⟨a, ha⟩

set_option maxHeartbeats 1000000 in
theorem allowed_any (a : Nat) (ha : a < 256) (w : World) : Calls Try.prog 58 #[.int .u8 (a : Int)] w (Told (a % 32 ≠ 31) w) := by
  by_cases h : a % 32 = 31
  · have hd : ((a : Int) % 32 != 31) = false := by rw [bne_eq_false_iff_eq]; omega
    have HQ : Hid (¬ (a % 32 ≠ 31)) := fun n => n h
    clear h
    go_enter Try.func58, Try.ntmps58
    go_wp2
    go_ret
    exact ⟨rfl, .inr ⟨HQ.out, rfl⟩⟩
  · have hd : ((a : Int) % 32 != 31) = true := by rw [bne_iff_ne]; omega
    have HQ : Hid (a % 32 ≠ 31) := h
    clear h
    go_enter Try.func58, Try.ntmps58
    go_wp2
    go_ret
    exact ⟨rfl, .inl ⟨HQ.out, rfl⟩⟩
set_option maxHeartbeats 1000000 in
theorem hasList_any (a : Nat) (ha : a < 256) (w : World) : Calls Try.prog 57 #[.int .u8 (a : Int)] w (Told (a / 32 % 2 = 1) w) := by
  have hx := and32 ha
  by_cases h : a / 32 % 2 = 1
  · have hd : (((a / 32 % 2 * 32 : Nat) : Int) != 0) = true := by rw [bne_iff_ne]; omega
    rw [← hx] at hd
    have HQ : Hid (a / 32 % 2 = 1) := h
    clear hx h
    go_enter Try.func57, Try.ntmps57
    go_wp2
    go_ret
    exact ⟨rfl, .inl ⟨HQ.out, rfl⟩⟩
  · have hd : (((a / 32 % 2 * 32 : Nat) : Int) != 0) = false := by
      have : a / 32 % 2 = 0 := by omega
      simp [this]
    rw [← hx] at hd
    have HQ : Hid (¬ a / 32 % 2 = 1) := h
    clear hx h
    go_enter Try.func57, Try.ntmps57
    go_wp2
    go_ret
    exact ⟨rfl, .inr ⟨HQ.out, rfl⟩⟩

set_option maxHeartbeats 1000000 in
theorem full_any (d : Nat) (hd : d ≤ 16) (w : World) : Calls Try.prog 59 #[.agg #[.int .i64 (d : Int)]] w (Tells (d = 16) w) := by
  by_cases h : d = 16
  · have hdd : decide ((16 : Int) ≤ (d : Int)) = true := decide_eq_true (by omega)
    have HQ : Hid (∀ o, Tells (d = 16) w (.returned (.bool true)) (w.alloc o)) := fun o => Tells.yes h ((Below.refl _ _).alloc (Nat.le_refl _) _)
    clear h
    go_enter Try.func59, Try.ntmps59
    go_wp2
    go_ret
    exact HQ.out _
  · have hdd : decide ((16 : Int) ≤ (d : Int)) = false := decide_eq_false (by omega)
    have HQ : Hid (∀ o, Tells (d = 16) w (.returned (.bool false)) (w.alloc o)) := fun o => Tells.no h ((Below.refl _ _).alloc (Nat.le_refl _) _)
    clear h
    go_enter Try.func59, Try.ntmps59
    go_wp2
    go_ret
    exact HQ.out _
set_option maxHeartbeats 1000000 in
theorem inner_any (d : Nat) (hd : d ≤ 16) (w : World) : Calls Try.prog 60 #[.agg #[.int .i64 (d : Int)]] w fun e w' => e = .returned (.agg #[.int .i64 ((d + 1 : Nat) : Int)]) ∧ Below w.heap.size w w' := by
  go_enter Try.func60, Try.ntmps60
  go_wp2
  refine bodyPost_ret (v := .agg #[.int .i64 ((d + 1 : Nat) : Int)]) ?_ rfl ?_
  · simp [results, Try.results60, go_sem]
  · exact ⟨rfl, ((Below.refl _ _).alloc (Nat.le_refl _) _).alloc (by simp) _⟩

set_option maxHeartbeats 1000000 in
theorem bytesEqual_any (q p : List Nat) (A B : Option Addr) (c d : Nat) (w : World) (hq : ArgIs w A c q) (hp : ArgIs w B d p) : Calls Try.prog 26 #[.slice A q.length c, .slice B p.length d] w (Told (q = p) w) := by
  have hT := str_beq hq.2.2.1 hp.2.2.1
  have h1 := conv_str hq
  have h2 := conv_str hp
  clear hq hp
  by_cases h : q = p
  · rw [decide_eq_true h] at hT
    have HQ : Hid (q = p) := h
    clear h
    go_enter Try.func26, Try.ntmps26
    go_wp2
    go_ret
    exact ⟨rfl, .inl ⟨HQ.out, rfl⟩⟩
  · rw [decide_eq_false h] at hT
    have HQ : Hid (¬ q = p) := h
    clear h
    go_enter Try.func26, Try.ntmps26
    go_wp2
    go_ret
    exact ⟨rfl, .inr ⟨HQ.out, rfl⟩⟩

theorem i64_small (n : Nat) (h : n < 9223372036854775808) : IntKind.i64.wrap (n : Int) = (n : Int) := by
  simp only [IntKind.wrap, IntKind.bits, IntKind.signed]
  simp
  omega
theorem ofInt_i64 (a : Nat) (ha : a < 9223372036854775808) : (BitVec.ofInt 64 (a : Int)).toNat = a := by
  rw [BitVec.ofInt_natCast, BitVec.toNat_ofNat]; exact Nat.mod_eq_of_lt (by omega)
theorem i64_or_nat (a b : Nat) (ha : a < 9223372036854775808) (hb : b < 9223372036854775808) : bits .or .i64 (a : Int) (b : Int) = ((a ||| b : Nat) : Int) := by
  have hx : a ||| b < 2 ^ 63 := Nat.or_lt_two_pow (by omega) (by omega)
  show IntKind.i64.wrap ((BitVec.ofInt 64 (a : Int) ||| BitVec.ofInt 64 (b : Int)).toNat : Int) = _
  rw [BitVec.toNat_or, ofInt_i64 a ha, ofInt_i64 b hb, i64_small _ (by omega)]
theorem or_join {v x : Nat} (hv : v < 281474976710656) (hx : x < 256) : bits .or .i64 (wrap64 ((v : Int) * 256)) (x : Int) = ((v * 256 + x : Nat) : Int) := by
  have e : wrap64 ((v : Int) * 256) = ((2 ^ 8 * v : Nat) : Int) := by
    unfold wrap64
    omega
  rw [e, i64_or_nat _ _ (by omega) (by omega), (Nat.two_pow_add_eq_or_of_lt (i := 8) (by omega) v).symm]
  omega

set_option maxHeartbeats 1000000 in
set_option maxRecDepth 100000 in
theorem joined_any (q : List Nat) (A : Option Addr) (c : Nat) (w : World) (hq : ArgIs w A c q) :
    Calls Try.prog 44 #[.slice A q.length c] w fun e w' => w = w' ∧ ∃ N : Int, e = .returned (.int .i64 N) ∧ (-9223372036854775808 ≤ N ∧ N ≤ 9223372036854775807) ∧ (q.length ≤ 7 → N = (Bq.valB q : Int)) := by
  obtain ⟨M, eM⟩ : ∃ M, q.length = M := ⟨_, rfl⟩
  have H256 := Lib.hid hq.2.2.1
  have HM := Lib.hid eM
  have hMc : M ≤ c := by have := hq.1; omega
  have hc63 : c ≤ 9223372036854775807 := hq.2.1
  have HC : Hid (0 < M → ∃ b off, A = some ⟨b, off, none⟩ ∧ b < w.heap.size ∧ ∀ j, j < q.length → w.cell? ⟨b, off + j, none⟩ = some (.int .u8 (q.getD j 0 : Nat))) := fun h => arg_get hq (by omega)
  rw [eM]
  clear eM hq
  go_enter Try.func44, Try.ntmps44
  go_wp2_with fail
  go_loopw [3, 8] (fun n' i' wr => ∃ (i : Nat) (N : Int), i' = .int .i64 i ∧ i ≤ M ∧ n' = .int .i64 N ∧ Hid ((-9223372036854775808 ≤ N ∧ N ≤ 9223372036854775807) ∧ (i ≤ 7 → N = (Bq.valB (q.take i) : Int))) ∧ wr = w) (fun _ i' _ => M - (intOf i').toNat)
  case atStart => exact ⟨0, 0, rfl, Nat.zero_le _, rfl, ⟨by decide, fun _ => rfl⟩, rfl⟩
  case round =>
    obtain ⟨i, N, rfl, hi, rfl, hN, rfl⟩ := hrel
    by_cases hlt : i < M
    · obtain ⟨b, off, rfl, hblt, hcell⟩ := HC.out (by omega)
      have k0 := hcell i (by rw [HM.out]; exact hlt)
      obtain ⟨x, ex⟩ : ∃ x, q.getD i 0 = x := ⟨_, rfl⟩
      rw [ex] at k0
      have hqi : q[i]? = some x := by
        have hl : i < q.length := by rw [HM.out]; exact hlt
        rw [List.getD_eq_getElem?_getD, List.getElem?_eq_getElem hl] at ex
        rw [List.getElem?_eq_getElem hl]
        exact congrArg some ex
      have hx : x < 256 := H256.out x (List.mem_of_getElem? hqi)
      have HV : Hid (Bq.valB (q.take (i + 1)) = Bq.valB (q.take i) * 256 + x) := valB_take hqi
      have HLV : Hid (Bq.valB (q.take i) < 256 ^ i) := by
        have := valB_lt (q.take i) (fun x hx => H256.out x (List.mem_of_mem_take hx))
        rwa [List.length_take, Nat.min_eq_left (by rw [HM.out]; exact hi)] at this
      clear hqi ex hcell
      go_wp2
      go_roundw
      case rel =>
        refine ⟨i + 1, bits .or .i64 (wrap64 (N * 256)) (x : Int), by go_num, hlt, rfl, ⟨bits_within .or .i64 _ _, fun h7 => ?_⟩, by first | rfl | trivial⟩
        have hNv := hN.out.2 (by omega)
        have h6 : 256 ^ i ≤ 256 ^ 6 := Nat.pow_le_pow_right (by decide) (by omega)
        have h66 : 256 ^ 6 = 281474976710656 := by decide
        rw [HV.out, hNv]
        exact or_join (by have := HLV.out; omega) hx
      case measure => simp [intOf]; omega
    · obtain rfl : i = M := by omega
      have hd : decide ((i : Int) < (i : Int)) = false := by simp
      have HQ : Hid ((-9223372036854775808 ≤ N ∧ N ≤ 9223372036854775807) ∧ (i ≤ 7 → N = (Bq.valB q : Int))) := by
        have := hN.out
        rwa [List.take_of_length_le (by rw [HM.out]; exact Nat.le_refl _)] at this
      clear hN
      go_wp2
      go_ret
      exact ⟨rfl, N, rfl, HQ.out⟩
end Go.Proofs.Ytkjofadabaecfaa
