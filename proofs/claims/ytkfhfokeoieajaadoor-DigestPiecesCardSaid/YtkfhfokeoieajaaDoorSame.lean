/-
  The contract of digest.Same.
-/
import Derived.Test.YtkfhfokeoieajaaDoorSum
namespace Go.Proofs.YtkfhfokeoieajaaDoor
open Go.RowKit

theorem i64_small (n : Nat) (h : n < 9223372036854775808) : IntKind.i64.wrap (n : Int) = (n : Int) := by
  simp only [IntKind.wrap, IntKind.bits, IntKind.signed]
  simp
  omega
theorem ofInt_i64 (a : Nat) (ha : a < 9223372036854775808) : (BitVec.ofInt 64 (a : Int)).toNat = a := by
  rw [BitVec.ofInt_natCast, BitVec.toNat_ofNat]; exact Nat.mod_eq_of_lt (by omega)
theorem i64_or_nat (a b : Nat) (ha : a < 9223372036854775808) (hb : b < 9223372036854775808) : bits .or .i64 (a : Int) (b : Int) = ((a ||| b : Nat) : Int) := by
  have hx : a ||| b < 2 ^ 63 := Nat.or_lt_two_pow (by omega) (by omega)
  show IntKind.i64.wrap ((BitVec.ofInt 64 (a : Int) ||| BitVec.ofInt 64 (b : Int)).toNat : Int) = _
  rw [BitVec.toNat_or, ofInt_i64 a ha, ofInt_i64 b hb, i64_small _ (by omega)]
theorem i64_xor_nat (a b : Nat) (ha : a < 9223372036854775808) (hb : b < 9223372036854775808) : bits .xor .i64 (a : Int) (b : Int) = ((a ^^^ b : Nat) : Int) := by
  have hx : a ^^^ b < 2 ^ 63 := Nat.xor_lt_two_pow (by omega) (by omega)
  show IntKind.i64.wrap ((BitVec.ofInt 64 (a : Int) ^^^ BitVec.ofInt 64 (b : Int)).toNat : Int) = _
  rw [BitVec.toNat_xor, ofInt_i64 a ha, ofInt_i64 b hb, i64_small _ (by omega)]
theorem xor_zero (a b : Nat) : a ^^^ b = 0 ↔ a = b := by
  constructor
  · intro h
    have := congrArg (a ^^^ ·) h
    simp only [← Nat.xor_assoc, Nat.xor_self, Nat.zero_xor, Nat.xor_zero] at this
    exact this.symm
  · rintro rfl; exact Nat.xor_self a
theorem or_zero (a b : Nat) : a ||| b = 0 ↔ a = 0 ∧ b = 0 := by
  constructor
  · intro h
    have h1 : a ≤ a ||| b := Nat.left_le_or
    have h2 : b ≤ a ||| b := Nat.right_le_or
    omega
  · rintro ⟨rfl, rfl⟩; rfl

/-- What has been gathered says whether the lengths, and the first k bytes, are the same. -/
def Gathers (p q : List Nat) (k D : Nat) : Prop := D < 9223372036854775808 ∧ (D = 0 ↔ p.length = q.length ∧ p.take k = q.take k)

theorem gathers_next {p q : List Nat} {k D : Nat} (h : Gathers p q k D) (h1 : k < p.length) (h2 : k < q.length) (hx : p.getD k 0 < 256) (hy : q.getD k 0 < 256) :
    Gathers p q (k + 1) (D ||| (p.getD k 0 ^^^ q.getD k 0)) := by
  have hlt : p.getD k 0 ^^^ q.getD k 0 < 2 ^ 8 := Nat.xor_lt_two_pow (by omega) (by omega)
  refine ⟨?_, ?_⟩
  · have : D ||| (p.getD k 0 ^^^ q.getD k 0) < 2 ^ 63 := Nat.or_lt_two_pow (by have := h.1; omega) (by omega)
    omega
  · rw [or_zero, xor_zero, h.2, List.take_succ_eq_append_getElem h1, List.take_succ_eq_append_getElem h2]
    have ep : p.getD k 0 = p[k] := by rw [List.getD_eq_getElem?_getD, List.getElem?_eq_getElem h1]; rfl
    have eq : q.getD k 0 = q[k] := by rw [List.getD_eq_getElem?_getD, List.getElem?_eq_getElem h2]; rfl
    rw [ep, eq]
    constructor
    · rintro ⟨⟨a, b⟩, c⟩; exact ⟨a, by rw [b, c]⟩
    · rintro ⟨a, b⟩
      have hl : (p.take k).length = (q.take k).length := by rw [List.length_take, List.length_take]; omega
      obtain ⟨c, d⟩ := List.append_inj b hl
      exact ⟨⟨a, c⟩, by simpa using d⟩
theorem gathers_end {p q : List Nat} {k D : Nat} (h : Gathers p q k D) (hk : k = min p.length q.length) : (((D : Nat) : Int) == 0) = decide (p = q) := by
  rw [Bool.eq_iff_iff, beq_iff_eq, decide_eq_true_iff]
  have : ((D : Int) = 0) ↔ D = 0 := by omega
  rw [this, h.2]
  constructor
  · rintro ⟨a, b⟩
    rwa [List.take_of_length_le (by omega), List.take_of_length_le (by omega)] at b
  · rintro rfl; exact ⟨rfl, rfl⟩
theorem gathers_start (p q : List Nat) (h1 : p.length ≤ 9223372036854775807) (h2 : q.length ≤ 9223372036854775807) : Gathers p q 0 (p.length ^^^ q.length) := by
  refine ⟨?_, ?_⟩
  · have : p.length ^^^ q.length < 2 ^ 63 := Nat.xor_lt_two_pow (by omega) (by omega)
    omega
  · rw [xor_zero]; simp

set_option maxHeartbeats 400000 in
theorem same_any (p q : List Nat) (A A' : Option Addr) (c c' : Nat) (w : World) (hp : ArgIs w A c p) (hq : ArgIs w A' c' q) :
    Calls Tryd.prog 14 #[.slice A p.length c, .slice A' q.length c'] w fun e w' => e = .returned (.bool (decide (p = q))) ∧ ∃ k, w' = w.drewN k := by
  have g0 := gathers_start p q (Nat.le_trans hp.1 hp.2.1) (Nat.le_trans hq.1 hq.2.1)
  have hpl := Nat.le_trans hp.1 hp.2.1
  have hql := Nat.le_trans hq.1 hq.2.1
  obtain ⟨l, hl⟩ : ∃ l, p.length = l := ⟨_, rfl⟩
  obtain ⟨m, hm⟩ : ∃ m, q.length = m := ⟨_, rfl⟩
  have hx := i64_xor_nat l m (by omega) (by omega)
  rw [hl, hm] at g0 ⊢
  rw [hl] at hpl
  rw [hm] at hql
  have Hl := Lib.hid hl
  have Hm := Lib.hid hm
  clear hl hm
  by_cases hml : (m : Int) < (l : Int)
  · go_enter Tryd.func14, Tryd.ntmps14
    go_wp2_with fail
    go_loopw [5, 17] (fun v i wr => ∃ k D j : Nat, k ≤ m ∧ i = .int .i64 k ∧ v = .int .i64 D ∧ Gathers p q k D ∧ wr = w.drewN j) (fun _ i _ => m - (intOf i).toNat)
    case atStart => exact ⟨0, _, 0, Nat.zero_le _, rfl, rfl, g0, rfl⟩
    case round =>
      obtain ⟨k, D, j, hk, rfl, rfl, hG, rfl⟩ := hrel
      by_cases hlt : k < m
      · have hd : decide ((k : Int) < (m : Int)) = true := by simp; omega
        obtain ⟨b, off, rfl, hbw, hby⟩ := hp.2.2.2 (by rw [Hl.out]; omega)
        obtain ⟨b', off', rfl, hbw', hby'⟩ := hq.2.2.2 (by rw [Hm.out]; omega)
        have hc1 := hby.get (j := k) (by rw [Hl.out]; omega)
        have hc2 := hby'.get (j := k) (by rw [Hm.out]; omega)
        have hx1 := hby.lt k
        have hx2 := hby'.lt k
        have HN := Lib.hid (gathers_next hG (by rw [Hl.out]; omega) (by rw [Hm.out]; omega) hx1 hx2)
        have hD := hG.1
        obtain ⟨x, ex⟩ : ∃ x, p.getD k 0 = x := ⟨_, rfl⟩
        obtain ⟨y, ey⟩ : ∃ y, q.getD k 0 = y := ⟨_, rfl⟩
        rw [ex] at hc1 hx1 HN
        rw [ey] at hc2 hx2 HN
        clear ex ey
        have hxy : x ^^^ y < 256 := by have : x ^^^ y < 2 ^ 8 := Nat.xor_lt_two_pow (by omega) (by omega); omega
        have q1 := u8_xor_nat x y hx1 hx2
        have q2 := i64_or_nat D (x ^^^ y) hD (by omega)
        have q3 : IntKind.i64.wrap ((x ^^^ y : Nat) : Int) = ((x ^^^ y : Nat) : Int) := i64_small _ (by omega)
        have k1 : (k : Int) < (l : Int) := by omega
        have k2 : (k : Int) < (m : Int) := by omega
        clear hp hq hby hby'
        go_wp2_with fail
        go_quiet (fail)
        clear hc1 hc2 q1 q2 q3 k1 k2
        go_wp2
        go_roundw
        case rel => exact ⟨k + 1, _, _, by omega, by go_num, rfl, HN.out, rfl⟩
        case measure => simp [intOf]; omega
      · have hd : decide ((k : Int) < (m : Int)) = false := by simp; omega
        have HE := Lib.hid (gathers_end hG (by rw [Hl.out, Hm.out]; omega))
        clear hp hq
        go_wp2
        go_ret
        exact ⟨by rw [HE.out]; rfl, _, rfl⟩
  · go_enter Tryd.func14, Tryd.ntmps14
    go_wp2_with fail
    go_loopw [5, 17] (fun v i wr => ∃ k D j : Nat, k ≤ l ∧ i = .int .i64 k ∧ v = .int .i64 D ∧ Gathers p q k D ∧ wr = w.drewN j) (fun _ i _ => l - (intOf i).toNat)
    case atStart => exact ⟨0, _, 0, Nat.zero_le _, rfl, rfl, g0, rfl⟩
    case round =>
      obtain ⟨k, D, j, hk, rfl, rfl, hG, rfl⟩ := hrel
      by_cases hlt : k < l
      · have hd : decide ((k : Int) < (l : Int)) = true := by simp; omega
        obtain ⟨b, off, rfl, hbw, hby⟩ := hp.2.2.2 (by rw [Hl.out]; omega)
        obtain ⟨b', off', rfl, hbw', hby'⟩ := hq.2.2.2 (by rw [Hm.out]; omega)
        have hc1 := hby.get (j := k) (by rw [Hl.out]; omega)
        have hc2 := hby'.get (j := k) (by rw [Hm.out]; omega)
        have hx1 := hby.lt k
        have hx2 := hby'.lt k
        have HN := Lib.hid (gathers_next hG (by rw [Hl.out]; omega) (by rw [Hm.out]; omega) hx1 hx2)
        have hD := hG.1
        obtain ⟨x, ex⟩ : ∃ x, p.getD k 0 = x := ⟨_, rfl⟩
        obtain ⟨y, ey⟩ : ∃ y, q.getD k 0 = y := ⟨_, rfl⟩
        rw [ex] at hc1 hx1 HN
        rw [ey] at hc2 hx2 HN
        clear ex ey
        have hxy : x ^^^ y < 256 := by have : x ^^^ y < 2 ^ 8 := Nat.xor_lt_two_pow (by omega) (by omega); omega
        have q1 := u8_xor_nat x y hx1 hx2
        have q2 := i64_or_nat D (x ^^^ y) hD (by omega)
        have q3 : IntKind.i64.wrap ((x ^^^ y : Nat) : Int) = ((x ^^^ y : Nat) : Int) := i64_small _ (by omega)
        have k1 : (k : Int) < (l : Int) := by omega
        have k2 : (k : Int) < (m : Int) := by omega
        clear hp hq hby hby'
        go_wp2_with fail
        go_quiet (fail)
        clear hc1 hc2 q1 q2 q3 k1 k2
        go_wp2
        go_roundw
        case rel => exact ⟨k + 1, _, _, by omega, by go_num, rfl, HN.out, rfl⟩
        case measure => simp [intOf]; omega
      · have hd : decide ((k : Int) < (l : Int)) = false := by simp; omega
        have HE := Lib.hid (gathers_end hG (by rw [Hl.out, Hm.out]; omega))
        clear hp hq
        go_wp2
        go_ret
        exact ⟨by rw [HE.out]; rfl, _, rfl⟩
end Go.Proofs.YtkfhfokeoieajaaDoor
