/-
  The contracts of the small functions on words: rot, word, putWord.
-/
import Derived.Test.YtkfhfokeoieajaaDoorRows
import Derived.Test.YtkfhfokeoieajaaDoorSha
import Derived.WalkKit
import Derived.WalkSpells
import Derived.WalkLawsBesides
import Derived.Lib.Hide
import Derived.Deep.QuietTactic
import Derived.BigQuiet
namespace Go.Proofs.YtkfhfokeoieajaaDoor
open Go.RowKit
open Sha (rotr)

theorem and31 (n : Nat) (h0 : 0 < n) (h1 : n < 32) : bits .and .u64 (IntKind.u64.wrap (-(n : Int))) 31 = 32 - (n : Int) := by
  have h : ∀ n < 32, 0 < n → bits .and .u64 (IntKind.u64.wrap (-((n : Nat) : Int))) 31 = 32 - (n : Int) := by decide +kernel
  exact h n h1 h0

/-- Words as the model's numbers. -/
theorem u32_ofInt (x : BitVec 32) : BitVec.ofInt 32 (x.toNat : Int) = x := by
  rw [BitVec.ofInt_natCast]; simp
theorem u32_back (x : BitVec 32) : IntKind.u32.wrap (x.toNat : Int) = (x.toNat : Int) := by
  rw [IntKind.wrap_u32']; have := x.isLt; omega
theorem u32_xor (x y : BitVec 32) : bits .xor .u32 (x.toNat : Int) (y.toNat : Int) = ((x ^^^ y).toNat : Int) := by
  show IntKind.u32.wrap ((BitVec.ofInt 32 (x.toNat : Int) ^^^ BitVec.ofInt 32 (y.toNat : Int)).toNat : Int) = _
  rw [u32_ofInt, u32_ofInt, u32_back]
theorem u32_and (x y : BitVec 32) : bits .and .u32 (x.toNat : Int) (y.toNat : Int) = ((x &&& y).toNat : Int) := by
  show IntKind.u32.wrap ((BitVec.ofInt 32 (x.toNat : Int) &&& BitVec.ofInt 32 (y.toNat : Int)).toNat : Int) = _
  rw [u32_ofInt, u32_ofInt, u32_back]
theorem u32_or (x y : BitVec 32) : bits .or .u32 (x.toNat : Int) (y.toNat : Int) = ((x ||| y).toNat : Int) := by
  show IntKind.u32.wrap ((BitVec.ofInt 32 (x.toNat : Int) ||| BitVec.ofInt 32 (y.toNat : Int)).toNat : Int) = _
  rw [u32_ofInt, u32_ofInt, u32_back]
theorem u32_add (x y : BitVec 32) : IntKind.u32.wrap ((x.toNat : Int) + (y.toNat : Int)) = ((x + y).toNat : Int) := by
  rw [IntKind.wrap_u32', BitVec.toNat_add]; omega
theorem u32_shl (x : BitVec 32) (n : Nat) : IntKind.u32.wrap ((x.toNat : Int) * 2 ^ n) = ((x <<< n).toNat : Int) := by
  rw [IntKind.wrap_u32', BitVec.toNat_shiftLeft, Nat.shiftLeft_eq]
  simp
theorem u32_shr (x : BitVec 32) (n : Nat) : (x.toNat : Int) / 2 ^ n = ((x >>> n).toNat : Int) := by
  rw [BitVec.toNat_ushiftRight, Nat.shiftRight_eq_div_pow]
  simp

theorem rotr_of (x : BitVec 32) (n : Nat) (h0 : 0 < n) (h1 : n < 32) :
    bits BinOp.or IntKind.u32 ((x.toNat : Int) * 2 ^ (32 - n) % 4294967296) ((x.toNat : Int) / 2 ^ (32 - (32 - n))) = ((rotr x n).toNat : Int) := by
  have e1 := u32_shl x (32 - n)
  rw [IntKind.wrap_u32'] at e1
  rw [e1, show 32 - (32 - n) = n from by omega, u32_shr, u32_or, BitVec.or_comm]
  rfl

theorem ret_int {k : IntKind} {a b : Int} (h : a = b) : Ending.returned (.int k a) = .returned (.int k b) := by rw [h]

set_option maxHeartbeats 400000 in
theorem rotl_any (x : BitVec 32) (n : Nat) (h0 : 0 < n) (h1 : n < 32) (w : World) :
    Calls Tryd.prog 34 #[.int .u32 x.toNat, .int .i64 (-(n : Int))] w fun e w' => e = .returned (.int .u32 (rotr x n).toNat) ∧ w = w' := by
  have hb := and31 n h0 h1
  go_enter Tryd.func34, Tryd.ntmps34
  go_wp2
  go_ret
  exact ⟨ret_int (rotr_of x n h0 h1), rfl⟩

set_option maxHeartbeats 400000 in
theorem rot_any (x : BitVec 32) (n : Nat) (h0 : 0 < n) (h1 : n < 32) (w : World) :
    Calls Tryd.prog 32 #[.int .u32 x.toNat, .int .i64 n] w fun e w' => e = .returned (.int .u32 (rotr x n).toNat) ∧ w = w' := by
  go_enter Tryd.func32, Tryd.ntmps32
  go_wp2_with fail
  refine (rotl_any x n h0 h1 _).mono ?_
  rintro e w' ⟨rfl, rfl⟩
  go_wp2
  go_ret
  exact ⟨rfl, rfl⟩

/-- The same for a count that is any integer. -/
theorem rot_int (x : BitVec 32) (m : Int) (h0 : 0 < m) (h1 : m < 32) (w : World) :
    Calls Tryd.prog 32 #[.int .u32 x.toNat, .int .i64 m] w fun e w' => e = .returned (.int .u32 (rotr x m.toNat).toNat) ∧ w = w' := by
  obtain ⟨n, rfl⟩ := Int.eq_ofNat_of_zero_le (Int.le_of_lt h0)
  exact rot_any x n (by omega) (by omega) w

theorem rot_quiet (x : BitVec 32) (m : Int) (h0 : 0 < m) (h1 : m < 32) (w : World) :
    Calls Tryd.prog 32 #[.int .u32 x.toNat, .int .i64 m] w fun e w' => e = .returned (.int .u32 (rotr x m.toNat).toNat) ∧ w' = w :=
  (rot_int x m h0 h1 w).mono fun _ _ ⟨he, hw⟩ => ⟨he, hw.symm⟩

theorem u32_or_nat' (a b : Nat) (ha : a < 4294967296) (hb : b < 4294967296) : bits .or .u32 (a : Int) (b : Int) = ((a ||| b : Nat) : Int) := by
  have e1 : ((BitVec.ofNat 32 a).toNat : Int) = (a : Int) := by rw [BitVec.toNat_ofNat, Nat.mod_eq_of_lt (by omega)]
  have e2 : ((BitVec.ofNat 32 b).toNat : Int) = (b : Int) := by rw [BitVec.toNat_ofNat, Nat.mod_eq_of_lt (by omega)]
  have h := u32_or (BitVec.ofNat 32 a) (BitVec.ofNat 32 b)
  rw [e1, e2, BitVec.toNat_or, BitVec.toNat_ofNat, BitVec.toNat_ofNat, Nat.mod_eq_of_lt (by omega), Nat.mod_eq_of_lt (by omega)] at h
  exact h
theorem or_add (a b i : Nat) (h : b < 2 ^ i) : (2 ^ i * a) ||| b = 2 ^ i * a + b := (Nat.two_pow_add_eq_or_of_lt h a).symm

theorem word_or (b0 b1 b2 b3 : Nat) (h0 : b0 < 256) (h1 : b1 < 256) (h2 : b2 < 256) (h3 : b3 < 256) :
    bits BinOp.or IntKind.u32 (bits BinOp.or IntKind.u32 (bits BinOp.or IntKind.u32 ((b0 : Int) * 16777216) ((b1 : Int) * 65536)) ((b2 : Int) * 256)) (b3 : Int) = ((Sha.word b0 b1 b2 b3).toNat : Int) := by
  have e0 : ((b0 : Int) * 16777216) = ((2 ^ 24 * b0 : Nat) : Int) := by omega
  have e1 : ((b1 : Int) * 65536) = ((b1 * 65536 : Nat) : Int) := by omega
  have e2 : ((b2 : Int) * 256) = ((b2 * 256 : Nat) : Int) := by omega
  rw [e0, e1, e2, u32_or_nat' _ _ (by omega) (by omega), or_add _ _ 24 (by omega), u32_or_nat' _ _ (by omega) (by omega),
    show 2 ^ 24 * b0 + b1 * 65536 = 2 ^ 16 * (256 * b0 + b1) from by omega, or_add _ _ 16 (by omega), u32_or_nat' _ _ (by omega) (by omega),
    show 2 ^ 16 * (256 * b0 + b1) + b2 * 256 = 2 ^ 8 * (65536 * b0 + 256 * b1 + b2) from by omega, or_add _ _ 8 (by omega)]
  unfold Sha.word
  rw [BitVec.toNat_ofNat, Nat.mod_eq_of_lt (by omega)]
  omega

set_option maxHeartbeats 400000 in
theorem word_any (b off n c b0 b1 b2 b3 : Nat) (w : World) (hn : 4 ≤ n) (h0 : b0 < 256) (h1 : b1 < 256) (h2 : b2 < 256) (h3 : b3 < 256)
    (c0 : w.cell? ⟨b, off, none⟩ = some (.int .u8 b0)) (c1 : w.cell? ⟨b, off + 1, none⟩ = some (.int .u8 b1))
    (c2 : w.cell? ⟨b, off + 2, none⟩ = some (.int .u8 b2)) (c3 : w.cell? ⟨b, off + 3, none⟩ = some (.int .u8 b3)) :
    Calls Tryd.prog 33 #[.slice (some ⟨b, off, none⟩) n c] w fun e w' => e = .returned (.int .u32 (Sha.word b0 b1 b2 b3).toNat) ∧ ∃ k, w' = w.drewN k := by
  have i0 : (0 : Int) < (n : Int) := by omega
  have i1 : (1 : Int) < (n : Int) := by omega
  have i2 : (2 : Int) < (n : Int) := by omega
  have i3 : (3 : Int) < (n : Int) := by omega
  go_enter Tryd.func33, Tryd.ntmps33
  go_wp2
  go_quiet (fail)
  go_wp2
  go_ret
  exact ⟨ret_int (word_or b0 b1 b2 b3 h0 h1 h2 h3), _, rfl⟩

set_option maxHeartbeats 400000 in
theorem putWord_any (b off n c : Nat) (x : BitVec 32) (w : World) (hn : 4 ≤ n) (v0 v1 v2 v3 : Value)
    (c0 : w.cell? ⟨b, off, none⟩ = some v0) (c1 : w.cell? ⟨b, off + 1, none⟩ = some v1)
    (c2 : w.cell? ⟨b, off + 2, none⟩ = some v2) (c3 : w.cell? ⟨b, off + 3, none⟩ = some v3)
    (f0 : w.frozen? ⟨b, off, none⟩ = false) (f1 : w.frozen? ⟨b, off + 1, none⟩ = false) (f2 : w.frozen? ⟨b, off + 2, none⟩ = false) (f3 : w.frozen? ⟨b, off + 3, none⟩ = false) :
    Calls Tryd.prog 28 #[.slice (some ⟨b, off, none⟩) n c, .int .u32 x.toNat] w fun e w' => e = .returned (.tuple #[]) ∧
      (((w.setCell ⟨b, off, none⟩ (.int .u8 ((x.toNat / 16777216 : Nat) : Int))).setCell ⟨b, off + 1, none⟩ (.int .u8 ((x.toNat / 65536 % 256 : Nat) : Int))).setCell
        ⟨b, off + 2, none⟩ (.int .u8 ((x.toNat / 256 % 256 : Nat) : Int))).setCell ⟨b, off + 3, none⟩ (.int .u8 ((x.toNat % 256 : Nat) : Int)) = w' := by
  have i0 : (0 : Int) < (n : Int) := by omega
  have i1 : (1 : Int) < (n : Int) := by omega
  have i2 : (2 : Int) < (n : Int) := by omega
  have i3 : (3 : Int) < (n : Int) := by omega
  go_enter Tryd.func28, Tryd.ntmps28
  go_wp2
  go_end0
  exact ⟨rfl, by simp⟩

theorem not_of (x : BitVec 32) : bits BinOp.xor IntKind.u32 (if IntKind.u32.signed = true then -1 else IntKind.u32.max) (x.toNat : Int) = ((~~~x).toNat : Int) := by
  have h := u32_xor (BitVec.allOnes 32) x
  rw [BitVec.allOnes_xor] at h
  exact h
theorem add2_of (a b : BitVec 32) : ((a.toNat : Int) + (b.toNat : Int)) % 4294967296 = ((a + b).toNat : Int) := by
  simp only [BitVec.toNat_add]; omega
theorem add4_of (a b c d : BitVec 32) : ((a.toNat : Int) + (b.toNat : Int) + (c.toNat : Int) + (d.toNat : Int)) % 4294967296 = ((a + b + c + d).toNat : Int) := by
  simp only [BitVec.toNat_add]; omega
theorem add5_of (a b c d e : BitVec 32) : ((a.toNat : Int) + (b.toNat : Int) + (c.toNat : Int) + (d.toNat : Int) + (e.toNat : Int)) % 4294967296 = ((a + b + c + d + e).toNat : Int) := by
  simp only [BitVec.toNat_add]; omega
theorem sig0_of (x : BitVec 32) : bits BinOp.xor IntKind.u32 (bits BinOp.xor IntKind.u32 ((rotr x 7).toNat : Int) ((rotr x 18).toNat : Int)) ((x.toNat : Int) / 8) = ((Sha.sig0 x).toNat : Int) := by
  have h := u32_shr x 3
  rw [show (2 : Int) ^ 3 = 8 from by decide] at h
  rw [h, u32_xor, u32_xor]; rfl
theorem sig1_of (x : BitVec 32) : bits BinOp.xor IntKind.u32 (bits BinOp.xor IntKind.u32 ((rotr x 17).toNat : Int) ((rotr x 19).toNat : Int)) ((x.toNat : Int) / 1024) = ((Sha.sig1 x).toNat : Int) := by
  have h := u32_shr x 10
  rw [show (2 : Int) ^ 10 = 1024 from by decide] at h
  rw [h, u32_xor, u32_xor]; rfl
end Go.Proofs.YtkfhfokeoieajaaDoor
