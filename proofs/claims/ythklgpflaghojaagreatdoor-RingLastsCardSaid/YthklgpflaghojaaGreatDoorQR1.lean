/-
  QR1: Sha Words Spread Mix, side by side.
-/
import Derived.KernelRfl
import Derived.Test.YthklgpflaghojaaGreatDoorRows
import Derived.WalkKit
import Derived.WalkSpells
import Derived.WalkLawsBesides
import Derived.Lib.Hide
import Derived.Deep.QuietTactic
import Derived.BigQuiet
import Derived.Test.YthklgpflaghojaaGreatDoorQM
import Derived.Outline
import Derived.Deep.DeepCutAuto
import Derived.Deep.Cut

/-
  SHA-256 and HMAC in plain words over lists: no program is named here.
-/
namespace Go.Proofs.YthklgpflaghojaaGreatDoor.Sha

abbrev W := BitVec 32

def rotr (x : W) (n : Nat) : W := (x >>> n) ||| (x <<< (32 - n))

def KL : List Nat := [
  0x428a2f98, 0x71374491, 0xb5c0fbcf, 0xe9b5dba5, 0x3956c25b, 0x59f111f1, 0x923f82a4, 0xab1c5ed5,
  0xd807aa98, 0x12835b01, 0x243185be, 0x550c7dc3, 0x72be5d74, 0x80deb1fe, 0x9bdc06a7, 0xc19bf174,
  0xe49b69c1, 0xefbe4786, 0x0fc19dc6, 0x240ca1cc, 0x2de92c6f, 0x4a7484aa, 0x5cb0a9dc, 0x76f988da,
  0x983e5152, 0xa831c66d, 0xb00327c8, 0xbf597fc7, 0xc6e00bf3, 0xd5a79147, 0x06ca6351, 0x14292967,
  0x27b70a85, 0x2e1b2138, 0x4d2c6dfc, 0x53380d13, 0x650a7354, 0x766a0abb, 0x81c2c92e, 0x92722c85,
  0xa2bfe8a1, 0xa81a664b, 0xc24b8b70, 0xc76c51a3, 0xd192e819, 0xd6990624, 0xf40e3585, 0x106aa070,
  0x19a4c116, 0x1e376c08, 0x2748774c, 0x34b0bcb5, 0x391c0cb3, 0x4ed8aa4a, 0x5b9cca4f, 0x682e6ff3,
  0x748f82ee, 0x78a5636f, 0x84c87814, 0x8cc70208, 0x90befffa, 0xa4506ceb, 0xbef9a3f7, 0xc67178f2]

def kAt (t : Nat) : W := BitVec.ofNat 32 (KL.getD t 0)

/-- Four bytes as a word, the most significant first. -/
def word (b0 b1 b2 b3 : Nat) : W := BitVec.ofNat 32 (b0 * 16777216 + b1 * 65536 + b2 * 256 + b3)
/-- Word t of a group's bytes. -/
def wordAt (p : List Nat) (t : Nat) : W := word (p.getD (4 * t) 0) (p.getD (4 * t + 1) 0) (p.getD (4 * t + 2) 0) (p.getD (4 * t + 3) 0)

def sig0 (x : W) : W := rotr x 7 ^^^ rotr x 18 ^^^ x >>> 3
def sig1 (y : W) : W := rotr y 17 ^^^ rotr y 19 ^^^ y >>> 10

/-- The next word of a schedule. -/
def ext (l : List W) : W :=
  l.getD (l.length - 16) 0 + sig0 (l.getD (l.length - 15) 0) + l.getD (l.length - 7) 0 + sig1 (l.getD (l.length - 2) 0)

/-- The first words that a group gives. -/
def first (p : List Nat) : Nat → List W
  | 0 => []
  | n + 1 => first p n ++ [wordAt p n]

/-- The schedule: the group's sixteen words, and n more. -/
def sched (p : List Nat) : Nat → List W
  | 0 => first p 16
  | n + 1 => sched p n ++ [ext (sched p n)]

structure St where
  a : W
  b : W
  c : W
  d : W
  e : W
  f : W
  g : W
  h : W

def stepV (k w : W) (s : St) : W :=
  s.h + (rotr s.e 6 ^^^ rotr s.e 11 ^^^ rotr s.e 25) + ((s.e &&& s.f) ^^^ (~~~s.e &&& s.g)) + k + w
def stepW (s : St) : W :=
  (rotr s.a 2 ^^^ rotr s.a 13 ^^^ rotr s.a 22) + ((s.a &&& s.b) ^^^ (s.a &&& s.c) ^^^ (s.b &&& s.c))
def step (k w : W) (s : St) : St :=
  ⟨stepV k w s + stepW s, s.a, s.b, s.c, s.d + stepV k w s, s.e, s.f, s.g⟩

/-- The letters behind t rounds. -/
def rounds (ws : List W) (s : St) : Nat → St
  | 0 => s
  | t + 1 => step (kAt t) (ws.getD t 0) (rounds ws s t)

def St.add (x y : St) : St := ⟨x.a + y.a, x.b + y.b, x.c + y.c, x.d + y.d, x.e + y.e, x.f + y.f, x.g + y.g, x.h + y.h⟩

/-- What the words become by a group of 64 bytes. -/
def mix (s : St) (p : List Nat) : St := s.add (rounds (sched p 48) s 64)

def init : St := ⟨0x6a09e667, 0xbb67ae85, 0x3c6ef372, 0xa54ff53a, 0x510e527f, 0x9b05688c, 0x1f83d9ab, 0x5be0cd19⟩

/-- All whole groups among the bytes, n of them. -/
def mixAll (s : St) (p : List Nat) : Nat → St
  | 0 => s
  | n + 1 => mix (mixAll s p n) ((p.drop (64 * n)).take 64)

def St.list (s : St) : List W := [s.a, s.b, s.c, s.d, s.e, s.f, s.g, s.h]

def be (n : Nat) : Nat → List Nat
  | 0 => []
  | k + 1 => be (n / 256) k ++ [n % 256]

/-- How many bytes 0 stand behind the byte 128. -/
def zeros (n : Nat) : Nat := (119 - n % 64) % 64

def padded (p : List Nat) : List Nat := p ++ [128] ++ List.replicate (zeros p.length) 0 ++ be (8 * p.length % 18446744073709551616) 8

def St.bytes (s : St) : List Nat := s.list.flatMap fun w => be w.toNat 4

def sum (p : List Nat) : List Nat := (mixAll init (padded p) ((padded p).length / 64)).bytes

theorem first_length (p : List Nat) (n : Nat) : (first p n).length = n := by
  induction n with
  | zero => rfl
  | succ n ih => simp [first, ih]
theorem sched_length (p : List Nat) (n : Nat) : (sched p n).length = 16 + n := by
  induction n with
  | zero => simp [sched, first_length]
  | succ n ih => simp [sched, ih]; omega
theorem be_length (n k : Nat) : (be n k).length = k := by
  induction k generalizing n with
  | zero => rfl
  | succ k ih => simp [be, ih]
theorem bytes_length (s : St) : s.bytes.length = 32 := by simp [St.bytes, St.list, be_length]
theorem sum_length (p : List Nat) : (sum p).length = 32 := bytes_length _

end Go.Proofs.YthklgpflaghojaaGreatDoor.Sha

/-
  The contracts of the small functions on words: rot, word, putWord.
-/
namespace Go.Proofs.YthklgpflaghojaaGreatDoor
open Go.RowKit
open Sha (rotr)

theorem and31 (n : Nat) (h0 : 0 < n) (h1 : n < 32) : bits .and .u64 (IntKind.u64.wrap (-(n : Int))) 31 = 32 - (n : Int) := by
  have h : ∀ n < 32, 0 < n → bits .and .u64 (IntKind.u64.wrap (-((n : Nat) : Int))) 31 = 32 - (n : Int) := by decide +kernel
  exact h n h1 h0

/-- Words as the model's numbers. -/
theorem u32_ofInt (x : BitVec 32) : BitVec.ofInt 32 (x.toNat : Int) = x := by
  rw [BitVec.ofInt_natCast]; simp
theorem u32_back (x : BitVec 32) : IntKind.u32.wrap (x.toNat : Int) = (x.toNat : Int) := by
  rw [IntKind.wrap_u32']; have := x.isLt; omega
theorem u32_xor (x y : BitVec 32) : bits .xor .u32 (x.toNat : Int) (y.toNat : Int) = ((x ^^^ y).toNat : Int) := by
  show IntKind.u32.wrap ((BitVec.ofInt 32 (x.toNat : Int) ^^^ BitVec.ofInt 32 (y.toNat : Int)).toNat : Int) = _
  rw [u32_ofInt, u32_ofInt, u32_back]
theorem u32_and (x y : BitVec 32) : bits .and .u32 (x.toNat : Int) (y.toNat : Int) = ((x &&& y).toNat : Int) := by
  show IntKind.u32.wrap ((BitVec.ofInt 32 (x.toNat : Int) &&& BitVec.ofInt 32 (y.toNat : Int)).toNat : Int) = _
  rw [u32_ofInt, u32_ofInt, u32_back]
theorem u32_or (x y : BitVec 32) : bits .or .u32 (x.toNat : Int) (y.toNat : Int) = ((x ||| y).toNat : Int) := by
  show IntKind.u32.wrap ((BitVec.ofInt 32 (x.toNat : Int) ||| BitVec.ofInt 32 (y.toNat : Int)).toNat : Int) = _
  rw [u32_ofInt, u32_ofInt, u32_back]
theorem u32_add (x y : BitVec 32) : IntKind.u32.wrap ((x.toNat : Int) + (y.toNat : Int)) = ((x + y).toNat : Int) := by
  rw [IntKind.wrap_u32', BitVec.toNat_add]; omega
theorem u32_shl (x : BitVec 32) (n : Nat) : IntKind.u32.wrap ((x.toNat : Int) * 2 ^ n) = ((x <<< n).toNat : Int) := by
  rw [IntKind.wrap_u32', BitVec.toNat_shiftLeft, Nat.shiftLeft_eq]
  simp
theorem u32_shr (x : BitVec 32) (n : Nat) : (x.toNat : Int) / 2 ^ n = ((x >>> n).toNat : Int) := by
  rw [BitVec.toNat_ushiftRight, Nat.shiftRight_eq_div_pow]
  simp

theorem rotr_of (x : BitVec 32) (n : Nat) (h0 : 0 < n) (h1 : n < 32) :
    bits BinOp.or IntKind.u32 ((x.toNat : Int) * 2 ^ (32 - n) % 4294967296) ((x.toNat : Int) / 2 ^ (32 - (32 - n))) = ((rotr x n).toNat : Int) := by
  have e1 := u32_shl x (32 - n)
  rw [IntKind.wrap_u32'] at e1
  rw [e1, show 32 - (32 - n) = n from by omega, u32_shr, u32_or, BitVec.or_comm]
  rfl

set_option maxRecDepth 100000 in
set_option maxHeartbeats 400000 in
theorem rotl_any (x : BitVec 32) (n : Nat) (h0 : 0 < n) (h1 : n < 32) (w : World) :
    Calls Tryz.prog 161 #[.int .u32 x.toNat, .int .i64 (-(n : Int))] w fun e w' => e = .returned (.int .u32 (rotr x n).toNat) ∧ w = w' := by
  have hb := and31 n h0 h1
  go_enter Tryz.func161, Tryz.ntmps161
  go_wp2
  go_ret
  exact ⟨ret_int (rotr_of x n h0 h1), rfl⟩

set_option maxRecDepth 100000 in
set_option maxHeartbeats 400000 in
theorem rot_any (x : BitVec 32) (n : Nat) (h0 : 0 < n) (h1 : n < 32) (w : World) :
    Calls Tryz.prog 149 #[.int .u32 x.toNat, .int .i64 n] w fun e w' => e = .returned (.int .u32 (rotr x n).toNat) ∧ w = w' := by
  go_enter Tryz.func149, Tryz.ntmps149
  go_wp2_with fail
  refine (rotl_any x n h0 h1 _).mono ?_
  rintro e w' ⟨rfl, rfl⟩
  go_wp2
  go_ret
  exact ⟨rfl, rfl⟩

/-- The same for a count that is any integer. -/
theorem rot_int (x : BitVec 32) (m : Int) (h0 : 0 < m) (h1 : m < 32) (w : World) :
    Calls Tryz.prog 149 #[.int .u32 x.toNat, .int .i64 m] w fun e w' => e = .returned (.int .u32 (rotr x m.toNat).toNat) ∧ w = w' := by
  obtain ⟨n, rfl⟩ := Int.eq_ofNat_of_zero_le (Int.le_of_lt h0)
  exact rot_any x n (by omega) (by omega) w

theorem rot_quiet (x : BitVec 32) (m : Int) (h0 : 0 < m) (h1 : m < 32) (w : World) :
    Calls Tryz.prog 149 #[.int .u32 x.toNat, .int .i64 m] w fun e w' => e = .returned (.int .u32 (rotr x m.toNat).toNat) ∧ w' = w :=
  (rot_int x m h0 h1 w).mono fun _ _ ⟨he, hw⟩ => ⟨he, hw.symm⟩

theorem u32_or_nat' (a b : Nat) (ha : a < 4294967296) (hb : b < 4294967296) : bits .or .u32 (a : Int) (b : Int) = ((a ||| b : Nat) : Int) := by
  have e1 : ((BitVec.ofNat 32 a).toNat : Int) = (a : Int) := by rw [BitVec.toNat_ofNat, Nat.mod_eq_of_lt (by omega)]
  have e2 : ((BitVec.ofNat 32 b).toNat : Int) = (b : Int) := by rw [BitVec.toNat_ofNat, Nat.mod_eq_of_lt (by omega)]
  have h := u32_or (BitVec.ofNat 32 a) (BitVec.ofNat 32 b)
  rw [e1, e2, BitVec.toNat_or, BitVec.toNat_ofNat, BitVec.toNat_ofNat, Nat.mod_eq_of_lt (by omega), Nat.mod_eq_of_lt (by omega)] at h
  exact h
theorem or_add (a b i : Nat) (h : b < 2 ^ i) : (2 ^ i * a) ||| b = 2 ^ i * a + b := (Nat.two_pow_add_eq_or_of_lt h a).symm

theorem word_or (b0 b1 b2 b3 : Nat) (h0 : b0 < 256) (h1 : b1 < 256) (h2 : b2 < 256) (h3 : b3 < 256) :
    bits BinOp.or IntKind.u32 (bits BinOp.or IntKind.u32 (bits BinOp.or IntKind.u32 ((b0 : Int) * 16777216) ((b1 : Int) * 65536)) ((b2 : Int) * 256)) (b3 : Int) = ((Sha.word b0 b1 b2 b3).toNat : Int) := by
  have e0 : ((b0 : Int) * 16777216) = ((2 ^ 24 * b0 : Nat) : Int) := by omega
  have e1 : ((b1 : Int) * 65536) = ((b1 * 65536 : Nat) : Int) := by omega
  have e2 : ((b2 : Int) * 256) = ((b2 * 256 : Nat) : Int) := by omega
  rw [e0, e1, e2, u32_or_nat' _ _ (by omega) (by omega), or_add _ _ 24 (by omega), u32_or_nat' _ _ (by omega) (by omega),
    show 2 ^ 24 * b0 + b1 * 65536 = 2 ^ 16 * (256 * b0 + b1) from by omega, or_add _ _ 16 (by omega), u32_or_nat' _ _ (by omega) (by omega),
    show 2 ^ 16 * (256 * b0 + b1) + b2 * 256 = 2 ^ 8 * (65536 * b0 + 256 * b1 + b2) from by omega, or_add _ _ 8 (by omega)]
  unfold Sha.word
  rw [BitVec.toNat_ofNat, Nat.mod_eq_of_lt (by omega)]
  omega

set_option maxRecDepth 100000 in
set_option maxHeartbeats 400000 in
theorem word1_any (b off n c b0 b1 b2 b3 : Nat) (w : World) (hn : 4 ≤ n) (h0 : b0 < 256) (h1 : b1 < 256) (h2 : b2 < 256) (h3 : b3 < 256)
    (c0 : w.cell? ⟨b, off, none⟩ = some (.int .u8 b0)) (c1 : w.cell? ⟨b, off + 1, none⟩ = some (.int .u8 b1))
    (c2 : w.cell? ⟨b, off + 2, none⟩ = some (.int .u8 b2)) (c3 : w.cell? ⟨b, off + 3, none⟩ = some (.int .u8 b3)) :
    Calls Tryz.prog 160 #[.slice (some ⟨b, off, none⟩) n c] w fun e w' => e = .returned (.int .u32 (Sha.word b0 b1 b2 b3).toNat) ∧ ∃ k, w' = w.drewN k := by
  have i0 : (0 : Int) < (n : Int) := by omega
  have i1 : (1 : Int) < (n : Int) := by omega
  have i2 : (2 : Int) < (n : Int) := by omega
  have i3 : (3 : Int) < (n : Int) := by omega
  go_enter Tryz.func160, Tryz.ntmps160
  go_wp2
  go_quiet (fail)
  go_wp2
  go_ret
  exact ⟨ret_int (word_or b0 b1 b2 b3 h0 h1 h2 h3), _, rfl⟩

set_option maxRecDepth 100000 in
set_option maxHeartbeats 400000 in
theorem putWord_any (b off n c : Nat) (x : BitVec 32) (w : World) (hn : 4 ≤ n) (v0 v1 v2 v3 : Value)
    (c0 : w.cell? ⟨b, off, none⟩ = some v0) (c1 : w.cell? ⟨b, off + 1, none⟩ = some v1)
    (c2 : w.cell? ⟨b, off + 2, none⟩ = some v2) (c3 : w.cell? ⟨b, off + 3, none⟩ = some v3)
    (f0 : w.frozen? ⟨b, off, none⟩ = false) (f1 : w.frozen? ⟨b, off + 1, none⟩ = false) (f2 : w.frozen? ⟨b, off + 2, none⟩ = false) (f3 : w.frozen? ⟨b, off + 3, none⟩ = false) :
    Calls Tryz.prog 128 #[.slice (some ⟨b, off, none⟩) n c, .int .u32 x.toNat] w fun e w' => e = .returned (.tuple #[]) ∧
      (((w.setCell ⟨b, off, none⟩ (.int .u8 ((x.toNat / 16777216 : Nat) : Int))).setCell ⟨b, off + 1, none⟩ (.int .u8 ((x.toNat / 65536 % 256 : Nat) : Int))).setCell
        ⟨b, off + 2, none⟩ (.int .u8 ((x.toNat / 256 % 256 : Nat) : Int))).setCell ⟨b, off + 3, none⟩ (.int .u8 ((x.toNat % 256 : Nat) : Int)) = w' := by
  have i0 : (0 : Int) < (n : Int) := by omega
  have i1 : (1 : Int) < (n : Int) := by omega
  have i2 : (2 : Int) < (n : Int) := by omega
  have i3 : (3 : Int) < (n : Int) := by omega
  go_enter Tryz.func128, Tryz.ntmps128
  go_wp2
  go_end0
  exact ⟨rfl, by simp⟩

theorem not_of (x : BitVec 32) : bits BinOp.xor IntKind.u32 (if IntKind.u32.signed = true then -1 else IntKind.u32.max) (x.toNat : Int) = ((~~~x).toNat : Int) := by
  have h := u32_xor (BitVec.allOnes 32) x
  rw [BitVec.allOnes_xor] at h
  exact h
theorem add2_of (a b : BitVec 32) : ((a.toNat : Int) + (b.toNat : Int)) % 4294967296 = ((a + b).toNat : Int) := by
  simp only [BitVec.toNat_add]; omega
theorem add4_of (a b c d : BitVec 32) : ((a.toNat : Int) + (b.toNat : Int) + (c.toNat : Int) + (d.toNat : Int)) % 4294967296 = ((a + b + c + d).toNat : Int) := by
  simp only [BitVec.toNat_add]; omega
theorem add5_of (a b c d e : BitVec 32) : ((a.toNat : Int) + (b.toNat : Int) + (c.toNat : Int) + (d.toNat : Int) + (e.toNat : Int)) % 4294967296 = ((a + b + c + d + e).toNat : Int) := by
  simp only [BitVec.toNat_add]; omega
theorem sig0_of (x : BitVec 32) : bits BinOp.xor IntKind.u32 (bits BinOp.xor IntKind.u32 ((rotr x 7).toNat : Int) ((rotr x 18).toNat : Int)) ((x.toNat : Int) / 8) = ((Sha.sig0 x).toNat : Int) := by
  have h := u32_shr x 3
  rw [show (2 : Int) ^ 3 = 8 from by decide] at h
  rw [h, u32_xor, u32_xor]; rfl
theorem sig1_of (x : BitVec 32) : bits BinOp.xor IntKind.u32 (bits BinOp.xor IntKind.u32 ((rotr x 17).toNat : Int) ((rotr x 19).toNat : Int)) ((x.toNat : Int) / 1024) = ((Sha.sig1 x).toNat : Int) := by
  have h := u32_shr x 10
  rw [show (2 : Int) ^ 10 = 1024 from by decide] at h
  rw [h, u32_xor, u32_xor]; rfl
end Go.Proofs.YthklgpflaghojaaGreatDoor

/-
  The contract of digest.spread: the schedule of a group.
-/
namespace Go.Proofs.YthklgpflaghojaaGreatDoor
open Go.RowKit
open Sha (rotr)

def u32s (l : List Sha.W) : List Value := l.map fun x => .int .u32 (x.toNat : Int)
def z32 (n : Nat) : List Value := List.replicate n (.int .u32 0)
/-- The words so far, and zeros up to 64. -/
def fill (l : List Sha.W) : List Value := u32s l ++ z32 (64 - l.length)

theorem fill_at (l : List Sha.W) {j : Nat} (hj : j < l.length) : (fill l)[j]? = some (.int .u32 ((l.getD j 0).toNat : Int)) := by
  unfold fill u32s
  rw [List.getElem?_append_left (by simpa using hj), List.getElem?_map, List.getD_eq_getElem?_getD, List.getElem?_eq_getElem hj]; rfl
theorem fill_next (l : List Sha.W) (hl : l.length < 64) : (fill l)[l.length]? = some (.int .u32 0) := by
  unfold fill u32s z32
  rw [List.getElem?_append_right (by simp)]
  obtain ⟨m, hm⟩ : ∃ m, 64 - l.length = m + 1 := ⟨63 - l.length, by omega⟩
  simp [hm, List.replicate_succ]
theorem fill_snoc (l : List Sha.W) (x : Sha.W) (hl : l.length < 64) : (fill l).set l.length (.int .u32 (x.toNat : Int)) = fill (l ++ [x]) := by
  unfold fill u32s z32
  rw [List.set_append_right _ _ (by simp)]
  obtain ⟨m, hm⟩ : ∃ m, 64 - l.length = m + 1 := ⟨63 - l.length, by omega⟩
  have hm' : 64 - (l.length + 1) = m := by omega
  simp [hm, hm', List.replicate_succ]

set_option maxRecDepth 100000 in
theorem info60 : (Tryz.prog.info? 175).map (·.size) = some 64 := by kernel_rfl
theorem fill_full (p : List Nat) : fill (Sha.sched p (64 - 16)) = u32s (Sha.sched p 48) := by
  unfold fill
  rw [Sha.sched_length]
  simp [z32]
theorem full_size (p : List Nat) : (u32s (Sha.sched p 48)).toArray.size = 64 := by simp [u32s, Sha.sched_length]
theorem u32s_one (l : List Sha.W) : (u32s l).toArray.all (·.oneCell') = true := by
  simp [u32s, Value.oneCell']
theorem full_one (p : List Nat) : (u32s (Sha.sched p 48)).toArray.all (·.oneCell') = true := u32s_one _

set_option maxRecDepth 100000 in
set_option maxHeartbeats 400000 in
theorem spread_any (b off n c : Nat) (p : List Nat) (w : World) (hn : 64 ≤ n) (hnc : n ≤ c) (hcm : c ≤ 9223372036854775807) (hp : p.length = 64) (hbw : b < w.heap.size)
    (hc : BytesAt w b off p) :
    Calls Tryz.prog 148 #[.slice (some ⟨b, off, none⟩) n c] w fun e w' => e = .returned (.agg (u32s (Sha.sched p 48)).toArray) ∧ Below w.heap.size w w' := by
  have Hp := Lib.hid hp
  clear hp
  go_enter Tryz.func148, Tryz.ntmps148
  go_wp2
  go_loopw [10] (fun i wr => ∃ k : Nat, k ≤ 16 ∧ i = .int .i64 k ∧ Lies wr (w.heap.size + 1) 175 (fill (Sha.first p k)) ∧ Lies wr w.heap.size 175 (z32 64) ∧ Below w.heap.size w wr)
    (fun i _ => 16 - (intOf i).toNat)
  case atStart =>
    refine ⟨0, Nat.zero_le _, rfl, ?_, ?_, ?_⟩
    · exact Lies.new_ (cs := z32 64) (by simp)
    · exact (Lies.made w 175 (z32 64)).alloc _
    · exact ((Below.refl _ _).alloc (Nat.le_refl _) _).alloc (by simp) _
  case round =>
    obtain ⟨k, hk, rfl, hW, hZ, hbel⟩ := hrel
    by_cases hlt : k < 16
    · have x4 : 4 * k < c := by omega
      have hcr := hc.below hbel hbw
      go_wp2_with fail
      have g0 := hcr.get (j := 4 * k) (by rw [Hp.out]; omega)
      have g1 := hcr.get (j := 4 * k + 1) (by rw [Hp.out]; omega)
      have g2 := hcr.get (j := 4 * k + 2) (by rw [Hp.out]; omega)
      have g3 := hcr.get (j := 4 * k + 3) (by rw [Hp.out]; omega)
      refine (word1_any b (off + 4 * k) (n - 4 * k) (c - 4 * k) (p.getD (4 * k) 0) (p.getD (4 * k + 1) 0) (p.getD (4 * k + 2) 0) (p.getD (4 * k + 3) 0) wr (by omega)
        (hcr.lt _) (hcr.lt _) (hcr.lt _) (hcr.lt _) g0 g1 g2 g3).mono ?_
      clear g0 g1 g2 g3
      rintro e w1 ⟨rfl, q, rfl⟩
      have hl := Sha.first_length p k
      have hcell : (wr.drewN q).cell? ⟨w.heap.size + 1, k, none⟩ = some (.int .u32 0) := by
        have := (hW.drewN q).cell k
        rw [this]
        have := fill_next (Sha.first p k) (by omega)
        rwa [hl] at this
      have hfree := (hW.drewN q).free k
      have HN : Hid (Lies ((wr.drewN q).setCell ⟨w.heap.size + 1, k, none⟩ (.int .u32 ((Sha.wordAt p k).toNat : Int))) (w.heap.size + 1) 175 (fill (Sha.first p (k + 1)))) := by
        have := (hW.drewN q).put k (.int .u32 ((Sha.wordAt p k).toNat : Int))
        have e := fill_snoc (Sha.first p k) (Sha.wordAt p k) (by omega)
        rw [hl] at e
        rw [e] at this
        exact this
      clear hl
      go_wp2
      go_roundw
      case rel => exact ⟨k + 1, by omega, by go_num, HN.out, (hZ.drewN q).far (by simp) _, (below_drewN hbel q).setCell (by simp) _⟩
      case measure => simp [intOf]; omega
    · obtain rfl : k = 16 := by omega
      clear hlt hk
      obtain ⟨wo, rfl⟩ : ∃ wo : World, wo = wr := ⟨_, rfl⟩
      rw [show ((16 : Nat) : Int) = 16 from rfl]
      go_wp2_with fail
      go_loopw [5] (fun i w2 => ∃ t : Nat, 16 ≤ t ∧ t ≤ 64 ∧ i = .int .i64 t ∧ Lies w2 (w.heap.size + 1) 175 (fill (Sha.sched p (t - 16))) ∧ Lies w2 w.heap.size 175 (z32 64) ∧ Below w.heap.size w w2)
        (fun i _ => 64 - (intOf i).toNat)
      case atStart => exact ⟨16, Nat.le_refl _, by omega, rfl, hW, hZ, hbel⟩
      case round =>
        obtain ⟨t, h16, h64, rfl, hW2, hZ2, hbel2⟩ := hrel
        clear hW hZ hbel
        by_cases ht : t < 64
        · have HL := Lib.hid (Sha.sched_length p (t - 16))
          obtain ⟨l, hl⟩ : ∃ l, Sha.sched p (t - 16) = l := ⟨_, rfl⟩
          rw [hl] at HL hW2
          have Hl := Lib.hid hl
          clear hl
          have HLt : Hid (l.length = t) := by have := HL.out; unfold Hid; omega
          obtain ⟨x0, hx0⟩ : ∃ x, l.getD (t - 16) 0 = x := ⟨_, rfl⟩
          obtain ⟨x1, hx1⟩ : ∃ x, l.getD (t - 15) 0 = x := ⟨_, rfl⟩
          obtain ⟨x2, hx2⟩ : ∃ x, l.getD (t - 7) 0 = x := ⟨_, rfl⟩
          obtain ⟨x3, hx3⟩ : ∃ x, l.getD (t - 2) 0 = x := ⟨_, rfl⟩
          have c0 : wr.cell? ⟨w.heap.size + 1, t - 16, none⟩ = some (.int .u32 (x0.toNat : Int)) := by rw [hW2.cell, fill_at l (by rw [HLt.out]; omega), hx0]
          have c1 : wr.cell? ⟨w.heap.size + 1, t - 15, none⟩ = some (.int .u32 (x1.toNat : Int)) := by rw [hW2.cell, fill_at l (by rw [HLt.out]; omega), hx1]
          have c2 : wr.cell? ⟨w.heap.size + 1, t - 7, none⟩ = some (.int .u32 (x2.toNat : Int)) := by rw [hW2.cell, fill_at l (by rw [HLt.out]; omega), hx2]
          have c3 : wr.cell? ⟨w.heap.size + 1, t - 2, none⟩ = some (.int .u32 (x3.toNat : Int)) := by rw [hW2.cell, fill_at l (by rw [HLt.out]; omega), hx3]
          have c4 : wr.cell? ⟨w.heap.size + 1, t, none⟩ = some (.int .u32 0) := by
            have := fill_next l (by rw [HLt.out]; omega)
            rw [HLt.out] at this
            rw [hW2.cell, this]
          have f4 := hW2.free t
          have Hx0 := Lib.hid hx0
          have Hx1 := Lib.hid hx1
          have Hx2 := Lib.hid hx2
          have Hx3 := Lib.hid hx3
          clear hx0 hx1 hx2 hx3
          go_wp2_with fail
          go_quiet (fail)
          go_wp2_with (go_at_call 149; refine (rot_int _ _ (by omega) (by omega) _).mono ?_; rintro e w' ⟨rfl, rfl⟩)
          simp only [sig0_of, sig1_of]
          go_region
          have HN : Hid (Lies ((wr.drewN (nq + 1)).setCell ⟨w.heap.size + 1, t, none⟩ (.int .u32 (((x0.toNat : Int) + ((Sha.sig0 x1).toNat : Int) + (x2.toNat : Int) + ((Sha.sig1 x3).toNat : Int)) % 4294967296)))
              (w.heap.size + 1) 175 (fill (Sha.sched p (t + 1 - 16)))) := by
            rw [add4_of]
            have := (hW2.drewN (nq + 1)).put t (.int .u32 ((x0 + Sha.sig0 x1 + x2 + Sha.sig1 x3).toNat : Int))
            have e := fill_snoc l (x0 + Sha.sig0 x1 + x2 + Sha.sig1 x3) (by rw [HLt.out]; omega)
            rw [HLt.out] at e
            rw [e] at this
            have e2 : Sha.sched p (t + 1 - 16) = l ++ [x0 + Sha.sig0 x1 + x2 + Sha.sig1 x3] := by
              rw [show t + 1 - 16 = (t - 16) + 1 from by omega, Sha.sched, Hl.out, Sha.ext, HLt.out, Hx0.out, Hx1.out, Hx2.out, Hx3.out]
            rw [e2]
            exact this
          clear c0 c1 c2 c3 c4 f4
          go_wp2
          go_roundw
          case rel => exact ⟨t + 1, by omega, by omega, by go_num, HN.out, (hZ2.drewN _).far (by simp) _, (below_drewN hbel2 _).setCell (by simp) _⟩
          case measure => simp [intOf]; omega
        · obtain rfl : t = 64 := by omega
          clear ht h16 h64
          have HS := Lib.hid (fill_full p)
          rw [HS.out] at hW2
          have hs1 := full_size p
          have ho1 := full_one p
          go_wp2_with (first
            | (refine wpList_load_row rfl 175 (.tmp 3) rfl (w.heap.size + 1) rfl 175 _ (0, 0) _ hW2 Tryz.underlying175 rfl (by rw [hs1]; exact info60) ?_)
            | (refine wpList_store_row rfl 175 (.tmp 2) (.tmp 64) rfl w.heap.size (u32s (Sha.sched p 48)).toArray rfl rfl 175 _ hZ2 (by rw [hs1]; exact info60) (by rw [hs1]; simp [z32]) ho1 ?_))
          refine bodyPost_ret (results_cell_row Tryz.results148 _ _ w.heap.size 175 (u32s (Sha.sched p 48)).toArray (0, 0) _ rfl ?_ Tryz.underlying175 rfl (by rw [hs1]; exact info60)) rfl ⟨rfl, ?_⟩
          · exact hZ2.row
          · exact below_row hbel2 (Nat.le_refl _)
end Go.Proofs.YthklgpflaghojaaGreatDoor

/-
  The contract of digest.mix: what the words become by a group.
-/
namespace Go.Proofs.YthklgpflaghojaaGreatDoor
open Go.RowKit
open Sha (rotr)

/-- The table of the round words lies in its variable. -/
def Tab (w : World) : Prop := ∀ t, t < 64 → w.cell? ⟨1, t, none⟩ = some (.int .u32 ((Sha.kAt t).toNat : Int))
theorem Tab.below {B : Nat} {w w' : World} (h : Tab w) (hb : Below B w w') (hB : 1 < B) : Tab w' := fun t ht => (hb.cell (p := ⟨1, t, none⟩) hB).trans (h t ht)
theorem Tab.lt {w : World} (h : Tab w) : 1 < w.heap.size := block_lt_of_cell (h 0 (by decide))

set_option maxRecDepth 100000 in
theorem info47 : (Tryz.prog.info? 146).map (·.size) = some 8 := by kernel_rfl
theorem u32s_at (l : List Sha.W) {j : Nat} (hj : j < l.length) : (u32s l)[j]? = some (.int .u32 ((l.getD j 0).toNat : Int)) := by
  unfold u32s
  rw [List.getElem?_map, List.getD_eq_getElem?_getD, List.getElem?_eq_getElem hj]; rfl

set_option maxHeartbeats 400000 in
set_option maxRecDepth 100000 in
theorem mix_any (s : Sha.St) (b off n c : Nat) (p : List Nat) (w : World) (hT : Tab w) (hn : 64 ≤ n) (hnc : n ≤ c) (hcm : c ≤ 9223372036854775807) (hp : p.length = 64) (hbw : b < w.heap.size)
    (hc : BytesAt w b off p) :
    Calls Tryz.prog 126 #[.agg #[.int .u32 s.a.toNat, .int .u32 s.b.toNat, .int .u32 s.c.toNat, .int .u32 s.d.toNat, .int .u32 s.e.toNat, .int .u32 s.f.toNat, .int .u32 s.g.toNat, .int .u32 s.h.toNat], .slice (some ⟨b, off, none⟩) n c] w
      fun e w' => e = .returned (.agg (u32s (Sha.mix s p).list).toArray) ∧ Below w.heap.size w w' := by
  have Hp := Lib.hid hp
  clear hp
  obtain ⟨sa, sb, sc, sd, se, sf, sg, sh⟩ := s
  simp only
  go_enter Tryz.func126, Tryz.ntmps126
  go_wp2_with fail
  refine (spread_any b off n c p _ hn hnc hcm Hp.out (by simp; omega) ((hc.alloc hbw _).alloc (by simp; omega) _)).mono ?_
  rintro e w1 ⟨rfl, hb1⟩
  obtain ⟨ws, hws⟩ : ∃ ws, Sha.sched p 48 = ws := ⟨_, rfl⟩
  have Hl : Hid (ws.length = 64) := by rw [← hws, Sha.sched_length]; exact rfl
  rw [hws]
  have Hws := Lib.hid hws
  clear hws
  have hs1 : (u32s ws).toArray.size = 64 := by simp [u32s]; exact Hl.out
  have ho1 := u32s_one ws
  have hB : w.heap.size + 2 ≤ w1.heap.size := by have := hb1.size; simp at this; omega
  have hT1 : Tab w1 := Tab.below (Tab.below hT (((Below.refl _ _).alloc (Nat.le_refl _) _).alloc (by simp) _) hT.lt) hb1 (Nat.lt_of_lt_of_le hT.lt (by simp <;> omega))
  have hX : Lies w1 w.heap.size 146 (u32s [sa, sb, sc, sd, se, sf, sg, sh]) :=
    ((Lies.made w _ (u32s [sa, sb, sc, sd, se, sf, sg, sh])).alloc _).below hb1 (by simp <;> omega)
  have hY : Lies w1 (w.heap.size + 1) 146 (z32 8) := (Lies.new_ (cs := z32 8) (by simp)).below hb1 (by simp <;> omega)
  have hbel : Below w.heap.size w w1 := (((Below.refl _ _).alloc (Nat.le_refl _) _).alloc (by simp) _).trans (hb1.mono (by simp <;> omega))
  clear hb1
  go_wp2_with (refine wpList_store_row rfl 175 (.tmp 5) (.tmp 18) rfl w1.heap.size (u32s (ws)).toArray rfl rfl 175 _ (heap_alloc_new w1 _) (by rw [hs1]; exact info60) (by rw [hs1]; rfl) ho1 ?_)
  clear hs1 ho1
  go_frame
  generalize hw2 : World.setRow _ _ _ = w2
  have hX2 : Lies w2 w.heap.size 146 (u32s [sa, sb, sc, sd, se, sf, sg, sh]) := by rw [← hw2]; exact (hX.alloc _).farRow (by omega)
  have hY2 : Lies w2 (w.heap.size + 1) 146 (z32 8) := by rw [← hw2]; exact (hY.alloc _).farRow (by omega)
  have hZ2 : Lies w2 w1.heap.size 175 (u32s (ws)) := by rw [← hw2]; exact Lies.row (cs := z32 64) (Lies.new_ rfl)
  have hT2 : Tab w2 := by rw [← hw2]; exact hT1.below (below_row ((Below.refl _ _).alloc (Nat.le_refl _) _) (Nat.le_refl _)) hT1.lt
  have hbel2 : Below w.heap.size w w2 := by rw [← hw2]; exact below_row (hbel.alloc (by omega) _) (by omega)
  clear hw2 hX hY hT1 hbel
  have c0 : w2.cell? ⟨w.heap.size, 0, none⟩ = some (.int .u32 (sa.toNat : Int)) := hX2.cell 0
  have c1 : w2.cell? ⟨w.heap.size, 1, none⟩ = some (.int .u32 (sb.toNat : Int)) := hX2.cell 1
  have c2 : w2.cell? ⟨w.heap.size, 2, none⟩ = some (.int .u32 (sc.toNat : Int)) := hX2.cell 2
  have c3 : w2.cell? ⟨w.heap.size, 3, none⟩ = some (.int .u32 (sd.toNat : Int)) := hX2.cell 3
  have c4 : w2.cell? ⟨w.heap.size, 4, none⟩ = some (.int .u32 (se.toNat : Int)) := hX2.cell 4
  have c5 : w2.cell? ⟨w.heap.size, 5, none⟩ = some (.int .u32 (sf.toNat : Int)) := hX2.cell 5
  have c6 : w2.cell? ⟨w.heap.size, 6, none⟩ = some (.int .u32 (sg.toNat : Int)) := hX2.cell 6
  have c7 : w2.cell? ⟨w.heap.size, 7, none⟩ = some (.int .u32 (sh.toNat : Int)) := hX2.cell 7
  go_quiet (fail)
  go_wp2_with fail
  go_quiet (fail)
  clear c0 c1 c2 c3 c4 c5 c6 c7
  go_wp2_with fail
  go_loopw [6, 7, 8, 9, 10, 11, 12, 13, 35] (fun va vb vc vd ve vf vg vh i wr => ∃ (t : Nat) (xa xb xc xd xe xf xg xh : Sha.W), t ≤ 64 ∧ i = .int .i64 t ∧ Sha.rounds ws ⟨sa, sb, sc, sd, se, sf, sg, sh⟩ t = ⟨xa, xb, xc, xd, xe, xf, xg, xh⟩ ∧
      va = .int .u32 (xa.toNat : Int) ∧ vb = .int .u32 (xb.toNat : Int) ∧ vc = .int .u32 (xc.toNat : Int) ∧ vd = .int .u32 (xd.toNat : Int) ∧
      ve = .int .u32 (xe.toNat : Int) ∧ vf = .int .u32 (xf.toNat : Int) ∧ vg = .int .u32 (xg.toNat : Int) ∧ vh = .int .u32 (xh.toNat : Int) ∧
      Lies wr w.heap.size 146 (u32s [sa, sb, sc, sd, se, sf, sg, sh]) ∧ Lies wr (w.heap.size + 1) 146 (z32 8) ∧ Lies wr w1.heap.size 175 (u32s (ws)) ∧ Tab wr ∧ Below w.heap.size w wr)
    (fun _ _ _ _ _ _ _ _ i _ => 64 - (intOf i).toNat)
  case atStart => exact ⟨0, sa, sb, sc, sd, se, sf, sg, sh, Nat.zero_le _, rfl, rfl, rfl, rfl, rfl, rfl, rfl, rfl, rfl, rfl, hX2, hY2, hZ2, hT2, below_drewN (below_drewN hbel2 _) _⟩
  case round =>
    clear hX2 hY2 hZ2 hT2 hbel2
    obtain ⟨t, xa, xb, xc, xd, xe, xf, xg, xh, h64, rfl, hq, rfl, rfl, rfl, rfl, rfl, rfl, rfl, rfl, hX, hY, hZ, hT, hbel⟩ := hrel
    have Hq := Lib.hid hq
    clear hq
    by_cases ht : t < 64
    · obtain ⟨kt, hkt⟩ : ∃ x, Sha.kAt t = x := ⟨_, rfl⟩
      obtain ⟨wt, hwt⟩ : ∃ x, (ws).getD t 0 = x := ⟨_, rfl⟩
      have ck : wr.cell? ⟨1, t, none⟩ = some (.int .u32 (kt.toNat : Int)) := by rw [hT t ht, hkt]
      have cw : wr.cell? ⟨w1.heap.size, t, none⟩ = some (.int .u32 (wt.toNat : Int)) := by rw [hZ.cell, u32s_at _ (by rw [Hl.out]; omega), hwt]
      have Hkt := Lib.hid hkt
      have Hwt := Lib.hid hwt
      clear hkt hwt
      have hd : decide ((t : Int) < 64) = true := by simp; omega
      go_wp2_with fail
      go_quiet ((go_at_call 149; exact Calls.quiet_of_same (rot_quiet _ _ (by omega) (by omega) _)))
      clear ck cw
      go_wp2_with (go_at_call 149; refine (rot_int _ _ (by omega) (by omega) _).mono ?_; rintro e w' ⟨rfl, rfl⟩)
      go_roundw
      case rel =>
        refine ⟨t + 1, Sha.stepV kt wt ⟨xa, xb, xc, xd, xe, xf, xg, xh⟩ + Sha.stepW ⟨xa, xb, xc, xd, xe, xf, xg, xh⟩, xa, xb, xc, xd + Sha.stepV kt wt ⟨xa, xb, xc, xd, xe, xf, xg, xh⟩, xe, xf, xg,
          by omega, by go_num, ?_, ?_, rfl, rfl, rfl, ?_, rfl, rfl, rfl, hX, hY, hZ, hT, below_drewN hbel _⟩
        · rw [Sha.rounds, Hq.out, Hkt.out, Hwt.out]; rfl
        · simp only [u32_xor, u32_and, not_of, add5_of, add2_of]; rfl
        · simp only [u32_xor, u32_and, not_of, add5_of, add2_of]; rfl
      case measure => simp [intOf]; omega
    · have H64 : Hid (t = 64) := by unfold Hid; omega
      have c0 : wr.cell? ⟨w.heap.size, 0, none⟩ = some (.int .u32 (sa.toNat : Int)) := hX.cell 0
      have c1 : wr.cell? ⟨w.heap.size, 1, none⟩ = some (.int .u32 (sb.toNat : Int)) := hX.cell 1
      have c2 : wr.cell? ⟨w.heap.size, 2, none⟩ = some (.int .u32 (sc.toNat : Int)) := hX.cell 2
      have c3 : wr.cell? ⟨w.heap.size, 3, none⟩ = some (.int .u32 (sd.toNat : Int)) := hX.cell 3
      have c4 : wr.cell? ⟨w.heap.size, 4, none⟩ = some (.int .u32 (se.toNat : Int)) := hX.cell 4
      have c5 : wr.cell? ⟨w.heap.size, 5, none⟩ = some (.int .u32 (sf.toNat : Int)) := hX.cell 5
      have c6 : wr.cell? ⟨w.heap.size, 6, none⟩ = some (.int .u32 (sg.toNat : Int)) := hX.cell 6
      have c7 : wr.cell? ⟨w.heap.size, 7, none⟩ = some (.int .u32 (sh.toNat : Int)) := hX.cell 7
      have hd : decide ((t : Int) < 64) = false := by simp; omega
      clear ht h64
      go_wp2_with (with_reducible refine store_lies rfl 146 (.tmp 4) (.tmp 130) rfl (w.heap.size + 1) [Value.int .u32 (((sa.toNat : Int) + (xa.toNat : Int)) % 4294967296), Value.int .u32 (((sb.toNat : Int) + (xb.toNat : Int)) % 4294967296), Value.int .u32 (((sc.toNat : Int) + (xc.toNat : Int)) % 4294967296), Value.int .u32 (((sd.toNat : Int) + (xd.toNat : Int)) % 4294967296), Value.int .u32 (((se.toNat : Int) + (xe.toNat : Int)) % 4294967296), Value.int .u32 (((sf.toNat : Int) + (xf.toNat : Int)) % 4294967296), Value.int .u32 (((sg.toNat : Int) + (xg.toNat : Int)) % 4294967296), Value.int .u32 (((sh.toNat : Int) + (xh.toNat : Int)) % 4294967296)] 146 _ hY ?hx ?hy ?hi ?hl ?h1 ?_)
      case hx => rfl
      case hy => rfl
      case hi => exact info47
      case hl => rfl
      case h1 => rfl
      simp only [add2_of]
      refine bodyPost_ret (results_cell_row Tryz.results126 _ _ (w.heap.size + 1) 146 (u32s (Sha.mix ⟨sa, sb, sc, sd, se, sf, sg, sh⟩ p).list).toArray (0, 0) _ rfl ?_ Tryz.underlying146 rfl info47) rfl ⟨rfl, ?_⟩
      · unfold Sha.mix
        rw [Hws.out, ← H64.out, Hq.out]
        exact hY.row (cs' := u32s [sa + xa, sb + xb, sc + xc, sd + xd, se + xe, sf + xf, sg + xg, sh + xh])
      · exact below_row hbel (by omega)
end Go.Proofs.YthklgpflaghojaaGreatDoor
