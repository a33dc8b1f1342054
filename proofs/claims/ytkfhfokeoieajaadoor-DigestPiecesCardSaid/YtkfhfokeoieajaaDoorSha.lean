/-
  SHA-256 and HMAC in plain words over lists: no program is named here.
-/
import Derived.KernelRfl
namespace Go.Proofs.YtkfhfokeoieajaaDoor.Sha

abbrev W := BitVec 32

def rotr (x : W) (n : Nat) : W := (x >>> n) ||| (x <<< (32 - n))

def KL : List Nat := [
  0x428a2f98, 0x71374491, 0xb5c0fbcf, 0xe9b5dba5, 0x3956c25b, 0x59f111f1, 0x923f82a4, 0xab1c5ed5,
  0xd807aa98, 0x12835b01, 0x243185be, 0x550c7dc3, 0x72be5d74, 0x80deb1fe, 0x9bdc06a7, 0xc19bf174,
  0xe49b69c1, 0xefbe4786, 0x0fc19dc6, 0x240ca1cc, 0x2de92c6f, 0x4a7484aa, 0x5cb0a9dc, 0x76f988da,
  0x983e5152, 0xa831c66d, 0xb00327c8, 0xbf597fc7, 0xc6e00bf3, 0xd5a79147, 0x06ca6351, 0x14292967,
  0x27b70a85, 0x2e1b2138, 0x4d2c6dfc, 0x53380d13, 0x650a7354, 0x766a0abb, 0x81c2c92e, 0x92722c85,
  0xa2bfe8a1, 0xa81a664b, 0xc24b8b70, 0xc76c51a3, 0xd192e819, 0xd6990624, 0xf40e3585, 0x106aa070,
  0x19a4c116, 0x1e376c08, 0x2748774c, 0x34b0bcb5, 0x391c0cb3, 0x4ed8aa4a, 0x5b9cca4f, 0x682e6ff3,
  0x748f82ee, 0x78a5636f, 0x84c87814, 0x8cc70208, 0x90befffa, 0xa4506ceb, 0xbef9a3f7, 0xc67178f2]

def kAt (t : Nat) : W := BitVec.ofNat 32 (KL.getD t 0)

/-- Four bytes as a word, the most significant first. -/
def word (b0 b1 b2 b3 : Nat) : W := BitVec.ofNat 32 (b0 * 16777216 + b1 * 65536 + b2 * 256 + b3)
/-- Word t of a group's bytes. -/
def wordAt (p : List Nat) (t : Nat) : W := word (p.getD (4 * t) 0) (p.getD (4 * t + 1) 0) (p.getD (4 * t + 2) 0) (p.getD (4 * t + 3) 0)

def sig0 (x : W) : W := rotr x 7 ^^^ rotr x 18 ^^^ x >>> 3
def sig1 (y : W) : W := rotr y 17 ^^^ rotr y 19 ^^^ y >>> 10

/-- The next word of a schedule. -/
def ext (l : List W) : W :=
  l.getD (l.length - 16) 0 + sig0 (l.getD (l.length - 15) 0) + l.getD (l.length - 7) 0 + sig1 (l.getD (l.length - 2) 0)

/-- The first words that a group gives. -/
def first (p : List Nat) : Nat → List W
  | 0 => []
  | n + 1 => first p n ++ [wordAt p n]

/-- The schedule: the group's sixteen words, and n more. -/
def sched (p : List Nat) : Nat → List W
  | 0 => first p 16
  | n + 1 => sched p n ++ [ext (sched p n)]

structure St where
  a : W
  b : W
  c : W
  d : W
  e : W
  f : W
  g : W
  h : W

def stepV (k w : W) (s : St) : W :=
  s.h + (rotr s.e 6 ^^^ rotr s.e 11 ^^^ rotr s.e 25) + ((s.e &&& s.f) ^^^ (~~~s.e &&& s.g)) + k + w
def stepW (s : St) : W :=
  (rotr s.a 2 ^^^ rotr s.a 13 ^^^ rotr s.a 22) + ((s.a &&& s.b) ^^^ (s.a &&& s.c) ^^^ (s.b &&& s.c))
def step (k w : W) (s : St) : St :=
  ⟨stepV k w s + stepW s, s.a, s.b, s.c, s.d + stepV k w s, s.e, s.f, s.g⟩

/-- The letters behind t rounds. -/
def rounds (ws : List W) (s : St) : Nat → St
  | 0 => s
  | t + 1 => step (kAt t) (ws.getD t 0) (rounds ws s t)

def St.add (x y : St) : St := ⟨x.a + y.a, x.b + y.b, x.c + y.c, x.d + y.d, x.e + y.e, x.f + y.f, x.g + y.g, x.h + y.h⟩

/-- What the words become by a group of 64 bytes. -/
def mix (s : St) (p : List Nat) : St := s.add (rounds (sched p 48) s 64)

def init : St := ⟨0x6a09e667, 0xbb67ae85, 0x3c6ef372, 0xa54ff53a, 0x510e527f, 0x9b05688c, 0x1f83d9ab, 0x5be0cd19⟩

/-- All whole groups among the bytes, n of them. -/
def mixAll (s : St) (p : List Nat) : Nat → St
  | 0 => s
  | n + 1 => mix (mixAll s p n) ((p.drop (64 * n)).take 64)

def St.list (s : St) : List W := [s.a, s.b, s.c, s.d, s.e, s.f, s.g, s.h]

def be (n : Nat) : Nat → List Nat
  | 0 => []
  | k + 1 => be (n / 256) k ++ [n % 256]

/-- How many bytes 0 stand behind the byte 128. -/
def zeros (n : Nat) : Nat := (119 - n % 64) % 64

def padded (p : List Nat) : List Nat := p ++ [128] ++ List.replicate (zeros p.length) 0 ++ be (8 * p.length % 18446744073709551616) 8

def St.bytes (s : St) : List Nat := s.list.flatMap fun w => be w.toNat 4

def sum (p : List Nat) : List Nat := (mixAll init (padded p) ((padded p).length / 64)).bytes

theorem first_length (p : List Nat) (n : Nat) : (first p n).length = n := by
  induction n with
  | zero => rfl
  | succ n ih => simp [first, ih]
theorem sched_length (p : List Nat) (n : Nat) : (sched p n).length = 16 + n := by
  induction n with
  | zero => simp [sched, first_length]
  | succ n ih => simp [sched, ih]; omega
theorem be_length (n k : Nat) : (be n k).length = k := by
  induction k generalizing n with
  | zero => rfl
  | succ k ih => simp [be, ih]
theorem bytes_length (s : St) : s.bytes.length = 32 := by simp [St.bytes, St.list, be_length]
theorem sum_length (p : List Nat) : (sum p).length = 32 := bytes_length _

theorem abc : (sum [97, 98, 99])[0]? = some 186 ∧ (sum [97, 98, 99])[31]? = some 173 := by decide +kernel
end Go.Proofs.YtkfhfokeoieajaaDoor.Sha
