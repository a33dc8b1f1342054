/-
  The document's own way with lists of bits: plain lists of numbers, no program.
-/
import Derived.Test.YtejjjhehfpeilaaB64
namespace Go.Proofs.Ytejjjhehfpeilaa.B64

def bits8 (x : Nat) : List Nat := (List.range 8).map fun k => x / 2 ^ (7 - k) % 2
def bits6 (x : Nat) : List Nat := (List.range 6).map fun k => x / 2 ^ (5 - k) % 2
theorem bits8_eq (x : Nat) : bits8 x = [x / 128 % 2, x / 64 % 2, x / 32 % 2, x / 16 % 2, x / 8 % 2, x / 4 % 2, x / 2 % 2, x % 2] := by simp [bits8, List.range_succ]
theorem bits6_eq (x : Nat) : bits6 x = [x / 32 % 2, x / 16 % 2, x / 8 % 2, x / 4 % 2, x / 2 % 2, x % 2] := by simp [bits6, List.range_succ]
theorem bits8_length (x : Nat) : (bits8 x).length = 8 := by simp [bits8]
theorem bits6_length (x : Nat) : (bits6 x).length = 6 := by simp [bits6]
def bitsB (q : List Nat) : List Nat := q.flatMap bits8
def bitsV (s : List Nat) : List Nat := s.flatMap fun c => bits6 (val c)
def num (l : List Nat) : Nat := l.foldl (fun n b => n * 2 + b) 0
def padN (n : Nat) : Nat := (6 - n % 6) % 6
def pad6 (L : List Nat) : List Nat := L ++ List.replicate (padN L.length) 0
/-- The signs of groups of six bits, the numbers of groups of eight. -/
def g6 : List Nat → List Nat
  | a :: b :: c :: d :: e :: f :: r => sign (num [a, b, c, d, e, f]) :: g6 r
  | _ => []
def g8 : List Nat → List Nat
  | a :: b :: c :: d :: e :: f :: g :: h :: r => num [a, b, c, d, e, f, g, h] % 256 :: g8 r
  | _ => []

theorem bitsB_length (q : List Nat) : (bitsB q).length = 8 * q.length := by
  induction q with
  | nil => rfl
  | cons x r ih => rw [bitsB, List.flatMap_cons, List.length_append, bits8_length]; unfold bitsB at ih; rw [ih, List.length_cons]; omega
theorem bitsV_length (q : List Nat) : (bitsV q).length = 6 * q.length := by
  induction q with
  | nil => rfl
  | cons x r ih => rw [bitsV, List.flatMap_cons, List.length_append, bits6_length]; unfold bitsV at ih; rw [ih, List.length_cons]; omega
theorem bitsB_le (q : List Nat) : ∀ b ∈ bitsB q, b ≤ 1 := by
  intro b hb
  simp only [bitsB, bits8, List.mem_flatMap, List.mem_map] at hb
  obtain ⟨x, _, k, _, rfl⟩ := hb
  omega
theorem bitsV_le (q : List Nat) : ∀ b ∈ bitsV q, b ≤ 1 := by
  intro b hb
  simp only [bitsV, bits6, List.mem_flatMap, List.mem_map] at hb
  obtain ⟨x, _, k, _, rfl⟩ := hb
  omega
theorem pad6_le {L : List Nat} (h : ∀ b ∈ L, b ≤ 1) : ∀ b ∈ pad6 L, b ≤ 1 := by
  intro b hb
  rcases List.mem_append.1 hb with hb | hb
  · exact h b hb
  · rw [List.mem_replicate] at hb; omega
theorem pad6_length (L : List Nat) : (pad6 L).length = L.length + padN L.length := by simp [pad6]
theorem padN_mod (n : Nat) : (n + padN n) % 6 = 0 := by unfold padN; omega
theorem padN_lt (n : Nat) : padN n < 6 := by unfold padN; omega
theorem num_snoc (l : List Nat) (b : Nat) : num (l ++ [b]) = num l * 2 + b := by simp [num, List.foldl_append]
theorem num_lt (l : List Nat) (h : ∀ b ∈ l, b ≤ 1) : num l < 2 ^ l.length := by
  generalize hn : l.length = n
  induction n generalizing l with
  | zero => rw [List.eq_nil_of_length_eq_zero hn]; decide
  | succ n ih =>
    obtain ⟨k, b, rfl⟩ : ∃ k b, l = k ++ [b] := ⟨l.dropLast, l.getLast (fun e => by rw [e] at hn; simp at hn), (List.dropLast_concat_getLast _).symm⟩
    have hk : k.length = n := by simp at hn; exact hn
    have h1 := ih k (fun x hx => h x (List.mem_append_left _ hx)) hk
    have h2 := h b (by simp)
    rw [num_snoc, Nat.pow_succ]
    omega
theorem num6 (a b c d e f : Nat) : num [a, b, c, d, e, f] = ((((a * 2 + b) * 2 + c) * 2 + d) * 2 + e) * 2 + f := by simp [num]
theorem num8 (a b c d e f g h : Nat) : num [a, b, c, d, e, f, g, h] = ((((((a * 2 + b) * 2 + c) * 2 + d) * 2 + e) * 2 + f) * 2 + g) * 2 + h := by simp [num]

theorem cut6 (L : List Nat) (h : 6 ≤ L.length) : ∃ a b c d e f r, L = a :: b :: c :: d :: e :: f :: r := by
  rcases L with _ | ⟨a, _ | ⟨b, _ | ⟨c, _ | ⟨d, _ | ⟨e, _ | ⟨f, r⟩⟩⟩⟩⟩⟩
  all_goals first | exact ⟨_, _, _, _, _, _, _, rfl⟩ | (simp at h)
theorem cut8 (L : List Nat) (h : 8 ≤ L.length) : ∃ a b c d e f g i r, L = a :: b :: c :: d :: e :: f :: g :: i :: r := by
  rcases L with _ | ⟨a, _ | ⟨b, _ | ⟨c, _ | ⟨d, _ | ⟨e, _ | ⟨f, _ | ⟨g, _ | ⟨i, r⟩⟩⟩⟩⟩⟩⟩⟩
  all_goals first | exact ⟨_, _, _, _, _, _, _, _, _, rfl⟩ | (simp at h)
theorem g6_step (L : List Nat) (h : 6 ≤ L.length) : g6 L = sign (num (L.take 6)) :: g6 (L.drop 6) := by
  obtain ⟨a, b, c, d, e, f, r, rfl⟩ := cut6 L h
  simp [g6]
theorem g6_end (L : List Nat) (h : L.length < 6) : g6 L = [] := by
  rcases L with _ | ⟨a, _ | ⟨b, _ | ⟨c, _ | ⟨d, _ | ⟨e, _ | ⟨f, r⟩⟩⟩⟩⟩⟩
  all_goals first | rfl | (simp at h; omega)
theorem g8_step (L : List Nat) (h : 8 ≤ L.length) : g8 L = num (L.take 8) % 256 :: g8 (L.drop 8) := by
  obtain ⟨a, b, c, d, e, f, g, i, r, rfl⟩ := cut8 L h
  simp [g8]
theorem g8_end (L : List Nat) (h : L.length < 8) : g8 L = [] := by
  rcases L with _ | ⟨a, _ | ⟨b, _ | ⟨c, _ | ⟨d, _ | ⟨e, _ | ⟨f, _ | ⟨g, _ | ⟨i, r⟩⟩⟩⟩⟩⟩⟩⟩
  all_goals first | rfl | (simp at h; omega)

/-- The bits of bytes, put together six by six. -/
theorem hi6 : ∀ a, a < 256 → ((((a / 128 % 2 * 2 + a / 64 % 2) * 2 + a / 32 % 2) * 2 + a / 16 % 2) * 2 + a / 8 % 2) * 2 + a / 4 % 2 = a / 4 := by decide +kernel
theorem hi4 : ∀ b, b < 256 → ((b / 128 % 2 * 2 + b / 64 % 2) * 2 + b / 32 % 2) * 2 + b / 16 % 2 = b / 16 := by decide +kernel
theorem lo4 : ∀ b, b < 256 → ((b / 8 % 2 * 2 + b / 4 % 2) * 2 + b / 2 % 2) * 2 + b % 2 = b % 16 := by decide +kernel
theorem hi2 : ∀ c, c < 256 → c / 128 % 2 * 2 + c / 64 % 2 = c / 64 := by decide +kernel
theorem lo2 (a : Nat) : a / 2 % 2 * 2 + a % 2 = a % 4 := by omega
theorem lo6 : ∀ c, c < 256 → ((((c / 32 % 2 * 2 + c / 16 % 2) * 2 + c / 8 % 2) * 2 + c / 4 % 2) * 2 + c / 2 % 2) * 2 + c % 2 = c % 64 := by decide +kernel
theorem n0 {a : Nat} (ha : a < 256) : num [a / 128 % 2, a / 64 % 2, a / 32 % 2, a / 16 % 2, a / 8 % 2, a / 4 % 2] = a / 4 := by rw [num6, hi6 a ha]
theorem n1 {a b : Nat} (hb : b < 256) : num [a / 2 % 2, a % 2, b / 128 % 2, b / 64 % 2, b / 32 % 2, b / 16 % 2] = a % 4 * 16 + b / 16 := by
  have h1 := lo2 a
  have h2 := hi4 b hb
  rw [num6]
  generalize a / 2 % 2 = a1 at *
  generalize a % 2 = a0 at *
  generalize b / 128 % 2 = b7 at *
  generalize b / 64 % 2 = b6 at *
  generalize b / 32 % 2 = b5 at *
  generalize b / 16 % 2 = b4 at *
  omega
theorem n2 {b c : Nat} (hb : b < 256) (hc : c < 256) : num [b / 8 % 2, b / 4 % 2, b / 2 % 2, b % 2, c / 128 % 2, c / 64 % 2] = b % 16 * 4 + c / 64 := by
  have h1 := lo4 b hb
  have h2 := hi2 c hc
  rw [num6]
  generalize b / 8 % 2 = b3 at *
  generalize b / 4 % 2 = b2 at *
  generalize b / 2 % 2 = b1 at *
  generalize b % 2 = b0 at *
  generalize c / 128 % 2 = c7 at *
  generalize c / 64 % 2 = c6 at *
  omega
theorem n3 {c : Nat} (hc : c < 256) : num [c / 32 % 2, c / 16 % 2, c / 8 % 2, c / 4 % 2, c / 2 % 2, c % 2] = c % 64 := by rw [num6, lo6 c hc]
theorem n1' {a : Nat} : num [a / 2 % 2, a % 2, 0, 0, 0, 0] = a % 4 * 16 := by rw [num6, ← lo2 a]; omega
theorem n2' {b : Nat} (hb : b < 256) : num [b / 8 % 2, b / 4 % 2, b / 2 % 2, b % 2, 0, 0] = b % 16 * 4 := by rw [num6, ← lo4 b hb]; omega
theorem sg1' {a : Nat} (ha : a < 256) : sg [a] = [sign (a / 4), sign (a % 4 * 16)] := by
  rw [sg1, show a * 65536 / 262144 % 64 = a / 4 from by omega, show a * 65536 / 4096 % 64 = a % 4 * 16 from by omega]
theorem sg2' {a b : Nat} (ha : a < 256) (hb : b < 256) : sg [a, b] = [sign (a / 4), sign (a % 4 * 16 + b / 16), sign (b % 16 * 4)] := by
  rw [sg2, show (a * 65536 + b * 256) / 262144 % 64 = a / 4 from by omega, show (a * 65536 + b * 256) / 4096 % 64 = a % 4 * 16 + b / 16 from by omega, show (a * 65536 + b * 256) / 64 % 64 = b % 16 * 4 from by omega]
theorem sg3' {a b c : Nat} (ha : a < 256) (hb : b < 256) (hc : c < 256) : sg [a, b, c] = [sign (a / 4), sign (a % 4 * 16 + b / 16), sign (b % 16 * 4 + c / 64), sign (c % 64)] := by
  rw [sg3, show (a * 65536 + b * 256 + c) / 262144 % 64 = a / 4 from by omega, show (a * 65536 + b * 256 + c) / 4096 % 64 = a % 4 * 16 + b / 16 from by omega, show (a * 65536 + b * 256 + c) / 64 % 64 = b % 16 * 4 + c / 64 from by omega, show (a * 65536 + b * 256 + c) % 64 = c % 64 from by omega]
theorem refEnc_eq (q : List Nat) (h : ∀ x ∈ q, x < 256) : g6 (pad6 (bitsB q)) = enc q := by
  induction q using enc.induct with
  | case1 => rfl
  | case2 a =>
    have ha := h a (by simp)
    have e : pad6 (bitsB [a]) = bits8 a ++ [0, 0, 0, 0] := by
      simp only [pad6, bitsB, List.flatMap_cons, List.flatMap_nil, List.append_nil, bits8_length, show padN 8 = 4 from rfl]; rfl
    rw [e, bits8_eq, enc, sg1' ha]
    simp only [List.cons_append, List.nil_append, g6]
    rw [n0 ha, n1']
  | case3 a b =>
    have ha := h a (by simp)
    have hb := h b (by simp)
    have e : pad6 (bitsB [a, b]) = bits8 a ++ (bits8 b ++ [0, 0]) := by
      simp only [pad6, bitsB, List.flatMap_cons, List.flatMap_nil, List.append_nil, List.length_append, bits8_length, show padN (8 + 8) = 2 from rfl, List.append_assoc]; rfl
    rw [e, bits8_eq, bits8_eq, enc, sg2' ha hb]
    simp only [List.cons_append, List.nil_append, g6]
    rw [n0 ha, n1 hb, n2' hb]
  | case4 a b c r ih =>
    have ha := h a (by simp)
    have hb := h b (by simp)
    have hc := h c (by simp)
    have ih' := ih (fun x hx => h x (by simp [hx]))
    have e : pad6 (bitsB (a :: b :: c :: r)) = bits8 a ++ (bits8 b ++ (bits8 c ++ pad6 (bitsB r))) := by
      have hl : (bitsB (a :: b :: c :: r)).length = 24 + (bitsB r).length := by rw [bitsB_length, bitsB_length]; simp only [List.length_cons]; omega
      have hp : padN (24 + (bitsB r).length) = padN (bitsB r).length := by unfold padN; omega
      rw [pad6, hl, hp]
      simp only [pad6, bitsB, List.flatMap_cons, List.append_assoc]
    rw [e, bits8_eq, bits8_eq, bits8_eq, enc, sg3' ha hb hc, ← ih']
    simp only [List.cons_append, List.nil_append, g6]
    rw [n0 ha, n1 hb, n2 hb hc, n3 hc]
theorem bitsV_append (s t : List Nat) : bitsV (s ++ t) = bitsV s ++ bitsV t := by simp [bitsV]
theorem bv {n : Nat} (h : n < 64) : bits6 (val (sign n)) = [n / 32 % 2, n / 16 % 2, n / 8 % 2, n / 4 % 2, n / 2 % 2, n % 2] := by rw [val_sign n h, bits6_eq]
theorem all6 : ∀ v, v < 64 → ((((v / 32 % 2 * 2 + v / 16 % 2) * 2 + v / 8 % 2) * 2 + v / 4 % 2) * 2 + v / 2 % 2) * 2 + v % 2 = v := by decide +kernel
theorem top2 : ∀ v, v < 64 → v / 32 % 2 * 2 + v / 16 % 2 = v / 16 := by decide +kernel
theorem top4 : ∀ v, v < 64 → ((v / 32 % 2 * 2 + v / 16 % 2) * 2 + v / 8 % 2) * 2 + v / 4 % 2 = v / 4 := by decide +kernel
theorem m0 {u v : Nat} (hu : u < 64) (hv : v < 64) : num [u / 32 % 2, u / 16 % 2, u / 8 % 2, u / 4 % 2, u / 2 % 2, u % 2, v / 32 % 2, v / 16 % 2] = u * 4 + v / 16 := by
  have h1 := all6 u hu
  have h2 := top2 v hv
  rw [num8]
  generalize u / 32 % 2 = u5 at *
  generalize u / 16 % 2 = u4 at *
  generalize u / 8 % 2 = u3 at *
  generalize u / 4 % 2 = u2 at *
  generalize u / 2 % 2 = u1 at *
  generalize u % 2 = u0 at *
  generalize v / 32 % 2 = v5 at *
  generalize v / 16 % 2 = v4 at *
  omega
theorem m1 {u v : Nat} (hu : u < 64) (hv : v < 64) : num [u / 8 % 2, u / 4 % 2, u / 2 % 2, u % 2, v / 32 % 2, v / 16 % 2, v / 8 % 2, v / 4 % 2] = u % 16 * 16 + v / 4 := by
  have h1 := lo4 u (by omega)
  have h2 := top4 v hv
  rw [num8]
  generalize u / 8 % 2 = u3 at *
  generalize u / 4 % 2 = u2 at *
  generalize u / 2 % 2 = u1 at *
  generalize u % 2 = u0 at *
  generalize v / 32 % 2 = v5 at *
  generalize v / 16 % 2 = v4 at *
  generalize v / 8 % 2 = v3 at *
  generalize v / 4 % 2 = v2 at *
  omega
theorem m2 {u v : Nat} (hv : v < 64) : num [u / 2 % 2, u % 2, v / 32 % 2, v / 16 % 2, v / 8 % 2, v / 4 % 2, v / 2 % 2, v % 2] = u % 4 * 64 + v := by
  have h1 := lo2 u
  have h2 := all6 v hv
  rw [num8]
  generalize u / 2 % 2 = u1 at *
  generalize u % 2 = u0 at *
  generalize v / 32 % 2 = v5 at *
  generalize v / 16 % 2 = v4 at *
  generalize v / 8 % 2 = v3 at *
  generalize v / 4 % 2 = v2 at *
  generalize v / 2 % 2 = v1 at *
  generalize v % 2 = v0 at *
  omega
theorem g8_enc (q : List Nat) (h : ∀ x ∈ q, x < 256) : g8 (bitsV (enc q)) = q := by
  induction q using enc.induct with
  | case1 => rfl
  | case2 a =>
    have ha := h a (by simp)
    have h0 : a / 4 < 64 := by omega
    have h1 : a % 4 * 16 < 64 := by omega
    rw [enc, sg1' ha]
    simp only [bitsV, List.flatMap_cons, List.flatMap_nil, List.append_nil]
    rw [bv h0, bv h1]
    simp only [List.cons_append, List.nil_append, g8]
    rw [m0 h0 h1, show (a / 4 * 4 + a % 4 * 16 / 16) % 256 = a from by omega]
  | case3 a b =>
    have ha := h a (by simp)
    have hb := h b (by simp)
    have h0 : a / 4 < 64 := by omega
    have h1 : a % 4 * 16 + b / 16 < 64 := by omega
    have h2 : b % 16 * 4 < 64 := by omega
    rw [enc, sg2' ha hb]
    simp only [bitsV, List.flatMap_cons, List.flatMap_nil, List.append_nil]
    rw [bv h0, bv h1, bv h2]
    simp only [List.cons_append, List.nil_append, g8]
    rw [m0 h0 h1, m1 h1 h2, show (a / 4 * 4 + (a % 4 * 16 + b / 16) / 16) % 256 = a from by omega, show ((a % 4 * 16 + b / 16) % 16 * 16 + b % 16 * 4 / 4) % 256 = b from by omega]
  | case4 a b c r ih =>
    have ha := h a (by simp)
    have hb := h b (by simp)
    have hc := h c (by simp)
    have h0 : a / 4 < 64 := by omega
    have h1 : a % 4 * 16 + b / 16 < 64 := by omega
    have h2 : b % 16 * 4 + c / 64 < 64 := by omega
    have h3 : c % 64 < 64 := by omega
    have ih' := ih (fun x hx => h x (by simp [hx]))
    rw [enc, sg3' ha hb hc, bitsV_append]
    generalize bitsV (enc r) = R at *
    simp only [bitsV, List.flatMap_cons, List.flatMap_nil, List.append_nil]
    rw [bv h0, bv h1, bv h2, bv h3]
    simp only [List.cons_append, List.nil_append, g8]
    rw [m0 h0 h1, m1 h1 h2, m2 h3, ih', show (a / 4 * 4 + (a % 4 * 16 + b / 16) / 16) % 256 = a from by omega, show ((a % 4 * 16 + b / 16) % 16 * 16 + (b % 16 * 4 + c / 64) / 4) % 256 = b from by omega, show ((b % 16 * 4 + c / 64) % 4 * 64 + c % 64) % 256 = c from by omega]
/-- What the document's own reading tells is what a reading must be. -/
theorem refDec_yes {s : List Nat} (h : enc (g8 (bitsV s)) = s) : IsDec s (some (g8 (bitsV s))) := by
  refine ⟨?_, h⟩
  generalize bitsV s = L
  clear h
  induction L using g8.induct with
  | case1 a b c d e f g i r ih =>
    intro x hx
    rw [g8] at hx
    rcases List.mem_cons.1 hx with rfl | hx
    · exact Nat.mod_lt _ (by decide)
    · exact ih x hx
  | case2 L h => intro x hx; rw [g8] at hx; cases hx; exact h
theorem refDec_no {s : List Nat} (h : enc (g8 (bitsV s)) ≠ s) : IsDec s none := by
  intro q hq e
  apply h
  rw [← e, g8_enc q hq]
theorem refDec_bad {s : List Nat} {c : Nat} (hc : c ∈ s) (h : ¬ val c < 64) : IsDec s none := by
  intro q hq e
  subst e
  clear hq
  apply h
  induction q using enc.induct with
  | case1 => simp [enc] at hc
  | case2 a =>
    simp only [enc, sg, List.mem_map] at hc
    obtain ⟨i, _, rfl⟩ := hc
    rw [vs]; exact Nat.mod_lt _ (by decide)
  | case3 a b =>
    simp only [enc, sg, List.mem_map] at hc
    obtain ⟨i, _, rfl⟩ := hc
    rw [vs]; exact Nat.mod_lt _ (by decide)
  | case4 a b d r ih =>
    rw [enc, List.mem_append] at hc
    rcases hc with hc | hc
    · simp only [sg, List.mem_map] at hc
      obtain ⟨i, _, rfl⟩ := hc
      rw [vs]; exact Nat.mod_lt _ (by decide)
    · exact ih hc
end Go.Proofs.Ytejjjhehfpeilaa.B64
