/-
  QT2: BAlive BOwn BBits BRefV BRefE BRefD, side by side.
-/
import Derived.Test.YthklgpflaghojaaGreatDoorQT1
import Derived.Test.YthklgpflaghojaaGreatDoorQM
import Derived.Laws.AppendOwnNone

/-
  The contract of the law package's alive: it answers true.
-/
namespace Go.Proofs.YthklgpflaghojaaGreatDoor
open Go.RowKit
end Go.Proofs.YthklgpflaghojaaGreatDoor

/-
  Rows of the call's own: append of one value, append of bytes that came in.
-/
namespace Go.Proofs.YthklgpflaghojaaGreatDoor
open Go.RowKit
section
variable {ops : Array Oper} {rest : List Oper} {o : Oper} {a : Act} {Q : Exit → Act → World → Prop} {w : World}
/-- append of one value that was just laid. -/
theorem append_one (hgd : o.guard = none) (s x : Operand) (t e : TypeId) (z : Value) (bytes : Nat)
    (ho : o.op = .call { callee := .builtin .append, args := #[s, x], argTypes := #[t, t] }) (ht : Tryz.prog.underlying t = some (.slice e))
    (hi : (Tryz.prog.info? e).map (fun i => (i.zero, i.size, i.bytes)) = some (some z, 1, bytes)) (hz : z.cells.size = 1)
    (base : Nat) (v : Value) (n : Nat) (xs : List Value) (h : Nat) (u : Value) (hown : w.ownsRow base e 1 v n xs) (hc : w.cell? ⟨h, 0, none⟩ = some u) (h1 : u.oneCell' = true)
    (hs : a.eval s = v) (hx : a.eval x = .slice (some ⟨h, 0, none⟩) 1 1) (hb : (n + 1) * bytes ≤ 140737488355328) (hm : n + 1 ≤ 140737488355328) (hbase : base ≤ w.heap.size)
    (hK : ∀ v' w', w'.ownsRow base e 1 v' (n + 1) (xs ++ [u]) → w.grownBy w' v.ownBlock → wpList Tryz.prog ops Q rest (a.put o.dst v') w') : wpList Tryz.prog ops Q (o :: rest) a w := by
  refine wpList_plain hgd fun K hK' => ?_
  obtain ⟨i0, hi0, hz0, hz1, hz2⟩ := info_parts hi
  obtain ⟨v', w', hrun, h2, h3, _⟩ := run_append_own (P := Tryz.prog) w base t o.type e i0 z 1 bytes ht hi0 hz0 hz1 hz2 hz (by decide) v n xs hown ⟨h, 0, none⟩ 1 1 [u] (by simp)
    (fun j y hj => by
      have hj0 : j = 0 := by
        have := (List.getElem?_eq_some_iff.1 hj).1
        simp at this; omega
      subst hj0
      simp at hj
      subst hj
      exact hc)
    (by simpa using h1) (by unfold maxLen; omega) hb hbase
  unfold Oper.wp
  simp [execOp, ho, resolve, invoke, builtin, hs, hx, hrun, Result.andThen]
  exact hK' _ _ (hK v' w' h2 h3)

end
end Go.Proofs.YthklgpflaghojaaGreatDoor

/-
  The document's own way with lists of bits: plain lists of numbers, no program.
-/
namespace Go.Proofs.YthklgpflaghojaaGreatDoor.B64

def bits8 (x : Nat) : List Nat := (List.range 8).map fun k => x / 2 ^ (7 - k) % 2
theorem bits8_eq (x : Nat) : bits8 x = [x / 128 % 2, x / 64 % 2, x / 32 % 2, x / 16 % 2, x / 8 % 2, x / 4 % 2, x / 2 % 2, x % 2] := by simp [bits8, List.range_succ]
theorem bits8_length (x : Nat) : (bits8 x).length = 8 := by simp [bits8]
def bitsB (q : List Nat) : List Nat := q.flatMap bits8
def num (l : List Nat) : Nat := l.foldl (fun n b => n * 2 + b) 0
def padN (n : Nat) : Nat := (6 - n % 6) % 6
def pad6 (L : List Nat) : List Nat := L ++ List.replicate (padN L.length) 0
/-- The signs of groups of six bits, the numbers of groups of eight. -/
def g6 : List Nat → List Nat
  | a :: b :: c :: d :: e :: f :: r => sign (num [a, b, c, d, e, f]) :: g6 r
  | _ => []
def g8 : List Nat → List Nat
  | a :: b :: c :: d :: e :: f :: g :: h :: r => num [a, b, c, d, e, f, g, h] % 256 :: g8 r
  | _ => []

theorem bitsB_length (q : List Nat) : (bitsB q).length = 8 * q.length := by
  induction q with
  | nil => rfl
  | cons x r ih => rw [bitsB, List.flatMap_cons, List.length_append, bits8_length]; unfold bitsB at ih; rw [ih, List.length_cons]; omega
theorem bitsB_le (q : List Nat) : ∀ b ∈ bitsB q, b ≤ 1 := by
  intro b hb
  simp only [bitsB, bits8, List.mem_flatMap, List.mem_map] at hb
  obtain ⟨x, _, k, _, rfl⟩ := hb
  omega
theorem pad6_le {L : List Nat} (h : ∀ b ∈ L, b ≤ 1) : ∀ b ∈ pad6 L, b ≤ 1 := by
  intro b hb
  rcases List.mem_append.1 hb with hb | hb
  · exact h b hb
  · rw [List.mem_replicate] at hb; omega
theorem pad6_length (L : List Nat) : (pad6 L).length = L.length + padN L.length := by simp [pad6]
theorem padN_lt (n : Nat) : padN n < 6 := by unfold padN; omega
theorem num_snoc (l : List Nat) (b : Nat) : num (l ++ [b]) = num l * 2 + b := by simp [num, List.foldl_append]
theorem num6 (a b c d e f : Nat) : num [a, b, c, d, e, f] = ((((a * 2 + b) * 2 + c) * 2 + d) * 2 + e) * 2 + f := by simp [num]
theorem num8 (a b c d e f g h : Nat) : num [a, b, c, d, e, f, g, h] = ((((((a * 2 + b) * 2 + c) * 2 + d) * 2 + e) * 2 + f) * 2 + g) * 2 + h := by simp [num]

theorem cut6 (L : List Nat) (h : 6 ≤ L.length) : ∃ a b c d e f r, L = a :: b :: c :: d :: e :: f :: r := by
  rcases L with _ | ⟨a, _ | ⟨b, _ | ⟨c, _ | ⟨d, _ | ⟨e, _ | ⟨f, r⟩⟩⟩⟩⟩⟩
  all_goals first | exact ⟨_, _, _, _, _, _, _, rfl⟩ | (simp at h)
theorem g6_step (L : List Nat) (h : 6 ≤ L.length) : g6 L = sign (num (L.take 6)) :: g6 (L.drop 6) := by
  obtain ⟨a, b, c, d, e, f, r, rfl⟩ := cut6 L h
  simp [g6]
theorem g6_end (L : List Nat) (h : L.length < 6) : g6 L = [] := by
  rcases L with _ | ⟨a, _ | ⟨b, _ | ⟨c, _ | ⟨d, _ | ⟨e, _ | ⟨f, r⟩⟩⟩⟩⟩⟩
  all_goals first | rfl | (simp at h; omega)
/-- The bits of bytes, put together six by six. -/
theorem hi6 : ∀ a, a < 256 → ((((a / 128 % 2 * 2 + a / 64 % 2) * 2 + a / 32 % 2) * 2 + a / 16 % 2) * 2 + a / 8 % 2) * 2 + a / 4 % 2 = a / 4 := by decide +kernel
theorem hi4 : ∀ b, b < 256 → ((b / 128 % 2 * 2 + b / 64 % 2) * 2 + b / 32 % 2) * 2 + b / 16 % 2 = b / 16 := by decide +kernel
theorem lo4 : ∀ b, b < 256 → ((b / 8 % 2 * 2 + b / 4 % 2) * 2 + b / 2 % 2) * 2 + b % 2 = b % 16 := by decide +kernel
theorem hi2 : ∀ c, c < 256 → c / 128 % 2 * 2 + c / 64 % 2 = c / 64 := by decide +kernel
theorem lo2 (a : Nat) : a / 2 % 2 * 2 + a % 2 = a % 4 := by omega
theorem lo6 : ∀ c, c < 256 → ((((c / 32 % 2 * 2 + c / 16 % 2) * 2 + c / 8 % 2) * 2 + c / 4 % 2) * 2 + c / 2 % 2) * 2 + c % 2 = c % 64 := by decide +kernel
theorem n0 {a : Nat} (ha : a < 256) : num [a / 128 % 2, a / 64 % 2, a / 32 % 2, a / 16 % 2, a / 8 % 2, a / 4 % 2] = a / 4 := by rw [num6, hi6 a ha]
theorem n1 {a b : Nat} (hb : b < 256) : num [a / 2 % 2, a % 2, b / 128 % 2, b / 64 % 2, b / 32 % 2, b / 16 % 2] = a % 4 * 16 + b / 16 := by
  have h1 := lo2 a
  have h2 := hi4 b hb
  rw [num6]
  generalize a / 2 % 2 = a1 at *
  generalize a % 2 = a0 at *
  generalize b / 128 % 2 = b7 at *
  generalize b / 64 % 2 = b6 at *
  generalize b / 32 % 2 = b5 at *
  generalize b / 16 % 2 = b4 at *
  omega
theorem n2 {b c : Nat} (hb : b < 256) (hc : c < 256) : num [b / 8 % 2, b / 4 % 2, b / 2 % 2, b % 2, c / 128 % 2, c / 64 % 2] = b % 16 * 4 + c / 64 := by
  have h1 := lo4 b hb
  have h2 := hi2 c hc
  rw [num6]
  generalize b / 8 % 2 = b3 at *
  generalize b / 4 % 2 = b2 at *
  generalize b / 2 % 2 = b1 at *
  generalize b % 2 = b0 at *
  generalize c / 128 % 2 = c7 at *
  generalize c / 64 % 2 = c6 at *
  omega
theorem n3 {c : Nat} (hc : c < 256) : num [c / 32 % 2, c / 16 % 2, c / 8 % 2, c / 4 % 2, c / 2 % 2, c % 2] = c % 64 := by rw [num6, lo6 c hc]
theorem n1' {a : Nat} : num [a / 2 % 2, a % 2, 0, 0, 0, 0] = a % 4 * 16 := by rw [num6, ← lo2 a]; omega
theorem n2' {b : Nat} (hb : b < 256) : num [b / 8 % 2, b / 4 % 2, b / 2 % 2, b % 2, 0, 0] = b % 16 * 4 := by rw [num6, ← lo4 b hb]; omega
theorem sg1' {a : Nat} (ha : a < 256) : sg [a] = [sign (a / 4), sign (a % 4 * 16)] := by
  rw [sg1, show a * 65536 / 262144 % 64 = a / 4 from by omega, show a * 65536 / 4096 % 64 = a % 4 * 16 from by omega]
theorem sg2' {a b : Nat} (ha : a < 256) (hb : b < 256) : sg [a, b] = [sign (a / 4), sign (a % 4 * 16 + b / 16), sign (b % 16 * 4)] := by
  rw [sg2, show (a * 65536 + b * 256) / 262144 % 64 = a / 4 from by omega, show (a * 65536 + b * 256) / 4096 % 64 = a % 4 * 16 + b / 16 from by omega, show (a * 65536 + b * 256) / 64 % 64 = b % 16 * 4 from by omega]
theorem sg3' {a b c : Nat} (ha : a < 256) (hb : b < 256) (hc : c < 256) : sg [a, b, c] = [sign (a / 4), sign (a % 4 * 16 + b / 16), sign (b % 16 * 4 + c / 64), sign (c % 64)] := by
  rw [sg3, show (a * 65536 + b * 256 + c) / 262144 % 64 = a / 4 from by omega, show (a * 65536 + b * 256 + c) / 4096 % 64 = a % 4 * 16 + b / 16 from by omega, show (a * 65536 + b * 256 + c) / 64 % 64 = b % 16 * 4 + c / 64 from by omega, show (a * 65536 + b * 256 + c) % 64 = c % 64 from by omega]
theorem refEnc_eq (q : List Nat) (h : ∀ x ∈ q, x < 256) : g6 (pad6 (bitsB q)) = enc q := by
  induction q using enc.induct with
  | case1 => rfl
  | case2 a =>
    have ha := h a (by simp)
    have e : pad6 (bitsB [a]) = bits8 a ++ [0, 0, 0, 0] := by
      simp only [pad6, bitsB, List.flatMap_cons, List.flatMap_nil, List.append_nil, bits8_length, show padN 8 = 4 from rfl]; rfl
    rw [e, bits8_eq, enc, sg1' ha]
    simp only [List.cons_append, List.nil_append, g6]
    rw [n0 ha, n1']
  | case3 a b =>
    have ha := h a (by simp)
    have hb := h b (by simp)
    have e : pad6 (bitsB [a, b]) = bits8 a ++ (bits8 b ++ [0, 0]) := by
      simp only [pad6, bitsB, List.flatMap_cons, List.flatMap_nil, List.append_nil, List.length_append, bits8_length, show padN (8 + 8) = 2 from rfl, List.append_assoc]; rfl
    rw [e, bits8_eq, bits8_eq, enc, sg2' ha hb]
    simp only [List.cons_append, List.nil_append, g6]
    rw [n0 ha, n1 hb, n2' hb]
  | case4 a b c r ih =>
    have ha := h a (by simp)
    have hb := h b (by simp)
    have hc := h c (by simp)
    have ih' := ih (fun x hx => h x (by simp [hx]))
    have e : pad6 (bitsB (a :: b :: c :: r)) = bits8 a ++ (bits8 b ++ (bits8 c ++ pad6 (bitsB r))) := by
      have hl : (bitsB (a :: b :: c :: r)).length = 24 + (bitsB r).length := by rw [bitsB_length, bitsB_length]; simp only [List.length_cons]; omega
      have hp : padN (24 + (bitsB r).length) = padN (bitsB r).length := by unfold padN; omega
      rw [pad6, hl, hp]
      simp only [pad6, bitsB, List.flatMap_cons, List.append_assoc]
    rw [e, bits8_eq, bits8_eq, bits8_eq, enc, sg3' ha hb hc, ← ih']
    simp only [List.cons_append, List.nil_append, g6]
    rw [n0 ha, n1 hb, n2 hb hc, n3 hc]
theorem all6 : ∀ v, v < 64 → ((((v / 32 % 2 * 2 + v / 16 % 2) * 2 + v / 8 % 2) * 2 + v / 4 % 2) * 2 + v / 2 % 2) * 2 + v % 2 = v := by decide +kernel
theorem top2 : ∀ v, v < 64 → v / 32 % 2 * 2 + v / 16 % 2 = v / 16 := by decide +kernel
theorem top4 : ∀ v, v < 64 → ((v / 32 % 2 * 2 + v / 16 % 2) * 2 + v / 8 % 2) * 2 + v / 4 % 2 = v / 4 := by decide +kernel
theorem m0 {u v : Nat} (hu : u < 64) (hv : v < 64) : num [u / 32 % 2, u / 16 % 2, u / 8 % 2, u / 4 % 2, u / 2 % 2, u % 2, v / 32 % 2, v / 16 % 2] = u * 4 + v / 16 := by
  have h1 := all6 u hu
  have h2 := top2 v hv
  rw [num8]
  generalize u / 32 % 2 = u5 at *
  generalize u / 16 % 2 = u4 at *
  generalize u / 8 % 2 = u3 at *
  generalize u / 4 % 2 = u2 at *
  generalize u / 2 % 2 = u1 at *
  generalize u % 2 = u0 at *
  generalize v / 32 % 2 = v5 at *
  generalize v / 16 % 2 = v4 at *
  omega
theorem m1 {u v : Nat} (hu : u < 64) (hv : v < 64) : num [u / 8 % 2, u / 4 % 2, u / 2 % 2, u % 2, v / 32 % 2, v / 16 % 2, v / 8 % 2, v / 4 % 2] = u % 16 * 16 + v / 4 := by
  have h1 := lo4 u (by omega)
  have h2 := top4 v hv
  rw [num8]
  generalize u / 8 % 2 = u3 at *
  generalize u / 4 % 2 = u2 at *
  generalize u / 2 % 2 = u1 at *
  generalize u % 2 = u0 at *
  generalize v / 32 % 2 = v5 at *
  generalize v / 16 % 2 = v4 at *
  generalize v / 8 % 2 = v3 at *
  generalize v / 4 % 2 = v2 at *
  omega
theorem m2 {u v : Nat} (hv : v < 64) : num [u / 2 % 2, u % 2, v / 32 % 2, v / 16 % 2, v / 8 % 2, v / 4 % 2, v / 2 % 2, v % 2] = u % 4 * 64 + v := by
  have h1 := lo2 u
  have h2 := all6 v hv
  rw [num8]
  generalize u / 2 % 2 = u1 at *
  generalize u % 2 = u0 at *
  generalize v / 32 % 2 = v5 at *
  generalize v / 16 % 2 = v4 at *
  generalize v / 8 % 2 = v3 at *
  generalize v / 4 % 2 = v2 at *
  generalize v / 2 % 2 = v1 at *
  generalize v % 2 = v0 at *
  omega
end Go.Proofs.YthklgpflaghojaaGreatDoor.B64

/-
  The contracts of the document's own Signs and Value.
-/
namespace Go.Proofs.YthklgpflaghojaaGreatDoor
open Go.RowKit

theorem sign_run_i (n : Nat) (h : n < 64) (w : World) : (Instr.index 9 (.string signsB) (.int .i64 (n : Int))).run Tryz.prog w = .ok (.int .u8 (B64.sign n : Nat)) w := by
  have hs : signsB.size = 64 := rfl
  rw [run_index_string w 9 signsB .i64 (n : Int) Tryz.underlying9, dif_pos ⟨by omega, by rw [hs]; omega⟩]
  have hg := signs_get n h
  have hn : n < signsB.data.toList.length := h
  rw [List.getElem?_eq_getElem hn] at hg
  have hg' : (signsB.data.toList[n]).toNat = B64.sign n := by simpa using hg
  rw [← hg']
  rfl

/-- A text that holds the signs. -/
def IsSigns (S : ByteArray) : Prop := S = signsB
theorem IsSigns.run {S : ByteArray} (h : IsSigns S) (n : Nat) (hn : n < 64) (w : World) : (Instr.index 9 (.string S) (.int .i64 (n : Int))).run Tryz.prog w = .ok (.int .u8 (B64.sign n : Nat)) w := by
  rw [h]; exact sign_run_i n hn w

set_option maxRecDepth 100000 in
set_option maxHeartbeats 400000 in
theorem signs_any (w : World) : Calls Tryz.prog 48 #[] w fun e w' => (∃ S, IsSigns S ∧ e = .returned (.string S)) ∧ w = w' := by
  go_enter Tryz.func48, Tryz.ntmps48
  go_wp2
  go_ret
  exact ⟨⟨_, rfl, rfl⟩, rfl⟩

theorem val_first (c k : Nat) (hk : k < 64) (he : B64.sign k = c) : B64.val c = k := by
  rw [← he, B64.val_sign k hk]
end Go.Proofs.YthklgpflaghojaaGreatDoor

/-
  The contract of the document's own Encode.
-/
namespace Go.Proofs.YthklgpflaghojaaGreatDoor
open Go.RowKit

/-- Numbers as cells. -/
def i64s (l : List Nat) : List Value := l.map fun (x : Nat) => .int .i64 (x : Int)
theorem i64s_snoc (l : List Nat) (x : Nat) : i64s l ++ [.int .i64 (x : Int)] = i64s (l ++ [x]) := by simp [i64s]
theorem u8s2_snoc (l : List Nat) (x : Nat) : u8s l ++ [.int .u8 (x : Int)] = u8s (l ++ [x]) := by simp [u8s]
theorem bits8_take (x k : Nat) (hk : k < 8) : (B64.bits8 x).take (k + 1) = (B64.bits8 x).take k ++ [x / 2 ^ (7 - k) % 2] := by
  have hl : k < (B64.bits8 x).length := by rw [B64.bits8_length]; exact hk
  rw [List.take_succ_eq_append_getElem hl]
  congr 2
  simp [B64.bits8]
theorem bitsB_next (q : List Nat) (k : Nat) (hk : k < q.length) : B64.bitsB (q.take (k + 1)) = B64.bitsB (q.take k) ++ B64.bits8 (q.getD k 0) := by
  rw [List.take_succ_eq_append_getElem hk, B64.bitsB, B64.bitsB, List.flatMap_append]
  simp [List.getD_eq_getElem?_getD, List.getElem?_eq_getElem hk]

theorem bit_int (x m : Nat) : (x : Int) / 2 ^ m % 2 = ((x / 2 ^ m % 2 : Nat) : Int) := by simp

/-- What holds at each round of the loops of the document's Encode. -/
def RefE1 (q : List Nat) (w : World) (v i : Value) (wr : World) : Prop :=
  ∃ k N : Nat, k ≤ q.length ∧ N = 8 * k ∧ i = .int .i64 k ∧ wr.ownsRow w.heap.size 3 1 v N (i64s (B64.bitsB (q.take k))) ∧ Below w.heap.size w wr
def RefE2 (q : List Nat) (w : World) (k : Nat) (v i : Value) (wr : World) : Prop :=
  ∃ j N : Nat, j ≤ 8 ∧ N = 8 * k + j ∧ i = .int .i64 (7 - (j : Int)) ∧ wr.ownsRow w.heap.size 3 1 v N (i64s (B64.bitsB (q.take k) ++ (B64.bits8 (q.getD k 0)).take j)) ∧ Below w.heap.size w wr

def RefE3 (q : List Nat) (w : World) (N : Nat) (v : Value) (wr : World) : Prop :=
  ∃ (j M : Nat) (A : Option Addr) (cap : Nat), j ≤ B64.padN N ∧ M = N + j ∧ v = .slice A M cap ∧ wr.ownsRow w.heap.size 3 1 (.slice A M cap) M (i64s (B64.bitsB q ++ List.replicate j 0)) ∧ Below w.heap.size w wr
theorem pad_test (N j : Nat) (_h : j ≤ B64.padN N) : (j = B64.padN N → (N + j) % 6 = 0) ∧ (j < B64.padN N → (N + j) % 6 ≠ 0) := by
  unfold B64.padN at *
  constructor <;> intro h <;> omega

def RefE4 (q L : List Nat) (w4 : World) (v i : Value) (wr : World) : Prop :=
  ∃ (I nT : Nat) (T : List Nat), I ≤ L.length ∧ I % 6 = 0 ∧ i = .int .i64 I ∧ T.length = nT ∧ wr.ownsRow w4.heap.size 5 1 v nT (u8s T) ∧ (∀ x ∈ T, x < 256) ∧ T ++ B64.g6 (L.drop I) = B64.enc q ∧ Below w4.heap.size w4 wr
theorem row_cells {w : World} {base M cap : Nat} {A : Option Addr} {L : List Nat} (h : w.ownsRow base 3 1 (.slice A M cap) M (i64s L)) : 0 < M → ∃ g, A = some ⟨g, 0, none⟩ ∧ ∀ j, j < L.length → w.cell? ⟨g, j, none⟩ = some (.int .i64 (L.getD j 0 : Nat)) := by
  intro hM
  obtain ⟨g, cap', e⟩ := own_form h hM
  have hA : A = some ⟨g, 0, none⟩ := by simpa using congrArg (fun v => match v with | Value.slice a _ _ => a | _ => none) e
  subst hA
  refine ⟨g, rfl, fun j hj => ?_⟩
  have hc := h.cells (g := g) rfl j (.int .i64 (L.getD j 0 : Nat)) (by simp [i64s, List.getElem?_eq_getElem hj, List.getD_eq_getElem?_getD])
  rw [Addr.add_lit, Nat.zero_add] at hc
  exact hc
theorem num_next (L : List Nat) (I j : Nat) (h : I + j < L.length) : B64.num ((L.drop I).take (j + 1)) = B64.num ((L.drop I).take j) * 2 + L.getD (I + j) 0 := by
  have hl : j < (L.drop I).length := by rw [List.length_drop]; omega
  rw [List.take_succ_eq_append_getElem hl, B64.num_snoc]
  simp [List.getD_eq_getElem?_getD, List.getElem?_eq_getElem h]

set_option maxHeartbeats 2000000 in
set_option maxRecDepth 100000 in
theorem refEncode_any (q : List Nat) (A : Option Addr) (c : Nat) (w : World) (hq : ArgIs w A c q) (hn : q.length ≤ 1048576) :
    Calls Tryz.prog 28 #[.slice A q.length c] w fun e w' => e = .returned (.string (strOf (B64.enc q))) ∧ Below w.heap.size w w' := by
  obtain ⟨l, hl⟩ : ∃ l, q.length = l := ⟨_, rfl⟩
  rw [hl] at hn ⊢
  have Hl := Lib.hid hl
  clear hl
  go_enter Tryz.func28, Tryz.ntmps28
  go_wp2_with fail
  go_loopw [3, 4] (fun v i wr => RefE1 q w v i wr) (fun _ i _ => l - (intOf i).toNat)
  case atStart => exact ⟨0, 0, Nat.zero_le _, rfl, rfl, World.ownsRow_nil _ _ _ _, Below.refl _ _⟩
  case round =>
    obtain ⟨k, N, hk, hN, rfl, hown, hb⟩ := hrel
    rw [Hl.out] at hk
    have HN := Lib.hid hN
    clear hN
    obtain ⟨wo, rfl⟩ : ∃ wo : World, wo = wr := ⟨_, rfl⟩
    by_cases hlt : k < l
    · have hx : q.getD k 0 < 256 := B64.getD_lt hq.2.2.1 k
      obtain ⟨b, off, rfl, hbw, hby⟩ := hq.2.2.2 (by rw [Hl.out]; omega)
      have hc0 : w.cell? ⟨b, off + k, none⟩ = some (.int .u8 (q.getD k 0 : Nat)) := hby.get (by rw [Hl.out]; exact hlt)
      have HB := Lib.hid (bitsB_next q k (by rw [Hl.out]; exact hlt))
      clear hby
      go_wp2_with fail
      go_loopw [3, 5] (fun v i wr => RefE2 q w k v i wr) (fun _ i _ => (intOf i + 1).toNat)
      case atStart => exact ⟨0, N, Nat.zero_le _, by rw [HN.out]; rfl, rfl, by simpa using hown, hb⟩
      case round =>
        clear hown hb
        obtain ⟨j, M, hj, hM, rfl, hown, hb⟩ := hrel
        have HM := Lib.hid hM
        have hMb : M ≤ 8388616 := by omega
        clear hM
        have hc : wr.cell? ⟨b, off + k, none⟩ = some (.int .u8 (q.getD k 0 : Nat)) := (hb.cell (p := ⟨b, off + k, none⟩) hbw).trans hc0
        by_cases hj8 : j < 8
        · have HT := Lib.hid (bits8_take (q.getD k 0) j hj8)
          obtain ⟨x, ex⟩ : ∃ x, q.getD k 0 = x := ⟨_, rfl⟩
          rw [ex] at hc HT hx hown
          have Hx := Lib.hid ex
          have HD := Lib.hid (bit_int x (7 - j))
          have hdv : (x : Int) / 2 ^ (7 - j) ≤ 255 := Int.le_trans (Int.ediv_le_self _ (by omega)) (by omega)
          have hdv0 : (0 : Int) ≤ (x : Int) / 2 ^ (7 - j) := Int.ediv_nonneg (by omega) (Int.le_of_lt (Int.pow_pos (by omega)))
          have hd : decide ((0 : Int) ≤ 7 - (j : Int)) = true := decide_eq_true (by omega)
          have h7 : (0 : Int) ≤ 7 - (j : Int) := by omega
          have h7b : 7 - (j : Int) ≤ 7 := by omega
          clear ex
          go_upto_region 8 with (fail)
          repeat ((fail_if_success (with_reducible show wpList _ _ _ (⟨some 32, _, _, _, _, _⟩ :: _) _ _)); first | go_values | go_skip | go_guarded | go_step | go_upon | go_back | go_simp)
          with_reducible refine append_one rfl (.tmp 21) (.tmp 31) 83 3 (.int .i64 0) 8 rfl Tryz.underlying83 info3b rfl w.heap.size _ M _ wr.heap.size (.int .i64 ((x / 2 ^ (7 - j) % 2 : Nat) : Int)) (hown.alloc _) ?c1 ?c2 ?c3 ?c4 ?c5 ?c6 ?c7 ?_
          case c1 => rw [← HD.out]; simp
          case c2 => rfl
          case c3 => rfl
          case c4 => rfl
          case c5 => omega
          case c6 => omega
          case c7 => have := hb.size; simp; omega
          intro v2 w2 hown2 hgr2
          have hb2 : Below w.heap.size w w2 := (hb.alloc hb.size _).grown hgr2 (by have := hb.size; simp; omega) (own_ge hown)
          rw [i64s_snoc, List.append_assoc, ← HT.out] at hown2
          clear hgr2 hown hb hc hc0 hdv hdv0
          go_frame
          go_wp2
          go_roundw
          case rel => exact ⟨j + 1, M + 1, by omega, by rw [HM.out]; rfl, by go_num, by rw [Hx.out]; exact hown2, hb2⟩
          case measure => simp [intOf]; omega
        · obtain rfl : j = 8 := by omega
          have hd : decide ((0 : Int) ≤ 7 - ((8 : Nat) : Int)) = false := by decide
          rw [show (B64.bits8 (q.getD k 0)).take 8 = B64.bits8 (q.getD k 0) from List.take_of_length_le (by rw [B64.bits8_length]; exact Nat.le_refl _), ← HB.out] at hown
          clear hc hc0
          go_wp2
          go_roundw
          case rel => exact ⟨k + 1, M, by rw [Hl.out]; omega, by have := HM.out; omega, by go_num, hown, hb⟩
          case measure => simp [intOf]; omega
    · obtain rfl : k = l := by omega
      have hd : decide ((k : Int) < (k : Int)) = false := by simp
      rw [List.take_of_length_le (by rw [Hl.out]; exact Nat.le_refl _)] at hown
      obtain ⟨A0, cap0, rfl⟩ := own_slice hown
      have hNb : N ≤ 8388608 := by have := HN.out; omega
      go_wp2_with fail
      go_loopw [3] (fun v wr => RefE3 q w N v wr) (fun v _ => N + B64.padN N - lenV v)
      case atStart => exact ⟨0, N, A0, cap0, Nat.zero_le _, rfl, rfl, by simpa using hown, hb⟩
      case round =>
        clear hown hb
        obtain ⟨j, M, A1, cap1, hj, hM, rfl, hown, hb⟩ := hrel
        have HM := Lib.hid hM
        have hp5 := B64.padN_lt N
        have hMb : M ≤ 8388616 := by omega
        have hz := pad_test N j hj
        rw [← hM] at hz
        clear hM
        by_cases hj8 : j < B64.padN N
        · have hd : (((M : Int) % 6) != 0) = true := by rw [bne_iff_ne]; have := hz.2 hj8; omega
          clear hz
          go_upto_region 10 with (fail)
          repeat ((fail_if_success (with_reducible show wpList _ _ _ (⟨some 39, _, _, _, _, _⟩ :: _) _ _)); first | go_values | go_skip | go_guarded | go_step | go_upon | go_back | go_simp)
          with_reducible refine append_one rfl (.tmp 37) (.tmp 38) 83 3 (.int .i64 0) 8 rfl Tryz.underlying83 info3b rfl w.heap.size _ M _ wr.heap.size (.int .i64 ((0 : Nat) : Int)) (hown.alloc _) ?c1 ?c2 ?c3 ?c4 ?c5 ?c6 ?c7 ?_
          case c1 => simp
          case c2 => rfl
          case c3 => rfl
          case c4 => rfl
          case c5 => omega
          case c6 => omega
          case c7 => have := hb.size; simp; omega
          intro v2 w2 hown2 hgr2
          have hb2 : Below w.heap.size w w2 := (hb.alloc hb.size _).grown hgr2 (by have := hb.size; simp; omega) (own_ge hown)
          rw [i64s_snoc, List.append_assoc, ← List.replicate_succ'] at hown2
          obtain ⟨A2, cap2, rfl⟩ := own_slice hown2
          clear hgr2 hown hb
          go_frame
          go_wp2
          go_roundw
          case rel => exact ⟨j + 1, M + 1, A2, cap2, by omega, by rw [HM.out]; rfl, rfl, hown2, hb2⟩
          case measure => simp [lenV]; have := HM.out; omega
        · obtain rfl : j = B64.padN N := by omega
          have h6 := hz.1 rfl
          have hd : (((M : Int) % 6) != 0) = false := by rw [bne_eq_false_iff_eq]; omega
          clear hz
          have hlen : (B64.bitsB q).length = N := by rw [B64.bitsB_length, Hl.out, HN.out]
          have hpad : B64.bitsB q ++ List.replicate (B64.padN N) 0 = B64.pad6 (B64.bitsB q) := by rw [B64.pad6, hlen]
          rw [hpad] at hown
          have HL : Hid ((B64.pad6 (B64.bitsB q)).length = M) := by unfold Hid; rw [B64.pad6_length, hlen, HM.out]
          have Hle := Lib.hid (B64.pad6_le (B64.bitsB_le q))
          have HE := Lib.hid (B64.refEnc_eq q hq.2.2.1)
          obtain ⟨L, eL⟩ : ∃ L, B64.pad6 (B64.bitsB q) = L := ⟨_, rfl⟩
          rw [eL] at hown HL Hle HE
          clear eL hpad hlen
          go_wp2_with fail
          refine (signs_any wr).mono ?_
          rintro e w' ⟨⟨S, hS, rfl⟩, rfl⟩
          go_wp2_with fail
          obtain ⟨w4, rfl⟩ : ∃ w4 : World, w4 = wr := ⟨_, rfl⟩
          have HC := Lib.hid (row_cells hown)
          clear hown
          go_loopw [7, 8] (fun v i wr => RefE4 q L w4 v i wr) (fun _ i _ => M - (intOf i).toNat)
          case atStart => exact ⟨0, 0, [], Nat.zero_le _, rfl, rfl, rfl, World.ownsRow_nil _ _ _ _, (fun x hx => by cases hx), HE.out, Below.refl _ _⟩
          case round =>
            obtain ⟨I, nT, T, hI, hI6, rfl, hnT, hown, hT, hE, hb4⟩ := hrel
            rw [HL.out] at hI
            have HI6 := Lib.hid hI6
            have HnT := Lib.hid hnT
            have HT := Lib.hid hT
            have HE2 := Lib.hid hE
            have hnTb : nT ≤ 1398104 := by
              have := congrArg List.length hE
              rw [List.length_append, hnT, B64.enc_length, Hl.out] at this
              unfold B64.sf at this
              omega
            clear hI6 hnT hT hE
            obtain ⟨wo, rfl⟩ : ∃ wo : World, wo = wr := ⟨_, rfl⟩
            by_cases hIM : I < M
            · have h6M : I + 6 ≤ M := by have := HI6.out; omega
              obtain ⟨g, hA1, hcell⟩ := HC.out (by omega)
              subst hA1
              have HC2 : Hid (∀ j, j < M → wo.cell? ⟨g, j, none⟩ = some (.int .i64 (L.getD j 0 : Nat))) := fun j hj => by
                have h0 := hcell j (by rw [HL.out]; exact hj)
                exact (hb4.cell (p := ⟨g, j, none⟩) (block_lt_of_cell h0)).trans h0
              have hbits : ∀ j, L.getD j 0 ≤ 1 := fun j => by
                rw [List.getD_eq_getElem?_getD]
                cases e : L[j]? with
                | none => simp
                | some x => exact Hle.out x (List.mem_of_getElem? e)
              have Hbits := Lib.hid hbits
              clear hcell hbits
              go_wp2_with fail
              go_loop [9, 10] (fun n i => ∃ j m : Nat, j ≤ 6 ∧ i = .int .i64 j ∧ n = .int .i64 m ∧ m = B64.num ((L.drop I).take j) ∧ m < 2 ^ j) (fun _ i => 6 - (intOf i).toNat)
              case atStart => exact ⟨0, 0, Nat.zero_le _, rfl, rfl, by rw [List.take_zero]; rfl, by decide⟩
              case round =>
                obtain ⟨j, m, hj, rfl, rfl, hm, hm2⟩ := hrel
                have Hm := Lib.hid hm
                clear hm
                have hm64 : m ≤ 64 := Nat.le_of_lt (Nat.lt_of_lt_of_le hm2 (Nat.pow_le_pow_right (by decide) hj))
                by_cases hj6 : j < 6
                · have hd : decide ((j : Int) < 6) = true := decide_eq_true (by omega)
                  have hc := HC2.out (I + j) (by omega)
                  have hbt := Hbits.out (I + j)
                  have HNX := Lib.hid (num_next L I j (by rw [HL.out]; omega))
                  obtain ⟨x, ex⟩ : ∃ x, L.getD (I + j) 0 = x := ⟨_, rfl⟩
                  rw [ex] at hc hbt HNX
                  have hij : (I : Int) + (j : Int) < (M : Int) := by omega
                  have hm2' := Lib.hid hm2
                  clear ex hm2
                  go_wp2
                  go_round
                  case rel =>
                    refine ⟨j + 1, m * 2 + x, by omega, by go_num, by go_num, ?_, ?_⟩
                    · rw [HNX.out, Hm.out]
                    · have := hm2'.out; rw [Nat.pow_succ]; omega
                  case measure => simp [intOf]; omega
                · obtain rfl : j = 6 := by omega
                  have hd : decide (((6 : Nat) : Int) < 6) = false := by decide
                  have hm64' : m < 64 := hm2
                  have hix := hS.run m hm64'
                  have hsl := B64.sign_lt m
                  have HST : Hid (T ++ B64.g6 (L.drop I) = (T ++ [B64.sign m]) ++ B64.g6 (L.drop (I + 6))) := by
                    unfold Hid
                    rw [B64.g6_step (L.drop I) (by rw [List.length_drop, HL.out]; omega), ← Hm.out, List.drop_drop, List.append_assoc]
                    rfl
                  clear hm2
                  go_upto_region 21 with (fail)
                  repeat ((fail_if_success (with_reducible show wpList _ _ _ (⟨some 65, _, _, _, _, _⟩ :: _) _ _)); first | go_values | go_skip | go_guarded | go_step | go_upon | go_back | go_simp)
                  with_reducible refine append_one rfl (.tmp 60) (.tmp 64) 27 5 (.int .u8 0) 1 rfl Tryz.underlying27 info5b rfl w4.heap.size _ nT _ wo.heap.size (.int .u8 (B64.sign m : Nat)) (hown.alloc _) ?d1 ?d2 ?d3 ?d4 ?d5 ?d6 ?d7 ?_
                  case d1 => simp
                  case d2 => rfl
                  case d3 => rfl
                  case d4 => rfl
                  case d5 => omega
                  case d6 => omega
                  case d7 => have := hb4.size; simp; omega
                  intro v2 w2 hown2 hgr2
                  have hb2 : Below w4.heap.size w4 w2 := (hb4.alloc hb4.size _).grown hgr2 (by have := hb4.size; simp; omega) (own_ge hown)
                  rw [u8s2_snoc] at hown2
                  clear hgr2 hown hb4 hix
                  go_frame
                  go_wp2
                  go_roundw
                  case rel =>
                    refine ⟨I + 6, nT + 1, T ++ [B64.sign m], by rw [HL.out]; omega, by have := HI6.out; omega, by go_num, by rw [List.length_append, HnT.out]; rfl, hown2, fun x hx => ?_, ?_, hb2⟩
                    · rcases List.mem_append.1 hx with hx | hx
                      · exact HT.out x hx
                      · rw [List.mem_singleton] at hx; rw [hx]; exact hsl
                    · rw [← HST.out, HE2.out]
                  case measure => simp [intOf]; omega
            · obtain rfl : I = M := by omega
              have hd : decide ((I : Int) < (I : Int)) = false := by simp
              have hTe : T = B64.enc q := by
                have := HE2.out
                rw [List.drop_of_length_le (by rw [HL.out]; exact Nat.le_refl _), B64.g6_end [] (by decide), List.append_nil] at this
                exact this
              obtain ⟨A2, cap2, rfl⟩ := own_slice hown
              obtain ⟨hl2, ha2⟩ := own_arg hown HT.out
              have hconv := conv_str ha2
              rw [hl2, hTe] at hconv
              have hbF : Below w.heap.size w wo := hb.trans (hb4.mono hb.size)
              clear hTe hl2 ha2 hown hb4
              go_wp2
              go_ret
              exact ⟨rfl, hbF⟩
end Go.Proofs.YthklgpflaghojaaGreatDoor

/-
  The contract of the document's own Decode.
-/
namespace Go.Proofs.YthklgpflaghojaaGreatDoor
open Go.RowKit
/-- The six weights, as the document's Decode lays them. -/
abbrev six : List Nat := [32, 16, 8, 4, 2, 1]
end Go.Proofs.YthklgpflaghojaaGreatDoor
