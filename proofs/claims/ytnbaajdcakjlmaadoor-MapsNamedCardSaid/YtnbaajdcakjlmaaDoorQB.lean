/-
  QB: JX JLib JRead JTake JVal, side by side.
-/
import Derived.Test.YtnbaajdcakjlmaaDoorQM
import Derived.Test.YtnbaajdcakjlmaaDoorQL0
import Derived.Lib.AtoiErrMem
import Derived.Test.YtnbaajdcakjlmaaDoorQV

/-
  A reader in memory; what a step of the reader may change; what the library's variables hold; how a step ends.
-/
namespace Go.Proofs.YtnbaajdcakjlmaaDoor
open Go.RowKit

/-- What is read of the library's variables. -/
def Held (w : World) : Prop :=
  Lib.TabIs Tryd.prog w "internal/strconv.uint64pow10" .u64 Lib.pow10Tab ∧ True ∧ True ∧ Lib.Utf8Tabs 1 2 w
theorem var_below {n : String} {g : Nat} {cs : Array Value} {w w' : World} (hg : Tryd.prog.globalNamed n = some g) (h : w.var? Tryd.prog n = some cs) (hb : Below w.heap.size w w') : w'.var? Tryd.prog n = some cs := by
  unfold World.var? at h ⊢
  rw [hg] at h ⊢
  simp only [Option.bind_some] at h ⊢
  have hlt : g < w.heap.size := by
    rcases Nat.lt_or_ge g w.heap.size with h' | h'
    · exact h'
    · rw [Array.getElem?_eq_none h'] at h; cases h
  rw [hb.block g hlt]
  exact h
set_option maxRecDepth 100000 in
theorem Held.below {w w' : World} (h : Held w) (hb : Below w.heap.size w w') : Held w' := by
  obtain ⟨h1, _, _, h4⟩ := h
  exact ⟨var_below (g := 3) (by kernel_rfl) h1 hb, trivial, trivial, Utf8Tabs_below h4 hb⟩

theorem gb_trans {w w1 w2 : World} {r : Option Nat} (h1 : w.grownBy w1 r) (h2 : w1.grownBy w2 r) : w.grownBy w2 r :=
  ⟨h2.os.trans h1.os, h2.tape.trans h1.tape, h2.output.trans h1.output, Nat.le_trans h1.size h2.size, fun k hk hr => (h2.block k (Nat.lt_of_lt_of_le hk h1.size) hr).trans (h1.block k hk hr)⟩
theorem gb_below {w w' : World} {r : Option Nat} (h : Below w.heap.size w w') : w.grownBy w' r := ⟨h.os, h.tape, h.output, h.size, fun k hk _ => h.block k hk⟩
theorem gb_set (w : World) (R i : Nat) (v : Value) : w.grownBy (w.setCell ⟨R, i, none⟩ v) (some R) :=
  ⟨rfl, rfl, rfl, by simp [World.setCell], fun k _ hne => Below.heap_setCell w _ v k (fun e => hne (by rw [e]))⟩
theorem gb_down {w w' : World} {R B : Nat} (h : w.grownBy w' (some R)) (hB : B ≤ w.heap.size) (hR : B ≤ R) : Below B w w' :=
  ⟨h.os, h.tape, h.output, h.size, fun k hk => h.block k (Nat.lt_of_lt_of_le hk hB) (fun e => by injection e with e; omega)⟩

section
variable {W w w' : World} {R d : Nat} {s s' : ByteArray}
end

/-- The panic with an error's number. -/
abbrev errEnd (n : Nat) : Ending := .panicked [{ v := .iface 28 (.int .i64 (n : Int)), recovered := false }]
end Go.Proofs.YtnbaajdcakjlmaaDoor

/-
  The library's functions at readers: TrimLeft, CutPrefix, Atoi on digits, DecodeRuneInString, AppendRune.
-/
namespace Go.Proofs.YtnbaajdcakjlmaaDoor
open Go.RowKit

theorem nums_mk (l : List UInt8) : numsOf ⟨l.toArray⟩ = l.map fun u : UInt8 => u.toNat := rfl
theorem nums_data (s : ByteArray) : numsOf s = Uq.nums s.data.toList := rfl
theorem drop_nums (p : UInt8 → Bool) (q : Nat → Bool) (h : ∀ u : UInt8, q u.toNat = p u) (l : List UInt8) : (l.dropWhile p).map (fun u : UInt8 => u.toNat) = (l.map fun u : UInt8 => u.toNat).dropWhile q := by
  rw [List.dropWhile_map]
  congr 2
  funext u
  exact (h u).symm

abbrev blankB : ByteArray := { data := #[32, 9, 10, 13] }
abbrev digitB : ByteArray := { data := #[48, 49, 50, 51, 52, 53, 54, 55, 56, 57] }
theorem byte_all {p q : UInt8 → Bool} (h : ∀ n : Fin 256, p (UInt8.ofNat n.val) = q (UInt8.ofNat n.val)) (u : UInt8) : p u = q u := by
  have := h ⟨u.toNat, u.toNat_lt⟩
  simpa using this
set_option maxRecDepth 100000 in
theorem blank_byte (u : UInt8) : Jq.blank u.toNat = ([32, 9, 10, 13] : List UInt8).contains u :=
  byte_all (p := fun u => Jq.blank u.toNat) (q := fun u => ([32, 9, 10, 13] : List UInt8).contains u) (by decide) u
set_option maxRecDepth 100000 in
theorem digit_byte (u : UInt8) : Jq.dig u.toNat = ([48, 49, 50, 51, 52, 53, 54, 55, 56, 57] : List UInt8).contains u :=
  byte_all (p := fun u => Jq.dig u.toNat) (q := fun u => ([48, 49, 50, 51, 52, 53, 54, 55, 56, 57] : List UInt8).contains u) (by decide) u
/-- How Atoi ends on digits alone. -/
def AtoiEnd (d : List Nat) (w : World) (e : Ending) (w' : World) : Prop :=
  Below w.heap.size w w' ∧ ((d ≠ [] ∧ Uq.val d < 9223372036854775808 ∧ e = .returned (.tuple #[.int .i64 (Uq.val d : Nat), .nilIface])) ∨ ((d = [] ∨ 9223372036854775808 ≤ Uq.val d) ∧ ∃ (v : Int) (t : TypeId) (p : Value), e = .returned (.tuple #[.int .i64 v, .iface t p])))
theorem rune_cells {r : Nat} (h : Jq.okRune r = true) : Lib.runeCells (r : Int) = u8s (Jq.runeBytes r) := by
  unfold Jq.okRune at h
  simp only [Bool.and_eq_true, Bool.or_eq_true, decide_eq_true_eq] at h
  unfold Lib.runeCells Jq.runeBytes u8s
  by_cases h1 : r < 128
  · rw [if_pos h1, Lib.encodeRuneZ_one (by omega) (by omega)]; rfl
  rw [if_neg h1]
  by_cases h2 : r < 2048
  · rw [if_pos h2, Lib.encodeRuneZ_two (by omega) (by omega)]; simp
  rw [if_neg h2]
  by_cases h3 : r < 65536
  · rw [if_pos h3, Lib.encodeRuneZ_three (by omega)]; simp
  rw [if_neg h3, Lib.encodeRuneZ_four (by omega) (by omega)]; simp
end Go.Proofs.YtnbaajdcakjlmaaDoor

/-
  The reader's small steps: space, next, pass, takes, must.
-/
namespace Go.Proofs.YtnbaajdcakjlmaaDoor
open Go.RowKit
end Go.Proofs.YtnbaajdcakjlmaaDoor

/-
  The reader's takes, must and word.
-/
namespace Go.Proofs.YtnbaajdcakjlmaaDoor
open Go.RowKit

theorem byte_ne {a b : Nat} (h : a ≠ b) : ((a : Int) != (b : Int)) = true := by
  rw [bne_iff_ne]; omega
theorem byte_eq {a b : Nat} (h : a = b) : ((a : Int) != (b : Int)) = false := by
  subst h; simp
theorem head_pos {s : ByteArray} {c : Nat} (h : (numsOf s).head? = some c) : 0 < s.size := by
  rw [← numsOf_length]
  cases hh : numsOf s with
  | nil => rw [hh] at h; cases h
  | cons a r => simp

/-- Past a sign that has to be there. -/
def mustP (c : Nat) (l : List Nat) : Jq.R Unit := if (Jq.skip l).head? = some c then .ok ((), (Jq.skip l).drop 1) else .error 51

end Go.Proofs.YtnbaajdcakjlmaaDoor

/-
  Values in memory: what a value reads as; a struct of six cells.
-/
namespace Go.Proofs.YtnbaajdcakjlmaaDoor
open Go.RowKit

/-- A value's six cells. -/
abbrev jv (k : Int) (b : Bool) (n : Int) (t : ByteArray) (names list : Value) : Value := .agg #[.int .i64 k, .bool b, .int .i64 n, .string t, names, list]
def jcells : Value → List Value
  | .agg cs => cs.toList
  | v => [v]
/-- A slice of n elements whose cells are these, in blocks of which ok speaks. -/
def SlIs (w : World) (ok : Nat → Prop) (v : Value) (n : Nat) (cs : List Value) : Prop :=
  ∃ A c, v = .slice A n c ∧ n ≤ c ∧ c ≤ 9223372036854775807 ∧ (0 < n → ∃ b off, A = some ⟨b, off, none⟩ ∧ ok b ∧ b < w.heap.size ∧ ∀ j x, cs[j]? = some x → w.cell? ⟨b, off + j, none⟩ = some x)
def tcells (l : List (List Nat)) : List Value := l.map fun p => .string (strOf p)
/-- What a value reads as, all its blocks such of which ok speaks. -/
inductive IsJ (w : World) (ok : Nat → Prop) : Value → Jq.J → Prop where
  | mk {k : Int} {b : Bool} {n : Int} {t : List Nat} {ns : List (List Nat)} {l : List Jq.J} {names list : Value} {vs : List Value}
      (hk : -9223372036854775808 ≤ k ∧ k ≤ 9223372036854775807) (hn : -9223372036854775808 ≤ n ∧ n ≤ 9223372036854775807)
      (ht : t.length ≤ 140737488355328 ∧ ∀ x ∈ t, x < 256)
      (hns : SlIs w ok names ns.length (tcells ns)) (hnt : ∀ p ∈ ns, p.length ≤ 140737488355328 ∧ ∀ x ∈ p, x < 256) (hnl : ns.length * 16 ≤ 140737488355328)
      (hl : SlIs w ok list l.length (vs.flatMap jcells)) (hvl : vs.length = l.length) (hll : l.length * 88 ≤ 140737488355328)
      (he : ∀ (i : Nat) v x, vs[i]? = some v → l[i]? = some x → IsJ w ok v x) : IsJ w ok (jv k b n (strOf t) names list) (.mk k b n t ns l)

theorem SlIs.nil (w : World) (ok : Nat → Prop) : SlIs w ok (.slice none 0 0) 0 [] := ⟨none, 0, rfl, Nat.le_refl _, by omega, fun h => absurd h (Nat.lt_irrefl _)⟩
theorem SlIs.keep {w w' : World} {ok ok' : Nat → Prop} {v : Value} {n : Nat} {cs : List Value} (h : SlIs w ok v n cs) (hk : ∀ b, ok b → b < w.heap.size → ok' b ∧ w'.heap[b]? = w.heap[b]?) (hs : w.heap.size ≤ w'.heap.size) : SlIs w' ok' v n cs := by
  obtain ⟨A, c, rfl, h1, h2, h3⟩ := h
  refine ⟨A, c, rfl, h1, h2, fun hn => ?_⟩
  obtain ⟨b, off, rfl, h4, h5, h6⟩ := h3 hn
  obtain ⟨k1, k2⟩ := hk b h4 h5
  exact ⟨b, off, rfl, k1, Nat.lt_of_lt_of_le h5 hs, fun j x hj => (World.cell?_of_block (a := ⟨b, off + j, none⟩) k2).trans (h6 j x hj)⟩
theorem IsJ.keep {w w' : World} {ok ok' : Nat → Prop} (hk : ∀ b, ok b → b < w.heap.size → ok' b ∧ w'.heap[b]? = w.heap[b]?) (hs : w.heap.size ≤ w'.heap.size) {v : Value} {x : Jq.J} (h : IsJ w ok v x) : IsJ w' ok' v x := by
  induction h with
  | mk h1 h2 h3 h4 h5 h6 h7 h8 h9 _ ih => exact .mk h1 h2 h3 (h4.keep hk hs) h5 h6 (h7.keep hk hs) h8 h9 ih
theorem IsJ.form {w : World} {ok : Nat → Prop} {v : Value} {x : Jq.J} (h : IsJ w ok v x) : ∃ A1 c1 A2 c2, v = jv x.kind x.bool x.int (strOf x.text) (.slice A1 x.names.length c1) (.slice A2 x.list.length c2) := by
  cases h with
  | mk h1 h2 h3 h4 h5 h6 h7 h8 h9 h10 =>
    obtain ⟨A1, c1, rfl, _⟩ := h4
    obtain ⟨A2, c2, rfl, _⟩ := h7
    exact ⟨A1, c1, A2, c2, rfl⟩
/-- What holds of blocks from B on holds of blocks from any lower one on. -/
theorem IsJ.from {w : World} {B C : Nat} {v : Value} {x : Jq.J} (h : IsJ w (B ≤ ·) v x) (hB : C ≤ B) : IsJ w (C ≤ ·) v x :=
  h.keep (fun _ hb _ => ⟨Nat.le_trans hB hb, rfl⟩) (Nat.le_refl _)
theorem isJ_plain (w : World) (ok : Nat → Prop) {k n : Int} {b : Bool} {t : List Nat} (hk : -9223372036854775808 ≤ k ∧ k ≤ 9223372036854775807) (hn : -9223372036854775808 ≤ n ∧ n ≤ 9223372036854775807)
    (ht : t.length ≤ 140737488355328 ∧ ∀ x ∈ t, x < 256) : IsJ w ok (jv k b n (strOf t) (.slice none 0 0) (.slice none 0 0)) (.mk k b n t [] []) :=
  .mk (vs := []) hk hn ht (SlIs.nil w ok) (fun _ h => nomatch h) (Nat.zero_le _) (SlIs.nil w ok) rfl (Nat.zero_le _) (fun i v x h => by simp at h)

/-- Six cells are written. -/
abbrev put6 (w : World) (g : Nat) (a b c d e f : Value) : World := (((((w.setCell ⟨g, 0, none⟩ a).setCell ⟨g, 1, none⟩ b).setCell ⟨g, 2, none⟩ c).setCell ⟨g, 3, none⟩ d).setCell ⟨g, 4, none⟩ e).setCell ⟨g, 5, none⟩ f
section
variable {w w' : World} {g : Nat} {ty : TypeId} {a b c d e f x0 x1 x2 x3 x4 x5 : Value}
theorem Lies.put6 (h : Lies w g ty [x0, x1, x2, x3, x4, x5]) : Lies (put6 w g a b c d e f) g ty [a, b, c, d, e, f] := by
  have := (((((h.put 0 a).put 1 b).put 2 c).put 3 d).put 4 e).put 5 f
  simpa using this
theorem Lies.six (h : Lies w g ty [a, b, c, d, e, f]) : (w.cell? ⟨g, 0, none⟩ = some a ∧ w.cell? ⟨g, 1, none⟩ = some b ∧ w.cell? ⟨g, 2, none⟩ = some c ∧ w.cell? ⟨g, 3, none⟩ = some d ∧ w.cell? ⟨g, 4, none⟩ = some e ∧ w.cell? ⟨g, 5, none⟩ = some f) ∧
    (w.frozen? ⟨g, 0, none⟩ = false ∧ w.frozen? ⟨g, 1, none⟩ = false ∧ w.frozen? ⟨g, 2, none⟩ = false ∧ w.frozen? ⟨g, 3, none⟩ = false ∧ w.frozen? ⟨g, 4, none⟩ = false ∧ w.frozen? ⟨g, 5, none⟩ = false) :=
  ⟨⟨h.cell 0, h.cell 1, h.cell 2, h.cell 3, h.cell 4, h.cell 5⟩, h.free 0, h.free 1, h.free 2, h.free 3, h.free 4, h.free 5⟩
theorem put6_far {k : Nat} (hk : k ≠ g) : (put6 w g a b c d e f).heap[k]? = w.heap[k]? := by
  rw [Below.heap_setCell _ _ _ _ hk, Below.heap_setCell _ _ _ _ hk, Below.heap_setCell _ _ _ _ hk, Below.heap_setCell _ _ _ _ hk, Below.heap_setCell _ _ _ _ hk, Below.heap_setCell _ _ _ _ hk]
theorem put6_size : (put6 w g a b c d e f).heap.size = w.heap.size := by simp [World.setCell]
theorem gb_put6 : w.grownBy (put6 w g a b c d e f) (some g) :=
  gb_trans (gb_trans (gb_trans (gb_trans (gb_trans (gb_set _ _ _ _) (gb_set _ _ _ _)) (gb_set _ _ _ _)) (gb_set _ _ _ _)) (gb_set _ _ _ _)) (gb_set _ _ _ _)
end
theorem IsJ.put6 {w : World} {g B : Nat} {a b c d e f v : Value} {x : Jq.J} (h : IsJ w (B ≤ ·) v x) (hg : g < B) : IsJ (put6 w g a b c d e f) (B ≤ ·) v x :=
  h.keep (fun k hk _ => ⟨hk, put6_far (by have : B ≤ k := hk; omega)⟩) (Nat.le_of_eq put6_size.symm)
/-- A cell of the call's own that the callee leaves alone, while it may write to block R. -/
theorem Lies.gb {w w' : World} {g R : Nat} {t : TypeId} {cs : List Value} (h : Lies w g t cs) (hb : w.grownBy w' (some R)) (hg : g ≠ R) : Lies w' g t cs := h.grown hb (by simpa using hg)
/-- What is written to a block that lies above is not told. -/
theorem gb_new {w w1 w2 : World} {R g : Nat} (h1 : w.grownBy w1 (some R)) (h2 : w1.grownBy w2 (some g)) (hg : w.heap.size ≤ g) : w.grownBy w2 (some R) :=
  ⟨h2.os.trans h1.os, h2.tape.trans h1.tape, h2.output.trans h1.output, Nat.le_trans h1.size h2.size, fun k hk hr => (h2.block k (Nat.lt_of_lt_of_le hk h1.size) (fun e => by injection e with e; omega)).trans (h1.block k hk hr)⟩
/-- A store into another block. -/
theorem own_far {w w' : World} {base : Nat} {e : TypeId} {size n : Nat} {v : Value} {xs : List Value} (h : w.ownsRow base e size v n xs) (hk : ∀ k, v.ownBlock = some k → w'.heap[k]? = w.heap[k]?) : w'.ownsRow base e size v n xs := by
  refine ⟨h.1, ?_⟩
  rcases h.2 with hn | ⟨g, cap, cur, rfl, hb, hg, rest⟩
  · exact .inl hn
  · exact .inr ⟨g, cap, cur, rfl, hb, (hk g rfl).trans hg, rest⟩
end Go.Proofs.YtnbaajdcakjlmaaDoor
