/-
  G02: ZR ZS ZK, side by side.
-/
import Derived.Test.YthhlmalpelgpeaaGreatDoorG22
import Derived.Test.YthhlmalpelgpeaaGreatDoorQM
import Derived.Lib.AtoiErrMem
import Derived.Lib.LaidTab
import Derived.Lib.ItoaNum

/-
  The reader of rules in memory: its own cells, the text's, the row of nodes under way; what a step of it leaves as it was.
-/
namespace Go.Proofs.YthhlmalpelgpeaaGreatDoor
open Go.RowKit

/-- A node's cells. -/
abbrev ncell (n : Zq.Nd) : List Value := [.int .i64 n.op, .int .i64 n.int, .int .i64 n.a, .int .i64 n.b, .string (strOf n.text)]
abbrev ndv (n : Zq.Nd) : Value := .agg #[.int .i64 n.op, .int .i64 n.int, .int .i64 n.a, .int .i64 n.b, .string (strOf n.text)]
def ncells (l : List Zq.Nd) : List Value := l.flatMap ncell
theorem ncells_append (l m : List Zq.Nd) : ncells (l ++ m) = ncells l ++ ncells m := by simp [ncells]
theorem ncells_one (n : Zq.Nd) : ncells [n] = ncell n := by simp [ncells]
theorem ncells_length (l : List Zq.Nd) : (ncells l).length = l.length * 5 := by
  induction l with
  | nil => rfl
  | cons a r ih =>
    have : ncells (a :: r) = ncell a ++ ncells r := rfl
    rw [this, List.length_append, ih]
    simp; omega
theorem ncell_ones (n : Zq.Nd) : ∀ u ∈ ncell n, u.oneCell' = true := by
  intro u hu
  simp at hu
  rcases hu with rfl | rfl | rfl | rfl | rfl <;> rfl
set_option maxRecDepth 100000 in
theorem infoNode : (Tryz.prog.info? 37).map (fun i => (i.zero, i.size, i.bytes)) = some (some (.agg #[.int .i64 0, .int .i64 0, .int .i64 0, .int .i64 0, .string ByteArray.empty]), 5, 48) := by kernel_rfl

/-- The world w is as W was, the reader's blocks, and what has come since, aside. -/
structure Fr (W : World) (R S : Nat) (w : World) : Prop where
  os : w.os = W.os
  tape : w.tape = W.tape
  output : w.output = W.output
  size : W.heap.size ≤ w.heap.size
  block : ∀ k, k < W.heap.size → k ≠ R → k ≠ S → w.heap[k]? = W.heap[k]?
section
variable {W w w' : World} {R S : Nat}
theorem Fr.refl (W : World) (R S : Nat) : Fr W R S W := ⟨rfl, rfl, rfl, Nat.le_refl _, fun _ _ _ _ => rfl⟩
theorem Fr.more (h : Fr W R S w) (hb : Below w.heap.size w w') : Fr W R S w' :=
  ⟨hb.os.trans h.os, hb.tape.trans h.tape, hb.output.trans h.output, Nat.le_trans h.size hb.size, fun k hk h1 h2 => (hb.block k (Nat.lt_of_lt_of_le hk h.size)).trans (h.block k hk h1 h2)⟩
theorem Fr.grown (h : Fr W R S w) {r : Option Nat} (hg : w.grownBy w' r) (hr : ∀ k, r = some k → k = R ∨ k = S ∨ W.heap.size ≤ k) : Fr W R S w' :=
  ⟨hg.os.trans h.os, hg.tape.trans h.tape, hg.output.trans h.output, Nat.le_trans h.size hg.size, fun k hk h1 h2 => (hg.block k (Nat.lt_of_lt_of_le hk h.size) (fun e => by
    rcases hr k e.symm with e | e | e
    · exact h1 e
    · exact h2 e
    · omega)).trans (h.block k hk h1 h2)⟩
theorem Fr.trans {w1 : World} (h : Fr W R S w1) (h2 : Fr w1 R S w) : Fr W R S w :=
  ⟨h2.os.trans h.os, h2.tape.trans h.tape, h2.output.trans h.output, Nat.le_trans h.size h2.size, fun k hk e1 e2 => (h2.block k (Nat.lt_of_lt_of_le hk h.size) e1 e2).trans (h.block k hk e1 e2)⟩
theorem Fr.lies (h : Fr W R S w) {g : Nat} {ty : TypeId} {cs : List Value} (hl : Lies W g ty cs) (h1 : g ≠ R) (h2 : g ≠ S) : Lies w g ty cs := (h.block g hl.lt h1 h2).trans hl
/-- Blocks below that are not the reader's are as they were. -/
theorem Fr.below (h : Fr W R S w) {B : Nat} {W0 : World} (hb : Below B W0 W) (hB : B ≤ W.heap.size) (hR : B ≤ R) (hS : B ≤ S) : Below B W0 w :=
  ⟨h.os.trans hb.os, h.tape.trans hb.tape, h.output.trans hb.output, Nat.le_trans hb.size h.size, fun k hk => (h.block k (by omega) (by omega) (by omega)).trans (hb.block k hk)⟩
end

/-- What is read of the variables. -/
def kwTab : Array Value := (([[], [], [], [], [], [], [], [], [], [], [], [], [], [], []] ++ [Zq.wWhen, Zq.wDeny, Zq.wOr, Zq.wAnd, Zq.wNot, Zq.wIn, Zq.wElse, Zq.wLower, Zq.wFirst, Zq.wHead, Zq.wTail, Zq.wHas, Zq.wStarts]).map fun x => Value.string (strOf x)).toArray
def HeldZ (w : World) : Prop :=
  Lib.TabIs Tryz.prog w "internal/strconv.uint64pow10" .u64 Lib.pow10Tab ∧ (∃ tp p, w.var? Tryz.prog "strconv.ErrSyntax" = some #[.iface tp p]) ∧ (∃ tp p, w.var? Tryz.prog "strconv.ErrRange" = some #[.iface tp p]) ∧ w.var? Tryz.prog "chatelaine/rules.keywords" = some kwTab
theorem varZ_below {n : String} {g : Nat} {cs : Array Value} {w w' : World} (hg : Tryz.prog.globalNamed n = some g) (h : w.var? Tryz.prog n = some cs) (hb : Below w.heap.size w w') : w'.var? Tryz.prog n = some cs := by
  unfold World.var? at h ⊢
  rw [hg] at h ⊢
  simp only [Option.bind_some] at h ⊢
  have hlt : g < w.heap.size := by
    rcases Nat.lt_or_ge g w.heap.size with h' | h'
    · exact h'
    · rw [Array.getElem?_eq_none h'] at h; cases h
  rw [hb.block g hlt]
  exact h
set_option maxRecDepth 100000 in
theorem HeldZ.below {w w' : World} (h : HeldZ w) (hb : Below w.heap.size w w') : HeldZ w' := by
  obtain ⟨h1, ⟨a, b, h2⟩, ⟨c, d, h3⟩, h4⟩ := h
  exact ⟨varZ_below (g := 6) (by kernel_rfl) h1 hb, ⟨a, b, varZ_below (g := 4) (by kernel_rfl) h2 hb⟩, ⟨c, d, varZ_below (g := 5) (by kernel_rfl) h3 hb⟩, varZ_below (g := 0) (by kernel_rfl) h4 hb⟩
theorem gbz_set (w : World) (R i : Nat) (v : Value) : w.grownBy (w.setCell ⟨R, i, none⟩ v) (some R) :=
  ⟨rfl, rfl, rfl, by simp [World.setCell], fun k _ hne => Below.heap_setCell w _ v k (fun e => hne (by rw [e]))⟩
theorem gbz_trans {w w1 w2 : World} {r : Option Nat} (h1 : w.grownBy w1 r) (h2 : w1.grownBy w2 r) : w.grownBy w2 r :=
  ⟨h2.os.trans h1.os, h2.tape.trans h1.tape, h2.output.trans h1.output, Nat.le_trans h1.size h2.size, fun k hk hr => (h2.block k (Nat.lt_of_lt_of_le hk h1.size) hr).trans (h1.block k hk hr)⟩
theorem gbz_below {w w' : World} {r : Option Nat} (h : Below w.heap.size w w') : w.grownBy w' r := ⟨h.os, h.tape, h.output, h.size, fun k hk _ => h.block k hk⟩
abbrev advV (S : Nat) : Value := .func (.func 32) #[] #[.pointer (some ⟨S, 0, none⟩)]
abbrev rcells (S : Nat) (k : Int) (t : ByteArray) (n : Int) (nv : Value) (d f : Int) : List Value := [advV S, .int .i64 k, .string t, .int .i64 n, nv, .int .i64 d, .int .i64 f]
/-- The world ahead of the reader, the one in which an expression's reading began, and blocks that stay as they are. -/
structure Cx where
  w0 : World
  w : World
  pr : Nat → Option Obj
/-- A reader, its own text, its nodes. -/
structure Rd0 (W : Cx) (R S : Nat) (k : Int) (t : ByteArray) (n : Int) (nv : Value) (d f : Int) (s : ByteArray) (ns : List Zq.Nd) (w : World) : Prop where
  held : HeldZ W.w0 ∧ Below W.w0.heap.size W.w0 w ∧ W.w0.heap.size ≤ R ∧ W.w0.heap.size ≤ S
  lies : Lies w R 49 (rcells S k t n nv d f)
  text : Lies w S 9 [.string s]
  ne : R ≠ S
  ltR : R < W.w.heap.size
  ltS : S < W.w.heap.size
  fr : Fr W.w R S w
  own : w.ownsRow W.w.heap.size 37 5 nv ns.length (ncells ns)
  small : s.size ≤ 4096
  keep : ∀ b o, W.pr b = some o → w.heap[b]? = some o ∧ b ≠ R ∧ b ≠ S ∧ nv.ownBlock ≠ some b
section
variable {W : Cx} {w w' : World} {R S : Nat} {k k' n n' d d' f f' : Int} {t t' s s' : ByteArray} {nv nv' : Value} {ns : List Zq.Nd}
theorem Rd0.heldW (h : Rd0 W R S k t n nv d f s ns w) : HeldZ w := by
  obtain ⟨h1, h2, _⟩ := h.held
  exact h1.below h2
theorem Rd0.cells (h : Rd0 W R S k t n nv d f s ns w) : w.cell? ⟨R, 0, none⟩ = some (advV S) ∧ w.cell? ⟨R, 1, none⟩ = some (.int .i64 k) ∧ w.cell? ⟨R, 2, none⟩ = some (.string t) ∧ w.cell? ⟨R, 3, none⟩ = some (.int .i64 n) ∧ w.cell? ⟨R, 4, none⟩ = some nv ∧ w.cell? ⟨R, 5, none⟩ = some (.int .i64 d) ∧ w.cell? ⟨R, 6, none⟩ = some (.int .i64 f) :=
  ⟨h.lies.cell 0, h.lies.cell 1, h.lies.cell 2, h.lies.cell 3, h.lies.cell 4, h.lies.cell 5, h.lies.cell 6⟩
theorem Rd0.frees (h : Rd0 W R S k t n nv d f s ns w) : w.frozen? ⟨R, 0, none⟩ = false ∧ w.frozen? ⟨R, 1, none⟩ = false ∧ w.frozen? ⟨R, 2, none⟩ = false ∧ w.frozen? ⟨R, 3, none⟩ = false ∧ w.frozen? ⟨R, 4, none⟩ = false ∧ w.frozen? ⟨R, 5, none⟩ = false ∧ w.frozen? ⟨R, 6, none⟩ = false :=
  ⟨h.lies.free 0, h.lies.free 1, h.lies.free 2, h.lies.free 3, h.lies.free 4, h.lies.free 5, h.lies.free 6⟩
/-- The reader's own cells are others. -/
theorem Rd0.reR (h : Rd0 W R S k t n nv d f s ns w) (hg : w.grownBy w' (some R)) (hl : Lies w' R 49 (rcells S k' t' n' nv d' f')) : Rd0 W R S k' t' n' nv d' f' s ns w' := by
  refine ⟨?_, hl, h.text.grown hg (fun e => h.ne (by injection e with e; exact e.symm)), h.ne, h.ltR, h.ltS, h.fr.grown hg (fun k e => .inl (by injection e with e; exact e.symm)), ?_, h.small, fun b o e => by
    obtain ⟨k1, k2, k3, k4⟩ := h.keep b o e
    exact ⟨(hg.block b (Array.getElem?_eq_some_iff.1 k1).1 (fun e => k2 (by injection e))).trans k1, k2, k3, k4⟩⟩
  · obtain ⟨h1, h2, h3, h4⟩ := h.held
    exact ⟨h1, h2.grown hg h2.size (fun k e => by injection e with e; omega), h3, h4⟩
  · refine ⟨h.own.1, ?_⟩
    rcases h.own.2 with hn | ⟨g, cap, cur, e1, e2, e3, e4⟩
    · exact .inl hn
    · have := h.ltR
      exact .inr ⟨g, cap, cur, e1, e2, (hg.block g (Array.getElem?_eq_some_iff.1 e3).1 (fun e => by injection e with e; omega)).trans e3, e4⟩
theorem Rd0.more (h : Rd0 W R S k t n nv d f s ns w) (hb : Below w.heap.size w w') : Rd0 W R S k t n nv d f s ns w' := by
  refine ⟨?_, h.lies.below hb h.lies.lt, h.text.below hb h.text.lt, h.ne, h.ltR, h.ltS, h.fr.more hb, own_below h.own hb, h.small, fun b o e => by
    obtain ⟨k1, k2, k3, k4⟩ := h.keep b o e
    exact ⟨(hb.block b (Array.getElem?_eq_some_iff.1 k1).1).trans k1, k2, k3, k4⟩⟩
  obtain ⟨h1, h2, h3, h4⟩ := h.held
  exact ⟨h1, h2.trans (hb.mono h2.size), h3, h4⟩
/-- The text left to read is another one. -/
theorem Rd0.reS (h : Rd0 W R S k t n nv d f s ns w) (hg : w.grownBy w' (some S)) (hl : Lies w' S 9 [.string s']) (hs : s'.size ≤ 4096) : Rd0 W R S k t n nv d f s' ns w' := by
  refine ⟨?_, h.lies.grown hg (fun e => h.ne (by injection e)), hl, h.ne, h.ltR, h.ltS, h.fr.grown hg (fun k e => .inr (.inl (by injection e with e; exact e.symm))), ?_, hs, fun b o e => by
    obtain ⟨k1, k2, k3, k4⟩ := h.keep b o e
    exact ⟨(hg.block b (Array.getElem?_eq_some_iff.1 k1).1 (fun e => k3 (by injection e))).trans k1, k2, k3, k4⟩⟩
  · obtain ⟨h1, h2, h3, h4⟩ := h.held
    exact ⟨h1, h2.grown hg h2.size (fun k e => by injection e with e; omega), h3, h4⟩
  · refine ⟨h.own.1, ?_⟩
    rcases h.own.2 with hn | ⟨g, cap, cur, e1, e2, e3, e4⟩
    · exact .inl hn
    · have := h.ltS
      exact .inr ⟨g, cap, cur, e1, e2, (hg.block g (Array.getElem?_eq_some_iff.1 e3).1 (fun e => by injection e with e; omega)).trans e3, e4⟩
theorem Rd0.kept (h : Rd0 W R S k t n nv d f s ns w) {w1 : World} (hg : w.grownBy w1 nv.ownBlock) : Lies w1 R 49 (rcells S k t n nv d f) :=
  h.lies.grown hg (fun e => by have := (h.own.lt R e.symm).1; have := h.ltR; omega)
/-- A node more, its row stored. -/
theorem Rd0.grow (h : Rd0 W R S k t n nv d f s ns w) {w1 : World} {x : Zq.Nd} (ho : w1.ownsRow W.w.heap.size 37 5 nv' (ns.length + 1) (ncells ns ++ ncell x)) (hg : w.grownBy w1 nv.ownBlock) (hat : nv'.ownBlock = nv.ownBlock ∨ nv'.ownBlock = some w.heap.size) :
    Rd0 W R S k t n nv' d f s (ns ++ [x]) (w1.setCell ⟨R, 4, none⟩ nv') := by
  have hne : ∀ b, nv.ownBlock = some b → W.w.heap.size ≤ b := fun b e => (h.own.lt b e).1
  have hR := h.ltR
  have hS := h.ltS
  have hl : Lies w1 R 49 (rcells S k t n nv d f) := h.lies.grown hg (fun e => by have := hne _ e.symm; omega)
  have ht := h.text.grown hg (fun e => by have := hne _ e.symm; omega)
  have hf := h.fr.grown hg (fun b e => .inr (.inr (hne b e)))
  have hg2 := gbz_set w1 R 4 nv'
  refine ⟨?_, ?_, ht.far (fun e => h.ne (by simpa using e.symm)) _, h.ne, hR, hS, hf.grown hg2 (fun b e => .inl (by injection e with e; exact e.symm)), ?_, h.small, fun b o e => by
    obtain ⟨k1, k2, k3, k4⟩ := h.keep b o e
    have hb := (Array.getElem?_eq_some_iff.1 k1).1
    refine ⟨(hg2.block b (Nat.lt_of_lt_of_le hb hg.size) (fun e => k2 (by injection e))).trans ((hg.block b hb (fun e => k4 e.symm)).trans k1), k2, k3, fun e => ?_⟩
    rcases hat with hat | hat
    · exact k4 (hat.symm.trans e)
    · rw [hat] at e
      injection e with e
      omega⟩
  · obtain ⟨h1, h2, h3, h4⟩ := h.held
    exact ⟨h1, (h2.grown hg h2.size (fun b e => by have := hne b e; omega)).setCell h3 _, h3, h4⟩
  · have := hl.put 4 nv'
    simpa using this
  · rw [List.length_append, ncells_append, ncells_one]
    refine ⟨ho.1, ?_⟩
    rcases ho.2 with hn | ⟨g, cap, cur, e1, e2, e3, e4⟩
    · exact .inl hn
    · exact .inr ⟨g, cap, cur, e1, e2, (hg2.block g (Array.getElem?_eq_some_iff.1 e3).1 (fun e => by injection e with e; omega)).trans e3, e4⟩
end

/-- The token ahead, and what is behind it: the list that is left to read. -/
def Ahead (k : Int) (t : ByteArray) (n : Int) (s : ByteArray) (l : List Nat) : Prop :=
  (k = 0 ∧ numsOf s = l) ∨ ∃ x q, Zq.next l = some (x, q) ∧ numsOf s = q ∧ k = (Zq.kOf x : Nat) ∧ t = strOf (Zq.kText x) ∧ n = (Zq.kNum x : Nat)
/-- A reader that has met no fault: what is left to read, what is open, the nodes. -/
def Rok (W : Cx) (R S : Nat) (l : List Nat) (d : Nat) (ns : List Zq.Nd) (w : World) : Prop :=
  ∃ k t n nv s, Ahead k t n s l ∧ d ≤ 16 ∧ ns.length ≤ 48 ∧ Rd0 W R S k t n nv (d : Int) 0 s ns w
/-- The same, its next token examined. -/
def Rex (W : Cx) (R S : Nat) (x : Zq.Tok) (q : List Nat) (d : Nat) (ns : List Zq.Nd) (w : World) : Prop :=
  ∃ nv s, numsOf s = q ∧ d ≤ 16 ∧ ns.length ≤ 48 ∧ Rd0 W R S (Zq.kOf x : Nat) (strOf (Zq.kText x)) (Zq.kNum x : Nat) nv (d : Int) 0 s ns w
/-- A reader that has met a fault: it has so many nodes at most. -/
def Rf (W : Cx) (R S : Nat) (m : Nat) (w : World) : Prop :=
  ∃ k t n nv d f s ns, f ≠ 0 ∧ ns.length ≤ m ∧ Rd0 W R S k t n nv d f s ns w
section
variable {W : Cx} {w w' : World} {R S d m m' : Nat} {l q : List Nat} {x : Zq.Tok} {ns : List Zq.Nd}
theorem Rex.ok (h : Rex W R S x q d ns w) (hn : Zq.next l = some (x, q)) : Rok W R S l d ns w := by
  obtain ⟨nv, s, h1, h2, h3, h4⟩ := h
  exact ⟨_, _, _, nv, s, .inr ⟨x, q, hn, h1, rfl, rfl, rfl⟩, h2, h3, h4⟩
theorem Rf.le (h : Rf W R S m w) (hm : m ≤ m') : Rf W R S m' w := by
  obtain ⟨k, t, n, nv, d, f, s, ns, h1, h2, h3⟩ := h
  exact ⟨k, t, n, nv, d, f, s, ns, h1, Nat.le_trans h2 hm, h3⟩
theorem Rok.more (h : Rok W R S l d ns w) (hb : Below w.heap.size w w') : Rok W R S l d ns w' := by
  obtain ⟨k, t, n, nv, s, h1, h2, h3, h4⟩ := h
  exact ⟨k, t, n, nv, s, h1, h2, h3, h4.more hb⟩
theorem Rex.more (h : Rex W R S x q d ns w) (hb : Below w.heap.size w w') : Rex W R S x q d ns w' := by
  obtain ⟨nv, s, h1, h2, h3, h4⟩ := h
  exact ⟨nv, s, h1, h2, h3, h4.more hb⟩
theorem Rf.more (h : Rf W R S m w) (hb : Below w.heap.size w w') : Rf W R S m w' := by
  obtain ⟨k, t, n, nv, d, f, s, ns, h1, h2, h3⟩ := h
  exact ⟨k, t, n, nv, d, f, s, ns, h1, h2, h3.more hb⟩
end
end Go.Proofs.YthhlmalpelgpeaaGreatDoor

/-
  The small steps of the reader of rules: fail, take, isWord, compares, takesOne, node.
-/
namespace Go.Proofs.YthhlmalpelgpeaaGreatDoor
open Go.RowKit

section
variable {W : Cx} {w : World} {R S : Nat} {k n d f : Int} {t s : ByteArray} {nv : Value} {ns : List Zq.Nd}
set_option maxHeartbeats 1000000 in
set_option maxRecDepth 100000 in
theorem fail_any (c : Int) (h : Rd0 W R S k t n nv d f s ns w) :
    Calls Tryz.prog 37 #[.pointer (some ⟨R, 0, none⟩), .int .i64 c] w fun e w' => e = .returned (.tuple #[]) ∧ Rd0 W R S k t n nv d (if f = 0 then c else f) s ns w' ∧ Fr w R S w' := by
  obtain ⟨_, _, _, _, _, _, c6⟩ := h.cells
  obtain ⟨_, _, _, _, _, _, f6⟩ := h.frees
  by_cases hf : f = 0
  · subst hf
    have HE : Hid (Rd0 W R S k t n nv d c s ns (w.setCell ⟨R, 6, none⟩ (.int .i64 c))) := h.reR (gbz_set _ _ _ _) (by have := h.lies.put 6 (.int .i64 c); simpa using this)
    clear h
    go_enter Tryz.func37, Tryz.ntmps37
    go_wp2
    go_end0
    exact ⟨rfl, HE.out, (Fr.refl _ _ _).grown (gbz_set _ _ _ _) (fun k e => .inl (by injection e with e; exact e.symm))⟩
  · have hb : (f == 0) = false := beq_eq_false_iff_ne.2 hf
    have HE := Lib.hid h
    clear h
    go_enter Tryz.func37, Tryz.ntmps37
    go_wp2
    go_end0
    exact ⟨rfl, HE.out, Fr.refl _ _ _⟩

set_option maxRecDepth 100000 in
theorem isWord_any (x : Int) (w : World) : Calls Tryz.prog 36 #[.int .i64 x] w fun e w' => w = w' ∧ e = .returned (.bool (decide (14 ≤ x))) := by
  go_enter Tryz.func36, Tryz.ntmps36
  go_wp2
  go_ret
  exact ⟨rfl, rfl⟩
set_option maxRecDepth 100000 in
theorem compares_any (x : Nat) (w : World) : Calls Tryz.prog 136 #[.int .i64 (x : Int)] w fun e w' => w = w' ∧ e = .returned (.int .i64 (Zq.cmpOp x)) := by
  have H : Hid (Zq.cmpOp x = if x = 11 then 10 else if x = 12 then 11 else if x = 20 then 12 else 0) := rfl
  by_cases h1 : x = 11
  · subst h1
    go_enter Tryz.func136, Tryz.ntmps136
    go_wp2
    go_ret
    exact ⟨rfl, rfl⟩
  by_cases h2 : x = 12
  · subst h2
    go_enter Tryz.func136, Tryz.ntmps136
    go_wp2
    go_ret
    exact ⟨rfl, rfl⟩
  by_cases h3 : x = 20
  · subst h3
    go_enter Tryz.func136, Tryz.ntmps136
    go_wp2
    go_ret
    exact ⟨rfl, rfl⟩
  · have e1 : ((x : Int) == 11) = false := beq_eq_false_iff_ne.2 (by omega)
    have e2 : ((x : Int) == 12) = false := beq_eq_false_iff_ne.2 (by omega)
    have e3 : ((x : Int) == 20) = false := beq_eq_false_iff_ne.2 (by omega)
    have HE : Hid (Zq.cmpOp x = 0) := by unfold Hid; rw [H.out, if_neg h1, if_neg h2, if_neg h3]
    clear H h1 h2 h3
    go_enter Tryz.func136, Tryz.ntmps136
    go_wp2
    go_ret
    exact ⟨rfl, by rw [HE.out]; rfl⟩
/-- The Op of a function of one operand. -/
def oneOp (k : Nat) : Int := if k = 22 then 6 else if k = 23 then 7 else if k = 24 then 8 else 9
set_option maxRecDepth 100000 in
theorem takesOne_any (x : Nat) (w : World) : Calls Tryz.prog 144 #[.int .i64 (x : Int)] w fun e w' => w = w' ∧ e = .returned (.int .i64 (oneOp x)) := by
  have H : Hid (oneOp x = if x = 22 then 6 else if x = 23 then 7 else if x = 24 then 8 else 9) := rfl
  by_cases h1 : x = 22
  · subst h1
    go_enter Tryz.func144, Tryz.ntmps144
    go_wp2
    go_ret
    exact ⟨rfl, rfl⟩
  by_cases h2 : x = 23
  · subst h2
    go_enter Tryz.func144, Tryz.ntmps144
    go_wp2
    go_ret
    exact ⟨rfl, rfl⟩
  by_cases h3 : x = 24
  · subst h3
    go_enter Tryz.func144, Tryz.ntmps144
    go_wp2
    go_ret
    exact ⟨rfl, rfl⟩
  · have e1 : ((x : Int) == 22) = false := beq_eq_false_iff_ne.2 (by omega)
    have e2 : ((x : Int) == 23) = false := beq_eq_false_iff_ne.2 (by omega)
    have e3 : ((x : Int) == 24) = false := beq_eq_false_iff_ne.2 (by omega)
    have HE : Hid (oneOp x = 9) := by unfold Hid; rw [H.out, if_neg h1, if_neg h2, if_neg h3]
    clear H h1 h2 h3
    go_enter Tryz.func144, Tryz.ntmps144
    go_wp2
    go_ret
    exact ⟨rfl, by rw [HE.out]; rfl⟩

abbrev tokc (k : Int) (t : ByteArray) (n : Int) : Value := .agg #[.int .i64 k, .string t, .int .i64 n]
theorem Rd0.taken (h : Rd0 W R S k t n nv d f s ns w) : Rd0 W R S 0 ByteArray.empty 0 nv d f s ns (((w.setCell ⟨R, 1, none⟩ (.int .i64 0)).setCell ⟨R, 2, none⟩ (.string { data := #[] })).setCell ⟨R, 3, none⟩ (.int .i64 0)) :=
  h.reR (gbz_trans (gbz_trans (gbz_set _ _ _ _) (gbz_set _ _ _ _)) (gbz_set _ _ _ _)) (by
    have := ((h.lies.put 1 (.int .i64 0)).put 2 (.string { data := #[] })).put 3 (.int .i64 0)
    exact this)
theorem fr_taken (w : World) (R S : Nat) : Fr w R S (((w.setCell ⟨R, 1, none⟩ (.int .i64 0)).setCell ⟨R, 2, none⟩ (.string { data := #[] })).setCell ⟨R, 3, none⟩ (.int .i64 0)) :=
  (Fr.refl _ _ _).grown (gbz_trans (gbz_trans (gbz_set _ _ _ _) (gbz_set _ _ _ _)) (gbz_set _ _ _ _)) (fun k e => .inl (by injection e with e; exact e.symm))
theorem below_new2 (w : World) (o o' : Obj) : Below w.heap.size w ((w.alloc o).alloc o') := ((Below.refl _ _).alloc (Nat.le_refl _) o).alloc (by simp) o'
set_option maxHeartbeats 1000000 in
set_option maxRecDepth 100000 in
theorem take_any (h : Rd0 W R S k t n nv d f s ns w) :
    Calls Tryz.prog 65 #[.pointer (some ⟨R, 0, none⟩)] w fun e w' => e = .returned (tokc k t n) ∧ Rd0 W R S 0 ByteArray.empty 0 nv d f s ns w' ∧ Fr w R S w' := by
  have hlt := h.lies.lt
  obtain ⟨_, c1, c2, c3, _, _, _⟩ := h.cells
  obtain ⟨_, f1, f2, f3, _, _, _⟩ := h.frees
  have HF := Lib.hid ((fr_taken w R S).more (below_new2 _ (Obj.cells #[Value.int IntKind.i64 k, Value.string t, Value.int IntKind.i64 n] 47) (Obj.cells #[Value.int IntKind.i64 k, Value.string t, Value.int IntKind.i64 n] 47)))
  have HE := Lib.hid (h.taken.more (below_new2 _ (Obj.cells #[Value.int IntKind.i64 k, Value.string t, Value.int IntKind.i64 n] 47) (Obj.cells #[Value.int IntKind.i64 k, Value.string t, Value.int IntKind.i64 n] 47)))
  go_enter Tryz.func65, Tryz.ntmps65
  go_wp2
  exact bodyPost_ret (v := tokc k t n) (by simp [results, Tryz.results65, go_sem]) rfl ⟨rfl, HE.out, HF.out⟩

/-- append of one value's cells, in a region that draws its order. -/
theorem step_append_at {ops : Array Oper} {o : Oper} {a : Act} {Q : Exit → Act → World → Prop} {w : World} {K : Act → World → Prop} {E : Prop} (hgd : o.guard = none) (s x : Operand) (t e : TypeId) (z : Value) (size bytes : Nat)
    (ho : o.op = .call { callee := .builtin .append, args := #[s, x], argTypes := #[t, t] }) (ht : Tryz.prog.underlying t = some (.slice e))
    (hi : (Tryz.prog.info? e).map (fun i => (i.zero, i.size, i.bytes)) = some (some z, size, bytes)) (hz : z.cells.size = size) (hsz : 0 < size)
    (base : Nat) (v : Value) (n : Nat) (xs : List Value) (A : Addr) (c : Nat) (us : List Value) (hown : w.ownsRow base e size v n xs) (hl : us.length = size) (hc : ∀ j u, us[j]? = some u → w.cell? (A.add j) = some u) (h1 : ∀ u ∈ us, u.oneCell' = true)
    (hs : a.eval s = v) (hx : a.eval x = .slice (some A) 1 c) (hb : (n + 1) * bytes ≤ 140737488355328) (hm : n + 1 ≤ 140737488355328) (hbase : base ≤ w.heap.size)
    (hK : ∀ g cap w', w'.ownsRow base e size (.slice (some ⟨g, 0, none⟩) (n + 1) cap) (n + 1) (xs ++ us) → w.grownBy w' v.ownBlock → (v.ownBlock = some g ∨ g = w.heap.size) → K (a.put o.dst (.slice (some ⟨g, 0, none⟩) (n + 1) cap)) w') : if Region.wanted o (yielded ops a.tmps) = true then Oper.wp Tryz.prog o a w K Q else E := by
  have hw : Region.wanted o (yielded ops a.tmps) = true := by simp [Region.wanted, hgd]
  rw [if_pos hw]
  obtain ⟨i0, hi0, hz0, hz1, hz2⟩ := info_parts hi
  obtain ⟨v', w', hrun, h2, h3, _, h5⟩ := run_append_own_at (P := Tryz.prog) w base t o.type e i0 z size bytes ht hi0 hz0 hz1 hz2 hz hsz v n xs hown A 1 c us (by rw [hl, Nat.one_mul]) hc h1 (by unfold maxLen; omega) hb hbase
  obtain ⟨g, cap, rfl⟩ := own_form h2 (by omega)
  unfold Oper.wp
  simp [execOp, ho, resolve, invoke, builtin, hs, hx, hrun, Result.andThen]
  refine hK g cap w' h2 h3 ?_
  rcases h5 with h5 | h5
  · exact .inl (by rw [← h5]; rfl)
  · exact .inr (by injection h5)
theorem own_drew {w : World} {base : Nat} {e : TypeId} {size n : Nat} {v : Value} {xs : List Value} (h : w.ownsRow base e size v n xs) : w.drew.ownsRow base e size v n xs := h
theorem grown_drew {w w' : World} {row : Option Nat} (h : w.drew.grownBy w' row) : w.grownBy w' row := ⟨h.os, h.tape, h.output, h.size, h.block⟩
theorem new_drew (w : World) (cs : Array Value) (t : TypeId) (j : Nat) (u : Value) (h : cs.toList[j]? = some u) : (w.alloc (.cells cs t)).drew.cell? ((⟨w.heap.size, 0, none⟩ : Addr).add j) = some u := new_cells w cs t j u h
theorem box_below (w : World) (o : Obj) : Below w.heap.size w (w.alloc o) := (Below.refl _ _).alloc (Nat.le_refl _) o

/-- How a node is made. -/
def NodeEnd (W : Cx) (R S : Nat) (k : Int) (t : ByteArray) (n d f : Int) (s : ByteArray) (ns : List Zq.Nd) (e : Ending) (w' : World) : Prop :=
  e = .returned (.int .i64 ((ns.length - 1 : Nat) : Int)) ∧ ∃ nv', Rd0 W R S k t n nv' d f s ns w'
set_option maxHeartbeats 4000000 in
set_option maxRecDepth 100000 in
theorem node_any (x : Zq.Nd) (hn : ns.length ≤ 1000) (h : Rd0 W R S k t n nv d f s ns w) :
    Calls Tryz.prog 124 #[.pointer (some ⟨R, 0, none⟩), ndv x] w (NodeEnd W R S k t n d (if ns.length = 48 ∧ f = 0 then 112 else f) s (ns ++ [x])) := by
  obtain ⟨W1, eW1⟩ : ∃ W1, W1 = w.alloc (.cells #[.int .i64 x.op, .int .i64 x.int, .int .i64 x.a, .int .i64 x.b, .string (strOf x.text)] 37) := ⟨_, rfl⟩
  have hb1 : Below w.heap.size w W1 := by rw [eW1]; exact (Below.refl _ _).alloc (Nat.le_refl _) _
  have hl1 : Lies W1 w.heap.size 37 (ncell x) := by rw [eW1]; exact Lies.new_ rfl
  obtain ⟨A, c, rfl⟩ := own_slice h.own
  have h1 := h.more hb1
  obtain ⟨_, _, _, _, c4, _, _⟩ := h.cells
  have hC := fail_any 112 h1
  have hlt := h.lies.lt
  have hltS := h.text.lt
  have H1 := Lib.hid h1
  have HL := Lib.hid hl1
  have HW := Lib.hid eW1
  obtain ⟨F, eF⟩ : ∃ F, F = (if ns.length = 48 ∧ f = 0 then (112 : Int) else f) := ⟨_, rfl⟩
  rw [eW1] at hC
  rw [← eF]
  have HB0 : Hid (w.heap.size ≠ R ∧ w.heap.size ≠ S) := ⟨by omega, by omega⟩
  clear h1 hl1 h hb1 eW1 hltS
  by_cases h48 : ns.length = 48
  have d48 : (((ns.length : Nat) : Int) == 48) = true := by rw [h48]; rfl
  have HF : Hid ((if f = 0 then (112 : Int) else f) = F) := by unfold Hid; rw [eF]; simp [h48]
  clear eF
  go_enter Tryz.func124, Tryz.ntmps124
  go_wp2_with fail
  refine hC.mono ?_
  rintro e w2 ⟨rfl, h2, hfr⟩
  clear hC
  rw [← HW.out] at hfr
  rw [HF.out] at h2
  have hl2 := hfr.lies HL.out HB0.out.1 HB0.out.2
  clear hfr
  go_upto_region 3 with (fail)
  rotate_left
  have d48 : (((ns.length : Nat) : Int) == 48) = false := beq_eq_false_iff_ne.2 (by omega)
  have HF : Hid (f = F) := by unfold Hid; rw [eF, if_neg (fun e => h48 e.1)]
  clear hC eF
  go_enter Tryz.func124, Tryz.ntmps124
  go_upto_region 3 with (fail)
  rw [← HW.out]
  have h2 := H1.out
  rw [HF.out] at h2
  have hl2 := HL.out
  obtain ⟨w2, ew2⟩ : ∃ w2, w2 = W1 := ⟨_, rfl⟩
  rw [← ew2] at h2 hl2 ⊢
  clear ew2
  all_goals
    clear c4 hlt
    obtain ⟨_, _, _, _, c4, _, _⟩ := h2.cells
    obtain ⟨_, _, _, _, f4, _, _⟩ := h2.frees
    obtain ⟨b0, b1, b2, b3, b4⟩ : w2.cell? ⟨w.heap.size, 0, none⟩ = some (.int .i64 x.op) ∧ w2.cell? ⟨w.heap.size, 1, none⟩ = some (.int .i64 x.int) ∧ w2.cell? ⟨w.heap.size, 2, none⟩ = some (.int .i64 x.a) ∧ w2.cell? ⟨w.heap.size, 3, none⟩ = some (.int .i64 x.b) ∧ w2.cell? ⟨w.heap.size, 4, none⟩ = some (.string (strOf x.text)) := ⟨hl2.cell 0, hl2.cell 1, hl2.cell 2, hl2.cell 3, hl2.cell 4⟩
    have hltB := hl2.lt
    have hltR := h2.lies.lt
    have H2 := Lib.hid h2
    have hWsz := h2.fr.size
    clear h2 hl2 d48 h48
    go_region_law (refine step_append_at rfl (.tmp 17) (.tmp 19) 33 37 (.agg #[.int .i64 0, .int .i64 0, .int .i64 0, .int .i64 0, .string ByteArray.empty]) 5 48 rfl Tryz.underlying33 infoNode rfl (by decide) W.w.heap.size (.slice A ns.length c) ns.length (ncells ns) ⟨w2.heap.size, 0, none⟩ 1 (ncell x) (own_drew (own_below H2.out.own (box_below _ _))) rfl (fun j u hj => new_drew w2 _ _ j u hj) (ncell_ones _) rfl rfl (by omega) (by omega) (by simp; omega) ?_; intro g cap w3 hown3 hgr3 hg3; have hk := (H2.out.more (box_below w2 (.cells #[.int .i64 x.op, .int .i64 x.int, .int .i64 x.a, .int .i64 x.b, .string (strOf x.text)] 37))).kept (grown_drew hgr3); have z4 := hk.cell 4; have y4 := hk.free 4)
    all_goals
      have HX := Lib.hid ((H2.out.more (box_below w2 (.cells #[.int .i64 x.op, .int .i64 x.int, .int .i64 x.a, .int .i64 x.b, .string (strOf x.text)] 37))).grow hown3 (grown_drew hgr3) (hg3.elim (fun e => .inl e.symm) (fun e => .inr (by rw [e]; rfl))))
      clear hk hown3 hgr3 hg3 b0 b1 b2 b3 b4 c4 f4
      have hw1 : ((ns.length : Int) + 1 - 1) = (ns.length : Int) := by omega
      go_wp2
      go_ret
      exact ⟨by simp, _, HX.out⟩
end
end Go.Proofs.YthhlmalpelgpeaaGreatDoor

/-
  How an advance of the tokens ends.
-/
namespace Go.Proofs.YthhlmalpelgpeaaGreatDoor
open Go.RowKit

/-- How the closure that advances ends, called where s is left to read. -/
def AdvEnd (S : Nat) (s : ByteArray) (w : World) (e : Ending) (w' : World) : Prop :=
  w.grownBy w' (some S) ∧ ∃ s', Lies w' S 9 [.string s'] ∧ s'.size ≤ s.size ∧
    ((∃ x q, Zq.next (numsOf s) = some (x, q) ∧ e = .returned (tokc (Zq.kOf x : Nat) (strOf (Zq.kText x)) (Zq.kNum x : Nat)) ∧ numsOf s' = q) ∨
      (Zq.next (numsOf s) = none ∧ ∃ t n, e = .returned (tokc 1 t n)))
/-- Advancing keeps its word. (Every contract of the reader rests on it alone.) -/
def AdvOk : Prop := ∀ (S : Nat) (s : ByteArray) (w w0 : World), HeldZ w0 → Below w0.heap.size w0 w → w0.heap.size ≤ S → Lies w S 9 [.string s] → s.size ≤ 4096 →
    Calls Tryz.prog 32 #[.pointer (some ⟨S, 0, none⟩)] w (AdvEnd S s w)
end Go.Proofs.YthhlmalpelgpeaaGreatDoor
