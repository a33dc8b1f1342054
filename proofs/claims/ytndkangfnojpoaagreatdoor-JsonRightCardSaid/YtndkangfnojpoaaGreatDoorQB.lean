/-
  QB: Mem JMem JLay JText JX JLib JRead JTake JVal, side by side.
-/
import Derived.WalkKit
import Derived.Deep.Draws
import Derived.Laws.Rows
import Derived.Laws.CopyOwn
import Derived.Test.YtndkangfnojpoaaGreatDoorRows
import Derived.Test.YtndkangfnojpoaaGreatDoorQP
import Derived.WalkSpells
import Derived.WalkLawsBesides
import Derived.Lib.Hide
import Derived.Deep.QuietTactic
import Derived.BigQuiet
import Derived.ArgAppend
import Derived.Laws.BytesArg
import Derived.Laws.MakeOwn
import Derived.Laws.AppendOwnNone
import Derived.Lib.Bytealg
import Derived.StillTailTactics
import Derived.Deep.AppendLies
import Derived.Deep.Cut
import Derived.Shelf.Strings.Prefix
import Derived.Shelf.Strconv.Itoa3
import Derived.Shelf.Strconv.ErrVarAll
import Derived.Shelf.Small.Strs
import Derived.Shelf.Small.Wraps
import Derived.Shelf.Utf8.AppendRunePlain
import Derived.Shelf.Strings.SlTrimAscii
import Derived.Shelf.Unicode.DecodeAny
import Derived.Test.YtndkangfnojpoaaGreatDoorProg
import Derived.Test.YtndkangfnojpoaaGreatDoorQU
import Derived.Outline
import Derived.Lib.AtoiErrMem
import Derived.Test.YtndkangfnojpoaaGreatDoorQV

/-
  Blocks that are known whole, as lists of cells; what stays as it was.
-/
namespace Go.Proofs.YtndkangfnojpoaaGreatDoor
open Go.RowKit

/-- Block g holds just these cells, all of which may be written. -/
def Lies (w : World) (g : Nat) (t : TypeId) (cs : List Value) : Prop := w.heap[g]? = some (.cells cs.toArray t (0, 0))

section
variable {w w' : World} {g : Nat} {t : TypeId} {cs : List Value}
theorem Lies.lt (h : Lies w g t cs) : g < w.heap.size := by
  rcases Nat.lt_or_ge g w.heap.size with hlt | hge
  · exact hlt
  · unfold Lies at h; rw [Array.getElem?_eq_none hge] at h; cases h
theorem Lies.cell (h : Lies w g t cs) (i : Nat) : w.cell? ⟨g, i, none⟩ = cs[i]? := by
  have := cell_of_row w g i cs.toArray t (0, 0) h
  simpa using this
theorem Lies.free (h : Lies w g t cs) (i : Nat) : w.frozen? ⟨g, i, none⟩ = false := by
  unfold Lies at h
  simp [World.frozen?, h]
theorem Lies.made (w : World) (t : TypeId) (cs : List Value) : Lies (w.alloc (.cells cs.toArray t)) w.heap.size t cs := heap_alloc_new w _
theorem Lies.new_ (hg : g = w.heap.size) : Lies (w.alloc (.cells cs.toArray t)) g t cs := by subst hg; exact heap_alloc_new w _
theorem Lies.drew (h : Lies w g t cs) : Lies w.drew g t cs := h
theorem Lies.drewN (h : Lies w g t cs) (n : Nat) : Lies (w.drewN n) g t cs := h
theorem Lies.alloc (h : Lies w g t cs) (o : Obj) : Lies (w.alloc o) g t cs := (Below.heap_alloc w o g h.lt).trans h
theorem Lies.put (h : Lies w g t cs) (i : Nat) (u : Value) : Lies (w.setCell ⟨g, i, none⟩ u) g t (cs.set i u) := by
  unfold Lies at h ⊢
  simp [World.setCell, Array.getElem?_modify, h]
theorem Lies.row {cs' : List Value} (h : Lies w g t cs) : Lies (w.setRow g cs'.toArray) g t cs' := setRow_heap w g cs.toArray cs'.toArray t _ h
theorem Lies.farRow {g' : Nat} {a : Array Value} (h : Lies w g t cs) (hne : g' ≠ g) : Lies (w.setRow g' a) g t cs := (setRow_other w g' g a (by omega)).trans h
theorem Lies.far (h : Lies w g t cs) {p : Addr} (hp : g ≠ p.block) (u : Value) : Lies (w.setCell p u) g t cs := (Below.heap_setCell w p u g hp).trans h
theorem Lies.below {B : Nat} (h : Lies w g t cs) (hb : Below B w w') (hg : g < B) : Lies w' g t cs := (hb.block g hg).trans h
theorem Lies.grown {row : Option Nat} (h : Lies w g t cs) (hb : w.grownBy w' row) (hg : some g ≠ row) : Lies w' g t cs := (hb.block g h.lt hg).trans h
end

theorem below_row {B g : Nat} {w w' : World} {a : Array Value} (h : Below B w w') (hg : B ≤ g) : Below B w (w'.setRow g a) :=
  ⟨h.os, h.tape, h.output, by simpa using h.size, fun i hi => (setRow_other w' g i a (by omega)).trans (h.block i hi)⟩

section
variable {P : Program} {ops : Array Oper} {rest : List Oper} {o : Oper} {a : Act} {w : World} {Q : Exit → Act → World → Prop}
/-- A whole block is written. -/
theorem store_lies (hgd : o.guard = none) (ty : TypeId) (x y : Operand) (ho : o.op = .store ty x y)
    (g : Nat) (cells : List Value) (t : TypeId) (old : List Value) (hL : Lies w g t old) (hx : a.eval x = .pointer (some ⟨g, 0, none⟩)) (hy : a.eval y = .agg cells.toArray)
    (hi : (P.info? ty).map (·.size) = some old.length) (hl : old.length = cells.length) (h1 : cells.all (·.oneCell') = true)
    (h : wpList P ops Q rest (a.put o.dst undef) (w.setRow g cells.toArray)) : wpList P ops Q (o :: rest) a w :=
  wpList_store_row hgd ty x y ho g cells.toArray hx hy t old.toArray hL (by rw [hi, hl]; simp) (by simpa using hl) (by simpa using h1) h
/-- A whole block is read. -/
theorem load_lies (hgd : o.guard = none) (ty : TypeId) (x : Operand) (ho : o.op = .load ty x)
    (g : Nat) (t : TypeId) (cells : List Value) (d : TypeDesc) (hL : Lies w g t cells) (hx : a.eval x = .pointer (some ⟨g, 0, none⟩))
    (hu : P.underlying ty = some d) (hd : (match d with | .struct _ | .array _ _ => true | _ => false) = true) (hi : (P.info? ty).map (·.size) = some cells.length)
    (h : wpList P ops Q rest (a.put o.dst (.agg cells.toArray)) w) : wpList P ops Q (o :: rest) a w :=
  wpList_load_row hgd ty x ho g hx t cells.toArray (0, 0) d hL hu hd (by rw [hi]; simp) h
end

section
variable {P : Program} {w : World}
theorem run_copy_lies (dT sT ty elem : TypeId) (hu : P.underlying dT = some (.slice elem)) (hsz : (P.info? elem).map (·.size) = some 1)
    (dp sp : Option Addr) (dLen dCap sLen sCap : Nat) (g off : Nat) (cur : List Value) (t : TypeId) (hL : Lies w g t cur) (cs : List Value) (hn : cs.length = Nat.min sLen dLen)
    (hpos : 0 < cs.length → dp = some ⟨g, off, none⟩ ∧ ∃ ad, sp = some ad ∧ ∀ j v, cs[j]? = some v → w.cell? (ad.add j) = some v)
    (hfit : off + cs.length ≤ cur.length) (h1 : ∀ v ∈ cs, v.oneCell' = true) :
    ∃ w', (Builtin.copy_ #[dT, sT] ty #[.slice dp dLen dCap, .slice sp sLen sCap]).run P w = .ok (goInt cs.length) w' ∧ Lies w' g t (splice cur off cs) ∧ w.grownBy w' (some g) := by
  by_cases h0 : cs.length = 0
  · obtain rfl : cs = [] := List.eq_nil_of_length_eq_zero h0
    have hrun := run_copy_none (P := P) w dT sT ty elem dp sp dLen dCap sLen sCap hu hsz (by simpa using hn.symm)
    exact ⟨w, hrun, by simpa [splice] using hL, World.grownBy.refl w _⟩
  · obtain ⟨rfl, ad, rfl, hsrc⟩ := hpos (by omega)
    have hrun := run_copy_row (P := P) w dT sT ty elem g off dLen dCap ad sLen sCap cur.toArray t cs hu hsz hL hn hsrc (by simpa using hfit) h1
    refine ⟨_, hrun, ?_, ⟨rfl, rfl, rfl, by simp, fun i _ hne => setRow_other w g i _ (by rintro rfl; exact hne rfl)⟩⟩
    have e : (List.take off cur.toArray.toList ++ cs ++ List.drop (off + cs.length) cur.toArray.toList) = splice cur off cs := by simp [splice]
    rw [e]
    exact setRow_heap w g _ (splice cur off cs).toArray t _ hL
variable {ops : Array Oper} {rest : List Oper} {o : Oper} {a : Act} {Q : Exit → Act → World → Prop} {K : Act → World → Prop} {E : Prop}
/-- copy into a block that is known whole. -/
theorem copy_lies (hgd : o.guard = none) (d s : Operand) (dT sT : TypeId)
    (ho : o.op = .call { callee := .builtin .copy, args := #[d, s], argTypes := #[dT, sT] }) (elem : TypeId) (hu : P.underlying dT = some (.slice elem)) (hsz : (P.info? elem).map (·.size) = some 1)
    (g off : Nat) (cur : List Value) (t : TypeId) (hL : Lies w g t cur) (cs : List Value)
    (dp sp : Option Addr) (dLen dCap sLen sCap : Nat) (hd : a.eval d = .slice dp dLen dCap) (hs : a.eval s = .slice sp sLen sCap) (hn : cs.length = Nat.min sLen dLen)
    (hpos : 0 < cs.length → dp = some ⟨g, off, none⟩ ∧ ∃ ad, sp = some ad ∧ ∀ j v, cs[j]? = some v → w.cell? (ad.add j) = some v)
    (hfit : off + cs.length ≤ cur.length) (h1 : ∀ v ∈ cs, v.oneCell' = true)
    (h : ∀ w', Lies w' g t (splice cur off cs) → w.grownBy w' (some g) → wpList P ops Q rest (a.put o.dst (goInt cs.length)) w') :
    wpList P ops Q (o :: rest) a w := by
  refine wpList_plain hgd fun K hK => ?_
  obtain ⟨w', hrun, h2, h3⟩ := run_copy_lies (P := P) (w := w) dT sT o.type elem hu hsz dp sp dLen dCap sLen sCap g off cur t hL cs hn hpos hfit h1
  unfold Oper.wp
  simp [execOp, ho, resolve, invoke, builtin, hd, hs, hrun, Result.andThen]
  exact hK _ _ (h w' h2 h3)
/-- The same in a region that draws its order. -/
theorem step_copy_lies (hgd : o.guard = none) (d s : Operand) (dT sT : TypeId)
    (ho : o.op = .call { callee := .builtin .copy, args := #[d, s], argTypes := #[dT, sT] }) (elem : TypeId) (hu : P.underlying dT = some (.slice elem)) (hsz : (P.info? elem).map (·.size) = some 1)
    (g off : Nat) (cur : List Value) (t : TypeId) (hL : Lies w g t cur) (cs : List Value)
    (dp sp : Option Addr) (dLen dCap sLen sCap : Nat) (hd : a.eval d = .slice dp dLen dCap) (hs : a.eval s = .slice sp sLen sCap) (hn : cs.length = Nat.min sLen dLen)
    (hpos : 0 < cs.length → dp = some ⟨g, off, none⟩ ∧ ∃ ad, sp = some ad ∧ ∀ j v, cs[j]? = some v → w.cell? (ad.add j) = some v)
    (hfit : off + cs.length ≤ cur.length) (h1 : ∀ v ∈ cs, v.oneCell' = true)
    (h : ∀ w', Lies w' g t (splice cur off cs) → w.grownBy w' (some g) → K (a.put o.dst (goInt cs.length)) w') :
    if Region.wanted o (yielded ops a.tmps) = true then Oper.wp P o a w K Q else E := by
  have hw : Region.wanted o (yielded ops a.tmps) = true := by simp [Region.wanted, hgd]
  rw [if_pos hw]
  obtain ⟨w', hrun, h2, h3⟩ := run_copy_lies (P := P) (w := w) dT sT o.type elem hu hsz dp sp dLen dCap sLen sCap g off cur t hL cs hn hpos hfit h1
  unfold Oper.wp
  simp [execOp, ho, resolve, invoke, builtin, hd, hs, hrun, Result.andThen]
  exact h w' h2 h3
end

/-- These bytes lie from here on. -/
def BytesAt (w : World) (b off : Nat) (p : List Nat) : Prop := ∀ (j x : Nat), p[j]? = some x → x < 256 ∧ w.cell? ⟨b, off + j, none⟩ = some (.int .u8 (x : Int))

section
variable {w w' : World} {b off : Nat} {p : List Nat}
theorem BytesAt.get (h : BytesAt w b off p) {j : Nat} (hj : j < p.length) : w.cell? ⟨b, off + j, none⟩ = some (.int .u8 (p.getD j 0 : Nat)) := by
  have := (h j p[j] (List.getElem?_eq_getElem hj)).2
  rw [this, List.getD_eq_getElem?_getD, List.getElem?_eq_getElem hj]; rfl
theorem BytesAt.lt (h : BytesAt w b off p) (j : Nat) : p.getD j 0 < 256 := by
  rw [List.getD_eq_getElem?_getD]
  cases e : p[j]? with
  | none => simp
  | some x => exact (h j x e).1
theorem BytesAt.keep (h : BytesAt w b off p) (hk : ∀ a : Addr, a.block = b → w'.cell? a = w.cell? a) : BytesAt w' b off p :=
  fun j x hj => ⟨(h j x hj).1, (hk _ rfl).trans (h j x hj).2⟩
theorem BytesAt.below {B : Nat} (h : BytesAt w b off p) (hb : Below B w w') (hB : b < B) : BytesAt w' b off p := h.keep fun _ ha => hb.cell (by rw [ha]; exact hB)
theorem BytesAt.alloc (h : BytesAt w b off p) (hB : b < w.heap.size) (o : Obj) : BytesAt (w.alloc o) b off p := h.keep fun a ha => World.cell?_alloc_lt w o a (by omega)
theorem BytesAt.drewN (h : BytesAt w b off p) (n : Nat) : BytesAt (w.drewN n) b off p := h
theorem BytesAt.cut (h : BytesAt w b off p) (k : Nat) : BytesAt w b (off + k) (p.drop k) := fun j x hj => by
  rw [List.getElem?_drop] at hj
  have := h _ x hj
  rwa [← Nat.add_assoc] at this
theorem BytesAt.take (h : BytesAt w b off p) (k : Nat) : BytesAt w b off (p.take k) := fun j x hj => by
  rw [List.getElem?_take] at hj
  split at hj
  · exact h j x hj
  · cases hj
end
end Go.Proofs.YtndkangfnojpoaaGreatDoor

/-
  Bytes and texts in memory, for the walks over values.
-/
namespace Go.Proofs.YtndkangfnojpoaaGreatDoor
open Go.RowKit

theorem ret_int {k : IntKind} {a b : Int} (h : a = b) : Ending.returned (.int k a) = .returned (.int k b) := by rw [h]

/-- Bytes as cells. -/
def u8s (l : List Nat) : List Value := l.map fun (x : Nat) => .int .u8 (x : Int)
theorem u8s_length (l : List Nat) : (u8s l).length = l.length := by simp [u8s]
theorem u8s_append (l k : List Nat) : u8s (l ++ k) = u8s l ++ u8s k := by simp [u8s]
theorem u8s_one (l : List Nat) : ∀ v ∈ u8s l, v.oneCell' = true := by
  intro v hv
  simp only [u8s, List.mem_map] at hv
  obtain ⟨x, _, rfl⟩ := hv
  rfl
theorem u8s_set (X : List Nat) (j y : Nat) : (u8s X).set j (.int .u8 (y : Int)) = u8s (X.set j y) := by simp [u8s, List.map_set]
theorem u8s_at (l : List Nat) {j : Nat} (hj : j < l.length) : (u8s l)[j]? = some (.int .u8 (l.getD j 0 : Nat)) := by
  simp [u8s, List.getElem?_eq_getElem hj, List.getD_eq_getElem?_getD]

/-- A slice of bytes that reads as these. -/
def ArgIs (w : World) (A : Option Addr) (c : Nat) (q : List Nat) : Prop :=
  q.length ≤ c ∧ c ≤ 9223372036854775807 ∧ (∀ x ∈ q, x < 256) ∧ (0 < q.length → ∃ b off, A = some ⟨b, off, none⟩ ∧ b < w.heap.size ∧ BytesAt w b off q)
section
variable {w w' : World} {A : Option Addr} {c : Nat} {q : List Nat}
theorem ArgIs.below {B : Nat} (h : ArgIs w A c q) (hb : Below B w w') (hB : w.heap.size ≤ B) : ArgIs w' A c q :=
  ⟨h.1, h.2.1, h.2.2.1, fun hq => by
    obtain ⟨b, off, e, hbw, hby⟩ := h.2.2.2 hq
    exact ⟨b, off, e, Nat.lt_of_lt_of_le hbw hb.size, hby.below hb (by omega)⟩⟩
theorem ArgIs.alloc (h : ArgIs w A c q) (o : Obj) : ArgIs (w.alloc o) A c q := h.below ((Below.refl w.heap.size w).alloc (Nat.le_refl _) o) (Nat.le_refl _)
theorem ArgIs.drew (h : ArgIs w A c q) : ArgIs w.drew A c q := h
end

theorem Lies.bytes {w : World} {g : Nat} {t : TypeId} {L : List Nat} (h : Lies w g t (u8s L)) (hL : ∀ x ∈ L, x < 256) (off n : Nat) : BytesAt w g off ((L.drop off).take n) := fun j x hj => by
  rw [List.getElem?_take] at hj
  split at hj
  · rw [List.getElem?_drop] at hj
    refine ⟨hL x (List.mem_of_getElem? hj), ?_⟩
    rw [h.cell (off + j)]
    simp [u8s, hj]
  · cases hj
/-- Bytes of a block that is known whole. -/
theorem arg_lies {w : World} {g : Nat} {t : TypeId} {L : List Nat} {c : Nat} (h : Lies w g t (u8s L)) (hL : ∀ x ∈ L, x < 256) (hc : L.length ≤ c) (hcm : c ≤ 9223372036854775807) : ArgIs w (some ⟨g, 0, none⟩) c L :=
  ⟨hc, hcm, hL, fun _ => ⟨g, 0, rfl, h.lt, by
    have := h.bytes hL 0 L.length
    simpa using this⟩⟩
theorem arg_new {w : World} {g : Nat} (hg : g = w.heap.size) (t : TypeId) (fr : Nat × Nat) (L : List Nat) (c : Nat) (hL : ∀ x ∈ L, x < 256) (hc : L.length ≤ c) (hcm : c ≤ 9223372036854775807) :
    ArgIs (w.alloc (.cells (u8s L).toArray t fr)) (some ⟨g, 0, none⟩) c L :=
  ⟨hc, hcm, hL, fun _ => ⟨g, 0, rfl, by subst hg; simp, fun j x hj => ⟨hL x (List.mem_of_getElem? hj), by
    subst hg
    rw [Nat.zero_add, cell_of_row _ _ _ _ t fr (heap_alloc_new w _)]
    simp [u8s, hj]⟩⟩⟩

/-- The text that bytes are. -/
def strOf (q : List Nat) : ByteArray := strOfNums (q.map fun (x : Nat) => (x : Int))
/-- The bytes of a text. -/
def numsOf (s : ByteArray) : List Nat := s.data.toList.map fun u : UInt8 => u.toNat
theorem numsOf_lt (s : ByteArray) : ∀ x ∈ numsOf s, x < 256 := by
  intro x hx
  simp only [numsOf, List.mem_map] at hx
  obtain ⟨u, _, rfl⟩ := hx
  exact u.toNat_lt
theorem numsOf_length (s : ByteArray) : (numsOf s).length = s.size := by
  unfold numsOf
  rw [List.length_map]
  rfl
theorem numsOf_strOf {q : List Nat} (h : ∀ x ∈ q, x < 256) : numsOf (strOf q) = q := by
  simp only [numsOf, strOf, strOfNums, List.map_map]
  conv => rhs; rw [← List.map_id q]
  apply List.map_congr_left
  intro x hx
  have := h x hx
  simp [Nat.mod_eq_of_lt this]
theorem strOf_numsOf (s : ByteArray) : strOf (numsOf s) = s := by
  obtain ⟨⟨l⟩⟩ := s
  simp only [numsOf, strOf, strOfNums, List.map_map]
  congr 2
  conv => rhs; rw [← List.map_id l]
  apply List.map_congr_left
  intro x _
  simp
theorem strOf_inj {p q : List Nat} (hp : ∀ x ∈ p, x < 256) (hq : ∀ x ∈ q, x < 256) (h : strOf p = strOf q) : p = q := by
  rw [← numsOf_strOf hp, ← numsOf_strOf hq, h]
theorem strOf_size (q : List Nat) : (strOf q).size = q.length := by simp [strOf, strOfNums, ByteArray.size]
theorem strOf_append (p q : List Nat) : strOf p ++ strOf q = strOf (p ++ q) := by
  apply ByteArray.ext
  simp [strOf, strOfNums]
theorem str_beq {p q : List Nat} (hp : ∀ x ∈ p, x < 256) (hq : ∀ x ∈ q, x < 256) : ((strOf p).toList == (strOf q).toList) = decide (p = q) := by
  rw [Bool.eq_iff_iff, beq_iff_eq, decide_eq_true_iff, ByteArray.toList_eq, ByteArray.toList_eq]
  refine ⟨fun h => strOf_inj hp hq ?_, fun h => by rw [h]⟩
  have : (strOf p).data = (strOf q).data := Array.toList_inj.1 h
  exact ByteArray.ext this

theorem conv_any {w : World} {A : Option Addr} {c : Nat} {q : List Nat} (h : ArgIs w A c q) (src e dst : TypeId) (hs : Tryz.prog.underlying src = some (.slice e)) (he : Tryz.prog.underlying e = some (.int .u8)) (hd : Tryz.prog.underlying dst = some .string) :
    (convert src dst (.slice A q.length c)).run Tryz.prog w = .ok (.string (strOf q)) w := by
  rcases Nat.eq_zero_or_pos q.length with h0 | h0
  · obtain rfl : q = [] := List.eq_nil_of_length_eq_zero h0
    cases A with
    | none => exact run_convert_bytes_nil w src e hs he 0 c dst hd
    | some a =>
      rw [run_convert_bytes_string w src dst e _ _ c hs he hd]
      exact run_bytesToString w a 0 c [] (by
        have := run_loadCells_list (P := Tryz.prog) w a [] (fun j v hj => by simp at hj)
        simpa using this)
  · obtain ⟨b, off, rfl, _, hby⟩ := h.2.2.2 h0
    refine run_convert_bytes_arg w src e hs he b off q.length c _ (by simp) (fun i hi => ?_) dst hd
    rw [hby.get hi]
    simp [List.getElem?_eq_getElem hi]


theorem infoByte : (Tryz.prog.info? 5).map (fun i => (i.zero, i.size, i.bytes)) = some (some (.int .u8 0), 1, 1) := by kernel_rfl
theorem infoText : (Tryz.prog.info? 9).map (fun i => (i.zero, i.size, i.bytes)) = some (some (.string ByteArray.empty), 1, 16) := by kernel_rfl

theorem own_ge {w : World} {base : Nat} {e : TypeId} {size n : Nat} {v : Value} {xs : List Value} (h : w.ownsRow base e size v n xs) : ∀ b, v.ownBlock = some b → base ≤ b := by
  rcases h.2 with ⟨rfl, _⟩ | ⟨g, cap, cur, rfl, hg, _⟩
  · intro b hb; simp [Value.ownBlock] at hb
  · intro b hb; simp [Value.ownBlock] at hb; omega
theorem own_slice {w : World} {base : Nat} {e : TypeId} {size n : Nat} {v : Value} {xs : List Value} (h : w.ownsRow base e size v n xs) : ∃ A cap, v = .slice A n cap := by
  rcases h.2 with ⟨rfl, rfl⟩ | ⟨g, cap, cur, rfl, _⟩
  · exact ⟨_, _, rfl⟩
  · exact ⟨_, _, rfl⟩
theorem own_form {w : World} {base : Nat} {e : TypeId} {size n : Nat} {v : Value} {xs : List Value} (h : w.ownsRow base e size v n xs) (hn : 0 < n) : ∃ g cap, v = .slice (some ⟨g, 0, none⟩) n cap := by
  rcases h.2 with ⟨_, h0⟩ | ⟨g, cap, cur, rfl, _⟩
  · omega
  · exact ⟨g, cap, rfl⟩
theorem own_below {w w' : World} {base : Nat} {e : TypeId} {size n : Nat} {v : Value} {xs : List Value} (h : w.ownsRow base e size v n xs) (hb : Below w.heap.size w w') : w'.ownsRow base e size v n xs := by
  refine ⟨h.1, ?_⟩
  rcases h.2 with hn | ⟨g, cap, cur, rfl, hB, hgg, rest⟩
  · exact .inl hn
  · exact .inr ⟨g, cap, cur, rfl, hB, (hb.block g (Array.getElem?_eq_some_iff.1 hgg).1).trans hgg, rest⟩

section
variable {ops : Array Oper} {rest : List Oper} {o : Oper} {a : Act} {Q : Exit → Act → World → Prop} {w : World}
/-- append of values that were just laid, onto a row of the call's own. -/
theorem append_row (hgd : o.guard = none) (s x : Operand) (t e : TypeId) (z : Value) (size bytes : Nat)
    (ho : o.op = .call { callee := .builtin .append, args := #[s, x], argTypes := #[t, t] }) (ht : Tryz.prog.underlying t = some (.slice e))
    (hi : (Tryz.prog.info? e).map (fun i => (i.zero, i.size, i.bytes)) = some (some z, size, bytes)) (hz : z.cells.size = size) (hsz : 0 < size)
    (base : Nat) (v : Value) (n : Nat) (xs : List Value) (A : Addr) (m c : Nat) (us : List Value) (hown : w.ownsRow base e size v n xs) (hl : us.length = m * size) (hc : ∀ j u, us[j]? = some u → w.cell? (A.add j) = some u) (h1 : ∀ u ∈ us, u.oneCell' = true)
    (hs : a.eval s = v) (hx : a.eval x = .slice (some A) m c) (hb : (n + m) * bytes ≤ 140737488355328) (hm : n + m ≤ 140737488355328) (hbase : base ≤ w.heap.size)
    (hK : ∀ v' w', w'.ownsRow base e size v' (n + m) (xs ++ us) → w.grownBy w' v.ownBlock → wpList Tryz.prog ops Q rest (a.put o.dst v') w') : wpList Tryz.prog ops Q (o :: rest) a w := by
  refine wpList_plain hgd fun K hK' => ?_
  obtain ⟨i0, hi0, hz0, hz1, hz2⟩ := info_parts hi
  obtain ⟨v', w', hrun, h2, h3, _⟩ := run_append_own (P := Tryz.prog) w base t o.type e i0 z size bytes ht hi0 hz0 hz1 hz2 hz hsz v n xs hown A m c us hl hc h1 (by unfold maxLen; omega) hb hbase
  unfold Oper.wp
  simp [execOp, ho, resolve, invoke, builtin, hs, hx, hrun, Result.andThen]
  exact hK' _ _ (hK v' w' h2 h3)
/-- append of one byte onto a block that is known whole, where there is room. -/
theorem append_room (hgd : o.guard = none) (s x : Operand)
    (ho : o.op = .call { callee := .builtin .append, args := #[s, x], argTypes := #[52, 52] })
    (g n cap h : Nat) (t : TypeId) (cs : List Value) (v : Value) (hL : Lies w g t cs) (hv : w.cell? ⟨h, 0, none⟩ = some v) (h1 : v.oneCell' = true)
    (hs : a.eval s = .slice (some ⟨g, 0, none⟩) n cap) (hx : a.eval x = .slice (some ⟨h, 0, none⟩) 1 1) (hroom : n + 1 ≤ cap) (hcs : cs.length = cap)
    (hK : ∀ w', Lies w' g t (cs.set n v) → w.grownBy w' (some g) → wpList Tryz.prog ops Q rest (a.put o.dst (.slice (some ⟨g, 0, none⟩) (n + 1) cap)) w') : wpList Tryz.prog ops Q (o :: rest) a w := by
  refine wpList_plain hgd fun K hK' => ?_
  obtain ⟨i0, hi, hz0, hz1, hz2⟩ := info_parts infoByte
  have hrun := run_append_room_cells (P := Tryz.prog) w 52 o.type 5 i0 Tryz.underlying52 hi g 0 n cap ⟨h, 0, none⟩ 1 1 [v] (by simp [hz1])
    (fun j u hj => by
      have : j = 0 := by
        have := (List.getElem?_eq_some_iff.1 hj).1
        simp at this; omega
      subst this
      simp at hj
      subst hj
      exact hv)
    (by simpa using h1) hroom
    (fun j hj => by
      have hj0 : j = 0 := by simp at hj; exact hj
      subst hj0
      rw [hz1, hL.cell, List.getElem?_eq_getElem (by omega)]; rfl)
    (fun j hj => hL.free _)
  rw [hz1] at hrun
  unfold Oper.wp
  simp [execOp, ho, resolve, invoke, builtin, hs, hx, hrun, Result.andThen]
  refine hK' _ _ (hK _ ?_ ?_)
  · simp only [World.setCells]
    exact hL.put n v
  · refine ⟨rfl, rfl, rfl, by simp [World.setCells], fun k _ hne => ?_⟩
    simp only [World.setCells]
    exact Below.heap_setCell w _ v k (fun e => hne (by rw [e]))
theorem made_u8 (n : Nat) : madeCells (Value.cells (.int .u8 0)) n = (u8s (List.replicate n 0)).toArray := by
  apply Array.ext'
  apply List.ext_getElem
  · simp [madeCells, u8s, Value.cells]
  · intro i h1 h2
    simp [madeCells, u8s, Value.cells, Nat.mod_one]
theorem make_at (hgd : o.guard = none) (x y : Operand) (ho : o.op = .makeSlice 52 x y) (l c : Nat) (hx : a.eval x = .int .i64 l) (hy : a.eval y = .int .i64 c) (hlc : l ≤ c) (hc : c ≤ 281474976710656)
    (h : ∀ w', Lies w' w.heap.size 5 (u8s (List.replicate c 0)) → Below w.heap.size w w' → wpList Tryz.prog ops Q rest (a.put o.dst (.slice (some ⟨w.heap.size, 0, none⟩) l c)) w') : wpList Tryz.prog ops Q (o :: rest) a w := by
  refine wpList_plain hgd fun K hK => ?_
  obtain ⟨i0, hi, hz0, hz1, hz2⟩ := info_parts infoByte
  have hr := run_make (P := Tryz.prog) w 52 5 i0 (.int .u8 0) Tryz.underlying52 hi hz0 .i64 .i64 l c (by omega) (by omega) (by rw [hz2]; omega) (by omega)
  simp only [Int.toNat_natCast, hz1, Nat.mul_one, made_u8] at hr
  unfold Oper.wp
  rw [execOp, ho]
  simp [hx, hy, hr, Result.andThen]
  exact hK _ _ (h _ (Lies.made w _ _) ((Below.refl _ _).alloc (Nat.le_refl _) _))
end

/-- Cells of a block that was just laid. -/
theorem new_cells (w : World) (cs : Array Value) (t : TypeId) (j : Nat) (u : Value) (h : cs.toList[j]? = some u) : (w.alloc (.cells cs t)).cell? ((⟨w.heap.size, 0, none⟩ : Addr).add j) = some u := by
  rw [Addr.add_lit, Nat.zero_add, cell_of_row _ _ _ _ t (0, 0) (heap_alloc_new w _)]
  simpa using h

/-- A row of the call's own, as bytes that came in. -/
theorem own_arg {w : World} {base : Nat} {A : Option Addr} {n c : Nat} {q : List Nat} (h : w.ownsRow base 5 1 (.slice A n c) n (u8s q)) (hq : ∀ x ∈ q, x < 256) : q.length = n ∧ ArgIs w A c q := by
  have hl : q.length = n := by have := h.1; rw [u8s_length] at this; omega
  refine ⟨hl, ?_⟩
  rcases h.2 with ⟨e, h0⟩ | ⟨g, cap, cur, e, hb, hh, hc, hm, hs, ht⟩
  · have hc0 : c = 0 := by simpa using congrArg (fun v => match v with | Value.slice _ _ k => k | _ => 0) e
    exact ⟨by omega, by omega, hq, fun hp => by omega⟩
  · have hc0 : c = cap := by simpa using congrArg (fun v => match v with | Value.slice _ _ k => k | _ => 0) e
    have hA : A = some ⟨g, 0, none⟩ := by simpa using congrArg (fun v => match v with | Value.slice a _ _ => a | _ => none) e
    subst hc0 hA
    unfold maxLen at hm
    refine ⟨by omega, by omega, hq, fun hp => ⟨g, 0, rfl, ?_, fun j x hj => ⟨hq x (List.mem_of_getElem? hj), ?_⟩⟩⟩
    · rcases Nat.lt_or_ge g w.heap.size with hlt | hge
      · exact hlt
      · rw [Array.getElem?_eq_none hge] at hh; cases hh
    · have hj' : j < n := by have := (List.getElem?_eq_some_iff.1 hj).1; omega
      rw [Nat.zero_add, cell_of_row w g j cur _ _ hh]
      have e2 : cur.toList[j]? = (u8s q)[j]? := by rw [← ht, List.getElem?_take, if_pos (by omega)]
      rw [← Array.getElem?_toList, e2]
      simp [u8s, hj]

/-- A slice whose cells are these. -/
def Row (w : World) (A : Option Addr) (cs : List Value) : Prop :=
  0 < cs.length → ∃ b off, A = some ⟨b, off, none⟩ ∧ b < w.heap.size ∧ ∀ j v, cs[j]? = some v → w.cell? ⟨b, off + j, none⟩ = some v
section
variable {w w' : World} {A : Option Addr} {cs : List Value}
theorem Row.nil (w : World) (A : Option Addr) : Row w A [] := fun h => absurd h (Nat.lt_irrefl _)
theorem Row.below {B : Nat} (h : Row w A cs) (hb : Below B w w') (hB : w.heap.size ≤ B) : Row w' A cs := fun hp => by
  obtain ⟨b, off, e, hbw, hc⟩ := h hp
  exact ⟨b, off, e, Nat.lt_of_lt_of_le hbw hb.size, fun j v hj => (hb.cell (p := ⟨b, off + j, none⟩) (by show b < B; omega)).trans (hc j v hj)⟩
theorem Row.alloc (h : Row w A cs) (o : Obj) : Row (w.alloc o) A cs := h.below ((Below.refl w.heap.size w).alloc (Nat.le_refl _) o) (Nat.le_refl _)
theorem Row.take (h : Row w A cs) (n : Nat) : Row w A (cs.take n) := fun hp => by
  obtain ⟨b, off, e, hbw, hc⟩ := h (by rw [List.length_take] at hp; omega)
  refine ⟨b, off, e, hbw, fun j v hj => hc j v ?_⟩
  rw [List.getElem?_take] at hj
  split at hj
  · exact hj
  · cases hj
theorem Row.lies {g : Nat} {t : TypeId} (h : Lies w g t cs) : Row w (some ⟨g, 0, none⟩) cs := fun _ => ⟨g, 0, rfl, h.lt, fun j v hj => by rw [Nat.zero_add, h.cell j]; exact hj⟩
theorem Row.own {base : Nat} {e : TypeId} {size n c : Nat} (h : w.ownsRow base e size (.slice A n c) n cs) : Row w A cs := fun hp => by
  have hl := h.1
  rcases h.2 with ⟨e, h0⟩ | ⟨g, cap, cur, e, _, hh, _⟩
  · rw [h0, Nat.zero_mul] at hl; omega
  · have hA : A = some ⟨g, 0, none⟩ := by simpa using congrArg (fun v => match v with | Value.slice a _ _ => a | _ => none) e
    subst hA
    refine ⟨g, 0, rfl, (Array.getElem?_eq_some_iff.1 hh).1, fun j v hj => ?_⟩
    have := h.cells (g := g) rfl j v hj
    rwa [Addr.add_lit] at this
end

end Go.Proofs.YtndkangfnojpoaaGreatDoor

/-
  The library's functions at this program: where they stand in it.
-/
namespace Go.Proofs.YtndkangfnojpoaaGreatDoor
open Go.Shelf
def lays103_ren : Go.Shelf.Ren := ⟨fun | 103 => 72 | 210 => 89 | 206 => 103 | n => n, fun | 9 => 9 | 4 => 4 | 24 => 33 | 3 => 3 | n => n, fun | n => n⟩
theorem lays103 : Go.Proofs.Lays.n103 Tryz.prog lays103_ren := {
  mixed := by kernel_rfl
  f103 := Tryz.func72.trans (congrArg some (by kernel_rfl))
  f206 := Tryz.func103.trans (congrArg some (by kernel_rfl))
  f210 := Tryz.func89.trans (congrArg some (by kernel_rfl))
  t3 := Tryz.underlying3
  a3 := Tryz.isAgg3
  z3 := Tryz.sizeOf3
  v3 := Tryz.zeroValue3
  t4 := Tryz.underlying4
  a4 := Tryz.isAgg4
  z4 := Tryz.sizeOf4
  v4 := Tryz.zeroValue4
  t9 := Tryz.underlying9
  a9 := Tryz.isAgg9
  z9 := Tryz.sizeOf9
  v9 := Tryz.zeroValue9
  t24 := Tryz.underlying33
  a24 := Tryz.isAgg33
  z24 := Tryz.sizeOf33
  v24 := Tryz.zeroValue33 }
def laysM171_ren : Go.Shelf.Ren := ⟨fun | 171 => 49 | 243 => 67 | 246 => 87 | 283 => 99 | 284 => 100 | 285 => 101 | 286 => 102 | 129 => 114 | 317 => 113 | 318 => 115 | 319 => 116 | 320 => 117 | 337 => 126 | 338 => 127 | n => n, fun | 3 => 3 | 9 => 9 | 2 => 2 | 4 => 4 | 171 => 110 | 0 => 0 | 53 => 111 | 37 => 52 | 5 => 5 | 173 => 114 | 212 => 127 | 51 => 104 | 20 => 20 | 213 => 128 | 46 => 79 | 232 => 144 | 233 => 145 | n => n, fun | 17 => 2 | 18 => 6 | 19 => 7 | n => n⟩
theorem laysM171 : Go.Proofs.LaysM.n171 Tryz.prog laysM171_ren := {
  mixed := by kernel_rfl
  f129 := Tryz.func114.trans (congrArg some (by kernel_rfl))
  f171 := Tryz.func49.trans (congrArg some (by kernel_rfl))
  f243 := Tryz.func67.trans (congrArg some (by kernel_rfl))
  f246 := Tryz.func87.trans (congrArg some (by kernel_rfl))
  f283 := Tryz.func99.trans (congrArg some (by kernel_rfl))
  f284 := Tryz.func100.trans (congrArg some (by kernel_rfl))
  f285 := Tryz.func101.trans (congrArg some (by kernel_rfl))
  f286 := Tryz.func102.trans (congrArg some (by kernel_rfl))
  f317 := Tryz.func113.trans (congrArg some (by kernel_rfl))
  f318 := Tryz.func115.trans (congrArg some (by kernel_rfl))
  f319 := Tryz.func116.trans (congrArg some (by kernel_rfl))
  f320 := Tryz.func117.trans (congrArg some (by kernel_rfl))
  f337 := Tryz.func126.trans (congrArg some (by kernel_rfl))
  f338 := Tryz.func127.trans (congrArg some (by kernel_rfl))
  t0 := Tryz.underlying0
  a0 := Tryz.isAgg0
  z0 := Tryz.sizeOf0
  v0 := Tryz.zeroValue0
  t2 := Tryz.underlying2
  a2 := Tryz.isAgg2
  z2 := Tryz.sizeOf2
  v2 := Tryz.zeroValue2
  t3 := Tryz.underlying3
  a3 := Tryz.isAgg3
  z3 := Tryz.sizeOf3
  v3 := Tryz.zeroValue3
  t4 := Tryz.underlying4
  a4 := Tryz.isAgg4
  z4 := Tryz.sizeOf4
  v4 := Tryz.zeroValue4
  t5 := Tryz.underlying5
  a5 := Tryz.isAgg5
  z5 := Tryz.sizeOf5
  v5 := Tryz.zeroValue5
  t9 := Tryz.underlying9
  a9 := Tryz.isAgg9
  z9 := Tryz.sizeOf9
  v9 := Tryz.zeroValue9
  t20 := Tryz.underlying20
  a20 := Tryz.isAgg20
  z20 := Tryz.sizeOf20
  v20 := Tryz.zeroValue20
  t37 := Tryz.underlying52
  a37 := Tryz.isAgg52
  z37 := Tryz.sizeOf52
  v37 := Tryz.zeroValue52
  t46 := Tryz.underlying79
  a46 := Tryz.isAgg79
  z46 := Tryz.sizeOf79
  v46 := Tryz.zeroValue79
  t51 := Tryz.underlying104
  a51 := Tryz.isAgg104
  z51 := Tryz.sizeOf104
  v51 := Tryz.zeroValue104
  t53 := Tryz.underlying111
  a53 := Tryz.isAgg111
  z53 := Tryz.sizeOf111
  v53 := Tryz.zeroValue111
  t171 := Tryz.underlying110
  a171 := Tryz.isAgg110
  z171 := Tryz.sizeOf110
  v171 := Tryz.zeroValue110
  t173 := Tryz.underlying114
  a173 := Tryz.isAgg114
  z173 := Tryz.sizeOf114
  v173 := Tryz.zeroValue114
  t212 := Tryz.underlying127
  a212 := Tryz.isAgg127
  z212 := Tryz.sizeOf127
  v212 := Tryz.zeroValue127
  t213 := Tryz.underlying128
  a213 := Tryz.isAgg128
  z213 := Tryz.sizeOf128
  t232 := Tryz.underlying144
  a232 := Tryz.isAgg144
  z232 := Tryz.sizeOf144
  v232 := Tryz.zeroValue144
  t233 := Tryz.underlying145
  a233 := Tryz.isAgg145
  z233 := Tryz.sizeOf145
  v233 := Tryz.zeroValue145
  g17 := by kernel_rfl
  g18 := by kernel_rfl
  g19 := by kernel_rfl
  i0 := by kernel_rfl
  i2 := by kernel_rfl
  i3 := by kernel_rfl
  i4 := by kernel_rfl
  i5 := by kernel_rfl
  i9 := by kernel_rfl
  i20 := by kernel_rfl
  i37 := by kernel_rfl
  i46 := by kernel_rfl
  i51 := by kernel_rfl
  i53 := by kernel_rfl
  i171 := by kernel_rfl
  i173 := by kernel_rfl
  i212 := by kernel_rfl
  i232 := by kernel_rfl
  i233 := by kernel_rfl
  m17 := by kernel_rfl
  m18 := by kernel_rfl
  m19 := by kernel_rfl }
def laysC172_ren : Go.Shelf.Ren := ⟨fun | 172 => 81 | 244 => 94 | 245 => 95 | 247 => 107 | 279 => 108 | 280 => 109 | 281 => 110 | 282 => 111 | 287 => 119 | 316 => 120 | 171 => 49 | 205 => 121 | 321 => 129 | 322 => 130 | 243 => 67 | 246 => 87 | 283 => 99 | 284 => 100 | 285 => 101 | 286 => 102 | 129 => 114 | 317 => 113 | 318 => 115 | 319 => 116 | 320 => 117 | 337 => 126 | 338 => 127 | n => n, fun | 9 => 9 | 3 => 3 | 75 => 87 | 76 => 88 | 4 => 4 | 5 => 5 | 167 => 118 | 37 => 52 | 0 => 0 | 85 => 119 | 2 => 2 | 168 => 121 | 53 => 111 | 175 => 130 | 46 => 79 | 210 => 133 | 127 => 140 | 145 => 143 | 143 => 141 | 21 => 21 | 171 => 110 | 173 => 114 | 212 => 127 | 51 => 104 | 20 => 20 | 213 => 128 | 232 => 144 | 233 => 145 | 80 => 72 | n => n, fun | 15 => 3 | 16 => 4 | 17 => 2 | 18 => 6 | 19 => 7 | n => n⟩
theorem laysC172 : Go.Proofs.LaysC.n172 Tryz.prog laysC172_ren := {
  mixed := by kernel_rfl
  f129 := Tryz.func114.trans (congrArg some (by kernel_rfl))
  f171 := Tryz.func49.trans (congrArg some (by kernel_rfl))
  f172 := Tryz.func81.trans (congrArg some (by kernel_rfl))
  f205 := Tryz.func121.trans (congrArg some (by kernel_rfl))
  f243 := Tryz.func67.trans (congrArg some (by kernel_rfl))
  f244 := Tryz.func94.trans (congrArg some (by kernel_rfl))
  f245 := Tryz.func95.trans (congrArg some (by kernel_rfl))
  f246 := Tryz.func87.trans (congrArg some (by kernel_rfl))
  f247 := Tryz.func107.trans (congrArg some (by kernel_rfl))
  f279 := Tryz.func108.trans (congrArg some (by kernel_rfl))
  f280 := Tryz.func109.trans (congrArg some (by kernel_rfl))
  f281 := Tryz.func110.trans (congrArg some (by kernel_rfl))
  f282 := Tryz.func111.trans (congrArg some (by kernel_rfl))
  f283 := Tryz.func99.trans (congrArg some (by kernel_rfl))
  f284 := Tryz.func100.trans (congrArg some (by kernel_rfl))
  f285 := Tryz.func101.trans (congrArg some (by kernel_rfl))
  f286 := Tryz.func102.trans (congrArg some (by kernel_rfl))
  f287 := Tryz.func119.trans (congrArg some (by kernel_rfl))
  f316 := Tryz.func120.trans (congrArg some (by kernel_rfl))
  f317 := Tryz.func113.trans (congrArg some (by kernel_rfl))
  f318 := Tryz.func115.trans (congrArg some (by kernel_rfl))
  f319 := Tryz.func116.trans (congrArg some (by kernel_rfl))
  f320 := Tryz.func117.trans (congrArg some (by kernel_rfl))
  f321 := Tryz.func129.trans (congrArg some (by kernel_rfl))
  f322 := Tryz.func130.trans (congrArg some (by kernel_rfl))
  f337 := Tryz.func126.trans (congrArg some (by kernel_rfl))
  f338 := Tryz.func127.trans (congrArg some (by kernel_rfl))
  t0 := Tryz.underlying0
  a0 := Tryz.isAgg0
  z0 := Tryz.sizeOf0
  v0 := Tryz.zeroValue0
  t2 := Tryz.underlying2
  a2 := Tryz.isAgg2
  z2 := Tryz.sizeOf2
  v2 := Tryz.zeroValue2
  t3 := Tryz.underlying3
  a3 := Tryz.isAgg3
  z3 := Tryz.sizeOf3
  v3 := Tryz.zeroValue3
  t4 := Tryz.underlying4
  a4 := Tryz.isAgg4
  z4 := Tryz.sizeOf4
  v4 := Tryz.zeroValue4
  t5 := Tryz.underlying5
  a5 := Tryz.isAgg5
  z5 := Tryz.sizeOf5
  v5 := Tryz.zeroValue5
  t9 := Tryz.underlying9
  a9 := Tryz.isAgg9
  z9 := Tryz.sizeOf9
  v9 := Tryz.zeroValue9
  t20 := Tryz.underlying20
  a20 := Tryz.isAgg20
  z20 := Tryz.sizeOf20
  v20 := Tryz.zeroValue20
  t21 := Tryz.underlying21
  a21 := Tryz.isAgg21
  z21 := Tryz.sizeOf21
  v21 := Tryz.zeroValue21
  t37 := Tryz.underlying52
  a37 := Tryz.isAgg52
  z37 := Tryz.sizeOf52
  v37 := Tryz.zeroValue52
  t46 := Tryz.underlying79
  a46 := Tryz.isAgg79
  z46 := Tryz.sizeOf79
  v46 := Tryz.zeroValue79
  t51 := Tryz.underlying104
  a51 := Tryz.isAgg104
  z51 := Tryz.sizeOf104
  v51 := Tryz.zeroValue104
  t53 := Tryz.underlying111
  a53 := Tryz.isAgg111
  z53 := Tryz.sizeOf111
  v53 := Tryz.zeroValue111
  t75 := Tryz.underlying87
  a75 := Tryz.isAgg87
  z75 := Tryz.sizeOf87
  v75 := Tryz.zeroValue87
  t76 := Tryz.underlying88
  a76 := Tryz.isAgg88
  z76 := Tryz.sizeOf88
  v76 := Tryz.zeroValue88
  t85 := Tryz.underlying119
  a85 := Tryz.isAgg119
  z85 := Tryz.sizeOf119
  v85 := Tryz.zeroValue119
  t127 := Tryz.underlying140
  a127 := Tryz.isAgg140
  z127 := Tryz.sizeOf140
  v127 := Tryz.zeroValue140
  t143 := Tryz.underlying141
  a143 := Tryz.isAgg141
  z143 := Tryz.sizeOf141
  v143 := Tryz.zeroValue141
  t145 := Tryz.underlying143
  a145 := Tryz.isAgg143
  z145 := Tryz.sizeOf143
  v145 := Tryz.zeroValue143
  t167 := Tryz.underlying118
  a167 := Tryz.isAgg118
  z167 := Tryz.sizeOf118
  v167 := Tryz.zeroValue118
  t168 := Tryz.underlying121
  a168 := Tryz.isAgg121
  z168 := Tryz.sizeOf121
  v168 := Tryz.zeroValue121
  t171 := Tryz.underlying110
  a171 := Tryz.isAgg110
  z171 := Tryz.sizeOf110
  v171 := Tryz.zeroValue110
  t173 := Tryz.underlying114
  a173 := Tryz.isAgg114
  z173 := Tryz.sizeOf114
  v173 := Tryz.zeroValue114
  t175 := Tryz.underlying130
  a175 := Tryz.isAgg130
  z175 := Tryz.sizeOf130
  v175 := Tryz.zeroValue130
  t210 := Tryz.underlying133
  a210 := Tryz.isAgg133
  z210 := Tryz.sizeOf133
  v210 := Tryz.zeroValue133
  t212 := Tryz.underlying127
  a212 := Tryz.isAgg127
  z212 := Tryz.sizeOf127
  v212 := Tryz.zeroValue127
  t213 := Tryz.underlying128
  a213 := Tryz.isAgg128
  z213 := Tryz.sizeOf128
  t232 := Tryz.underlying144
  a232 := Tryz.isAgg144
  z232 := Tryz.sizeOf144
  v232 := Tryz.zeroValue144
  t233 := Tryz.underlying145
  a233 := Tryz.isAgg145
  z233 := Tryz.sizeOf145
  v233 := Tryz.zeroValue145
  g15 := by kernel_rfl
  g16 := by kernel_rfl
  g17 := by kernel_rfl
  g18 := by kernel_rfl
  g19 := by kernel_rfl
  t80 := Tryz.underlying72
  a80 := Tryz.isAgg72
  z80 := Tryz.sizeOf72
  v80 := Tryz.zeroValue72
  i0 := by kernel_rfl
  i2 := by kernel_rfl
  i3 := by kernel_rfl
  i4 := by kernel_rfl
  i5 := by kernel_rfl
  i9 := by kernel_rfl
  i20 := by kernel_rfl
  i21 := by kernel_rfl
  i37 := by kernel_rfl
  i46 := by kernel_rfl
  i51 := by kernel_rfl
  i53 := by kernel_rfl
  i75 := by kernel_rfl
  i76 := by kernel_rfl
  i80 := by kernel_rfl
  i85 := by kernel_rfl
  i127 := by kernel_rfl
  i143 := by kernel_rfl
  i145 := by kernel_rfl
  i167 := by kernel_rfl
  i168 := by kernel_rfl
  i171 := by kernel_rfl
  i173 := by kernel_rfl
  i175 := by kernel_rfl
  i210 := by kernel_rfl
  i212 := by kernel_rfl
  i232 := by kernel_rfl
  i233 := by kernel_rfl
  m15 := by kernel_rfl
  m16 := by kernel_rfl
  m17 := by kernel_rfl
  m18 := by kernel_rfl
  m19 := by kernel_rfl
  c0 := by kernel_rfl
  c2 := by kernel_rfl
  c3 := by kernel_rfl
  c4 := by kernel_rfl
  c5 := by kernel_rfl
  c9 := by kernel_rfl
  c20 := by kernel_rfl
  c21 := by kernel_rfl
  c37 := by kernel_rfl
  c46 := by kernel_rfl
  c51 := by kernel_rfl
  c53 := by kernel_rfl
  c75 := by kernel_rfl
  c76 := by kernel_rfl
  c80 := by kernel_rfl
  c85 := by kernel_rfl
  c127 := by kernel_rfl
  c143 := by kernel_rfl
  c145 := by kernel_rfl
  c167 := by kernel_rfl
  c168 := by kernel_rfl
  c171 := by kernel_rfl
  c173 := by kernel_rfl
  c175 := by kernel_rfl
  c210 := by kernel_rfl
  c212 := by kernel_rfl
  c213 := by kernel_rfl
  c232 := by kernel_rfl
  c233 := by kernel_rfl }
def lays121_ren : Go.Shelf.Ren := ⟨fun | 121 => 48 | 214 => 66 | n => n, fun | 4 => 4 | 9 => 9 | n => n, fun | n => n⟩
theorem lays121 : Go.Proofs.Lays.n121 Tryz.prog lays121_ren := {
  mixed := by kernel_rfl
  f121 := Tryz.func48.trans (congrArg some (by kernel_rfl))
  f214 := Tryz.func66.trans (congrArg some (by kernel_rfl))
  t4 := Tryz.underlying4
  a4 := Tryz.isAgg4
  z4 := Tryz.sizeOf4
  v4 := Tryz.zeroValue4
  t9 := Tryz.underlying9
  a9 := Tryz.isAgg9
  z9 := Tryz.sizeOf9
  v9 := Tryz.zeroValue9 }
def lays161_ren : Go.Shelf.Ren := ⟨fun | 161 => 61 | 231 => 82 | 227 => 83 | 233 => 84 | 235 => 85 | 228 => 96 | 197 => 91 | 151 => 97 | 260 => 104 | 152 => 112 | 137 => 122 | 119 => 123 | 224 => 124 | 225 => 125 | 217 => 131 | 266 => 132 | n => n, fun | 9 => 9 | 4 => 4 | 3 => 3 | 5 => 5 | 117 => 93 | 116 => 92 | 0 => 0 | 124 => 96 | 105 => 105 | 21 => 21 | 119 => 100 | 46 => 79 | 139 => 103 | 138 => 102 | n => n, fun | 3 => 0 | 4 => 1 | n => n⟩
theorem lays161 : Go.Proofs.Lays.n161 Tryz.prog lays161_ren := {
  mixed := by kernel_rfl
  f119 := Tryz.func123.trans (congrArg some (by kernel_rfl))
  f137 := Tryz.func122.trans (congrArg some (by kernel_rfl))
  f151 := Tryz.func97.trans (congrArg some (by kernel_rfl))
  f152 := Tryz.func112.trans (congrArg some (by kernel_rfl))
  f161 := Tryz.func61.trans (congrArg some (by kernel_rfl))
  f197 := Tryz.func91.trans (congrArg some (by kernel_rfl))
  f217 := Tryz.func131.trans (congrArg some (by kernel_rfl))
  f224 := Tryz.func124.trans (congrArg some (by kernel_rfl))
  f225 := Tryz.func125.trans (congrArg some (by kernel_rfl))
  f227 := Tryz.func83.trans (congrArg some (by kernel_rfl))
  f228 := Tryz.func96.trans (congrArg some (by kernel_rfl))
  f231 := Tryz.func82.trans (congrArg some (by kernel_rfl))
  f233 := Tryz.func84.trans (congrArg some (by kernel_rfl))
  f235 := Tryz.func85.trans (congrArg some (by kernel_rfl))
  f260 := Tryz.func104.trans (congrArg some (by kernel_rfl))
  f266 := Tryz.func132.trans (congrArg some (by kernel_rfl))
  t0 := Tryz.underlying0
  a0 := Tryz.isAgg0
  z0 := Tryz.sizeOf0
  v0 := Tryz.zeroValue0
  t3 := Tryz.underlying3
  a3 := Tryz.isAgg3
  z3 := Tryz.sizeOf3
  v3 := Tryz.zeroValue3
  t4 := Tryz.underlying4
  a4 := Tryz.isAgg4
  z4 := Tryz.sizeOf4
  v4 := Tryz.zeroValue4
  t5 := Tryz.underlying5
  a5 := Tryz.isAgg5
  z5 := Tryz.sizeOf5
  v5 := Tryz.zeroValue5
  t9 := Tryz.underlying9
  a9 := Tryz.isAgg9
  z9 := Tryz.sizeOf9
  v9 := Tryz.zeroValue9
  t21 := Tryz.underlying21
  a21 := Tryz.isAgg21
  z21 := Tryz.sizeOf21
  v21 := Tryz.zeroValue21
  t46 := Tryz.underlying79
  a46 := Tryz.isAgg79
  z46 := Tryz.sizeOf79
  v46 := Tryz.zeroValue79
  t105 := Tryz.underlying105
  a105 := Tryz.isAgg105
  z105 := Tryz.sizeOf105
  v105 := Tryz.zeroValue105
  t116 := Tryz.underlying92
  a116 := Tryz.isAgg92
  z116 := Tryz.sizeOf92
  t117 := Tryz.underlying93
  a117 := Tryz.isAgg93
  z117 := Tryz.sizeOf93
  v117 := Tryz.zeroValue93
  t119 := Tryz.underlying100
  a119 := Tryz.isAgg100
  z119 := Tryz.sizeOf100
  t124 := Tryz.underlying96
  a124 := Tryz.isAgg96
  z124 := Tryz.sizeOf96
  v124 := Tryz.zeroValue96
  t138 := Tryz.underlying102
  a138 := Tryz.isAgg102
  z138 := Tryz.sizeOf102
  v138 := Tryz.zeroValue102
  t139 := Tryz.underlying103
  a139 := Tryz.isAgg103
  z139 := Tryz.sizeOf103
  v139 := Tryz.zeroValue103
  g3 := by kernel_rfl
  g4 := by kernel_rfl }
def lays242_ren : Go.Shelf.Ren := ⟨fun | 242 => 74 | 278 => 90 | n => n, fun | 37 => 52 | 21 => 21 | 51 => 104 | 4 => 4 | 5 => 5 | 46 => 79 | n => n, fun | n => n⟩
theorem lays242 : Go.Proofs.Lays.n242 Tryz.prog lays242_ren := {
  mixed := by kernel_rfl
  f242 := Tryz.func74.trans (congrArg some (by kernel_rfl))
  f278 := Tryz.func90.trans (congrArg some (by kernel_rfl))
  t4 := Tryz.underlying4
  a4 := Tryz.isAgg4
  z4 := Tryz.sizeOf4
  v4 := Tryz.zeroValue4
  t5 := Tryz.underlying5
  a5 := Tryz.isAgg5
  z5 := Tryz.sizeOf5
  v5 := Tryz.zeroValue5
  t21 := Tryz.underlying21
  a21 := Tryz.isAgg21
  z21 := Tryz.sizeOf21
  v21 := Tryz.zeroValue21
  t37 := Tryz.underlying52
  a37 := Tryz.isAgg52
  z37 := Tryz.sizeOf52
  v37 := Tryz.zeroValue52
  t46 := Tryz.underlying79
  a46 := Tryz.isAgg79
  z46 := Tryz.sizeOf79
  v46 := Tryz.zeroValue79
  t51 := Tryz.underlying104
  a51 := Tryz.isAgg104
  z51 := Tryz.sizeOf104
  v51 := Tryz.zeroValue104 }
def lays197_ren : Go.Shelf.Ren := ⟨fun | 197 => 91 | 260 => 104 | n => n, fun | 9 => 9 | 21 => 21 | 3 => 3 | 4 => 4 | 5 => 5 | 105 => 105 | 119 => 100 | 0 => 0 | 46 => 79 | 139 => 103 | 138 => 102 | n => n, fun | 3 => 0 | 4 => 1 | n => n⟩
theorem lays197 : Go.Proofs.Lays.n197 Tryz.prog lays197_ren := {
  mixed := by kernel_rfl
  f197 := Tryz.func91.trans (congrArg some (by kernel_rfl))
  f260 := Tryz.func104.trans (congrArg some (by kernel_rfl))
  t0 := Tryz.underlying0
  a0 := Tryz.isAgg0
  z0 := Tryz.sizeOf0
  v0 := Tryz.zeroValue0
  t3 := Tryz.underlying3
  a3 := Tryz.isAgg3
  z3 := Tryz.sizeOf3
  v3 := Tryz.zeroValue3
  t4 := Tryz.underlying4
  a4 := Tryz.isAgg4
  z4 := Tryz.sizeOf4
  v4 := Tryz.zeroValue4
  t5 := Tryz.underlying5
  a5 := Tryz.isAgg5
  z5 := Tryz.sizeOf5
  v5 := Tryz.zeroValue5
  t9 := Tryz.underlying9
  a9 := Tryz.isAgg9
  z9 := Tryz.sizeOf9
  v9 := Tryz.zeroValue9
  t21 := Tryz.underlying21
  a21 := Tryz.isAgg21
  z21 := Tryz.sizeOf21
  v21 := Tryz.zeroValue21
  t46 := Tryz.underlying79
  a46 := Tryz.isAgg79
  z46 := Tryz.sizeOf79
  v46 := Tryz.zeroValue79
  t105 := Tryz.underlying105
  a105 := Tryz.isAgg105
  z105 := Tryz.sizeOf105
  v105 := Tryz.zeroValue105
  t119 := Tryz.underlying100
  a119 := Tryz.isAgg100
  z119 := Tryz.sizeOf100
  t138 := Tryz.underlying102
  a138 := Tryz.isAgg102
  z138 := Tryz.sizeOf102
  v138 := Tryz.zeroValue102
  t139 := Tryz.underlying103
  a139 := Tryz.isAgg103
  z139 := Tryz.sizeOf103
  v139 := Tryz.zeroValue103
  g3 := by kernel_rfl
  g4 := by kernel_rfl }
def lays196_ren : Go.Shelf.Ren := ⟨fun | 196 => 68 | 259 => 88 | n => n, fun | 9 => 9 | 4 => 4 | 3 => 3 | 5 => 5 | 12 => 12 | 119 => 100 | 0 => 0 | 46 => 79 | 139 => 103 | 138 => 102 | 53 => 111 | n => n, fun | 3 => 0 | 4 => 1 | n => n⟩
theorem lays196 : Go.Proofs.Lays.n196 Tryz.prog lays196_ren := {
  mixed := by kernel_rfl
  f196 := Tryz.func68.trans (congrArg some (by kernel_rfl))
  f259 := Tryz.func88.trans (congrArg some (by kernel_rfl))
  t0 := Tryz.underlying0
  a0 := Tryz.isAgg0
  z0 := Tryz.sizeOf0
  v0 := Tryz.zeroValue0
  t3 := Tryz.underlying3
  a3 := Tryz.isAgg3
  z3 := Tryz.sizeOf3
  v3 := Tryz.zeroValue3
  t4 := Tryz.underlying4
  a4 := Tryz.isAgg4
  z4 := Tryz.sizeOf4
  v4 := Tryz.zeroValue4
  t5 := Tryz.underlying5
  a5 := Tryz.isAgg5
  z5 := Tryz.sizeOf5
  v5 := Tryz.zeroValue5
  t9 := Tryz.underlying9
  a9 := Tryz.isAgg9
  z9 := Tryz.sizeOf9
  v9 := Tryz.zeroValue9
  t12 := Tryz.underlying12
  a12 := Tryz.isAgg12
  z12 := Tryz.sizeOf12
  v12 := Tryz.zeroValue12
  t46 := Tryz.underlying79
  a46 := Tryz.isAgg79
  z46 := Tryz.sizeOf79
  v46 := Tryz.zeroValue79
  t53 := Tryz.underlying111
  a53 := Tryz.isAgg111
  z53 := Tryz.sizeOf111
  v53 := Tryz.zeroValue111
  t119 := Tryz.underlying100
  a119 := Tryz.isAgg100
  z119 := Tryz.sizeOf100
  t138 := Tryz.underlying102
  a138 := Tryz.isAgg102
  z138 := Tryz.sizeOf102
  v138 := Tryz.zeroValue102
  t139 := Tryz.underlying103
  a139 := Tryz.isAgg103
  z139 := Tryz.sizeOf103
  v139 := Tryz.zeroValue103
  g3 := by kernel_rfl
  g4 := by kernel_rfl }
def lays109_ren : Go.Shelf.Ren := ⟨fun | 109 => 33 | n => n, fun | 31 => 22 | 9 => 9 | 3 => 3 | 0 => 0 | 4 => 4 | n => n, fun | n => n⟩
theorem lays109 : Go.Proofs.Lays.n109 Tryz.prog lays109_ren := {
  mixed := by kernel_rfl
  f109 := Tryz.func33.trans (congrArg some (by kernel_rfl))
  t0 := Tryz.underlying0
  a0 := Tryz.isAgg0
  z0 := Tryz.sizeOf0
  v0 := Tryz.zeroValue0
  t3 := Tryz.underlying3
  a3 := Tryz.isAgg3
  z3 := Tryz.sizeOf3
  v3 := Tryz.zeroValue3
  t4 := Tryz.underlying4
  a4 := Tryz.isAgg4
  z4 := Tryz.sizeOf4
  v4 := Tryz.zeroValue4
  t9 := Tryz.underlying9
  a9 := Tryz.isAgg9
  z9 := Tryz.sizeOf9
  v9 := Tryz.zeroValue9
  t31 := Tryz.underlying22
  a31 := Tryz.isAgg22
  z31 := Tryz.sizeOf22
  v31 := Tryz.zeroValue22 }
def lays110_ren : Go.Shelf.Ren := ⟨fun | 110 => 70 | 109 => 33 | n => n, fun | 31 => 22 | 9 => 9 | 4 => 4 | 3 => 3 | 0 => 0 | n => n, fun | n => n⟩
theorem lays110 : Go.Proofs.Lays.n110 Tryz.prog lays110_ren := {
  mixed := by kernel_rfl
  f109 := Tryz.func33.trans (congrArg some (by kernel_rfl))
  f110 := Tryz.func70.trans (congrArg some (by kernel_rfl))
  t0 := Tryz.underlying0
  a0 := Tryz.isAgg0
  z0 := Tryz.sizeOf0
  v0 := Tryz.zeroValue0
  t3 := Tryz.underlying3
  a3 := Tryz.isAgg3
  z3 := Tryz.sizeOf3
  v3 := Tryz.zeroValue3
  t4 := Tryz.underlying4
  a4 := Tryz.isAgg4
  z4 := Tryz.sizeOf4
  v4 := Tryz.zeroValue4
  t9 := Tryz.underlying9
  a9 := Tryz.isAgg9
  z9 := Tryz.sizeOf9
  v9 := Tryz.zeroValue9
  t31 := Tryz.underlying22
  a31 := Tryz.isAgg22
  z31 := Tryz.sizeOf22
  v31 := Tryz.zeroValue22 }
def lays193_ren : Go.Shelf.Ren := ⟨fun | 193 => 44 | n => n, fun | 31 => 22 | 9 => 9 | 4 => 4 | 3 => 3 | 0 => 0 | n => n, fun | n => n⟩
theorem lays193 : Go.Proofs.Lays.n193 Tryz.prog lays193_ren := {
  mixed := by kernel_rfl
  f193 := Tryz.func44.trans (congrArg some (by kernel_rfl))
  t0 := Tryz.underlying0
  a0 := Tryz.isAgg0
  z0 := Tryz.sizeOf0
  v0 := Tryz.zeroValue0
  t3 := Tryz.underlying3
  a3 := Tryz.isAgg3
  z3 := Tryz.sizeOf3
  v3 := Tryz.zeroValue3
  t4 := Tryz.underlying4
  a4 := Tryz.isAgg4
  z4 := Tryz.sizeOf4
  v4 := Tryz.zeroValue4
  t9 := Tryz.underlying9
  a9 := Tryz.isAgg9
  z9 := Tryz.sizeOf9
  v9 := Tryz.zeroValue9
  t31 := Tryz.underlying22
  a31 := Tryz.isAgg22
  z31 := Tryz.sizeOf22
  v31 := Tryz.zeroValue22 }
end Go.Proofs.YtndkangfnojpoaaGreatDoor

/-
  Texts as lists of numbers: bytes at a place, beginnings and ends; bytes as a text.
-/
namespace Go.Proofs.YtndkangfnojpoaaGreatDoor
open Go.RowKit

theorem ret_bool {a b : Bool} (h : a = b) : Ending.returned (.bool a) = .returned (.bool b) := by rw [h]
theorem nums_at (s : ByteArray) (k : Nat) (h : k < s.size) : (numsOf s).getD k 0 = s[k].toNat := by
  have h' : k < s.data.toList.length := by simpa using h
  rw [List.getD_eq_getElem?_getD, numsOf, List.getElem?_map, List.getElem?_eq_getElem h']
  rfl
theorem nums_end (s : ByteArray) (k : Nat) (h : s.size ≤ k) : (numsOf s).getD k 0 = 0 := by
  rw [List.getD_eq_getElem?_getD, List.getElem?_eq_none (by rw [numsOf_length]; exact h)]
  rfl
theorem nums_lt (s : ByteArray) (k : Nat) : (numsOf s).getD k 0 < 256 := by
  by_cases h : k < s.size
  · rw [nums_at s k h]; exact s[k].toNat_lt
  · rw [nums_end s k (by omega)]; decide
theorem nums_extract (s : ByteArray) (i j : Nat) : numsOf (s.extract i j) = ((numsOf s).take j).drop i := by
  unfold numsOf
  rw [ByteArray.data_extract, Array.toList_extract]
  simp only [List.extract, List.map_drop, List.map_take]
  rw [List.drop_take]
theorem nums_from (s : ByteArray) (i : Nat) : numsOf (s.extract i s.size) = (numsOf s).drop i := by
  rw [nums_extract, List.take_of_length_le (by rw [numsOf_length]; exact Nat.le_refl _)]
theorem rep_lt (n : Nat) : ∀ x ∈ List.replicate n 0, x < 256 := fun x hx => by rw [List.mem_replicate] at hx; omega
theorem snoc_lt {T : List Nat} {x : Nat} (h : ∀ y ∈ T, y < 256) (hx : x < 256) : ∀ y ∈ T ++ [x], y < 256 := fun y hy => by
  rcases List.mem_append.1 hy with hy | hy
  · exact h y hy
  · simp at hy; omega
theorem conv_str {w : World} {A : Option Addr} {c : Nat} {q : List Nat} (h : ArgIs w A c q) : (convert 52 9 (.slice A q.length c)).run Tryz.prog w = .ok (.string (strOf q)) w :=
  conv_any h _ 5 _ Tryz.underlying52 Tryz.underlying5 Tryz.underlying9
theorem take_lt {l : List Nat} (h : ∀ x ∈ l, x < 256) (k : Nat) : ∀ x ∈ l.take k, x < 256 := fun x hx => h x (List.mem_of_mem_take hx)
theorem drop_lt {l : List Nat} (h : ∀ x ∈ l, x < 256) (k : Nat) : ∀ x ∈ l.drop k, x < 256 := fun x hx => h x (List.mem_of_mem_drop hx)
theorem eq_strOf {s : ByteArray} {l : List Nat} (h : numsOf s = l) : s = strOf l := by rw [← h, strOf_numsOf]
theorem nums_to (s : ByteArray) (i : Nat) : numsOf (s.extract 0 i) = (numsOf s).take i := by rw [nums_extract, List.drop_zero]
theorem prefix_beq (s : ByteArray) (p : List Nat) (hp : ∀ x ∈ p, x < 256) : (decide ((strOf p).size ≤ s.size) && ((s.extract 0 (strOf p).size).toList == (strOf p).toList)) = decide ((numsOf s).take p.length = p) := by
  rw [eq_strOf (nums_to s (strOf p).size), str_beq (take_lt (numsOf_lt s) _) hp, strOf_size]
  by_cases h : (numsOf s).take p.length = p
  · have := congrArg List.length h
    rw [List.length_take, numsOf_length] at this
    rw [decide_eq_true h, decide_eq_true (by omega)]; rfl
  · rw [decide_eq_false h, Bool.and_false]
theorem nums_nil (s : ByteArray) : numsOf s = [] ↔ s.size = 0 := by rw [← numsOf_length, List.length_eq_zero_iff]
theorem nums_head (s : ByteArray) (c : Nat) (hc : c ≠ 0) : ((numsOf s).head? = some c) ↔ (numsOf s).getD 0 0 = c := by
  cases h : numsOf s with
  | nil => simp; omega
  | cons a r => simp
end Go.Proofs.YtndkangfnojpoaaGreatDoor

/-
  A reader in memory; what a step of the reader may change; what the library's variables hold; how a step ends.
-/
namespace Go.Proofs.YtndkangfnojpoaaGreatDoor
open Go.RowKit

/-- What is read of the library's variables. -/
def Held (w : World) : Prop :=
  Lib.TabIs Tryz.prog w "internal/strconv.uint64pow10" .u64 Lib.pow10Tab ∧ (∃ tp p, w.var? Tryz.prog "strconv.ErrSyntax" = some #[.iface tp p]) ∧ (∃ tp p, w.var? Tryz.prog "strconv.ErrRange" = some #[.iface tp p]) ∧ Lib.Utf8Tabs 0 1 w
theorem var_below {n : String} {g : Nat} {cs : Array Value} {w w' : World} (hg : Tryz.prog.globalNamed n = some g) (h : w.var? Tryz.prog n = some cs) (hb : Below w.heap.size w w') : w'.var? Tryz.prog n = some cs := by
  unfold World.var? at h ⊢
  rw [hg] at h ⊢
  simp only [Option.bind_some] at h ⊢
  have hlt : g < w.heap.size := by
    rcases Nat.lt_or_ge g w.heap.size with h' | h'
    · exact h'
    · rw [Array.getElem?_eq_none h'] at h; cases h
  rw [hb.block g hlt]
  exact h
theorem Held.below {w w' : World} (h : Held w) (hb : Below w.heap.size w w') : Held w' := by
  obtain ⟨h1, ⟨a, b, h2⟩, ⟨c, d, h3⟩, h4⟩ := h
  exact ⟨var_below (g := 2) (by kernel_rfl) h1 hb, ⟨a, b, var_below (g := 3) (by kernel_rfl) h2 hb⟩, ⟨c, d, var_below (g := 4) (by kernel_rfl) h3 hb⟩, Utf8Tabs_below h4 hb⟩

theorem gb_trans {w w1 w2 : World} {r : Option Nat} (h1 : w.grownBy w1 r) (h2 : w1.grownBy w2 r) : w.grownBy w2 r :=
  ⟨h2.os.trans h1.os, h2.tape.trans h1.tape, h2.output.trans h1.output, Nat.le_trans h1.size h2.size, fun k hk hr => (h2.block k (Nat.lt_of_lt_of_le hk h1.size) hr).trans (h1.block k hk hr)⟩
theorem gb_below {w w' : World} {r : Option Nat} (h : Below w.heap.size w w') : w.grownBy w' r := ⟨h.os, h.tape, h.output, h.size, fun k hk _ => h.block k hk⟩
theorem gb_set (w : World) (R i : Nat) (v : Value) : w.grownBy (w.setCell ⟨R, i, none⟩ v) (some R) :=
  ⟨rfl, rfl, rfl, by simp [World.setCell], fun k _ hne => Below.heap_setCell w _ v k (fun e => hne (by rw [e]))⟩
theorem gb_down {w w' : World} {R B : Nat} (h : w.grownBy w' (some R)) (hB : B ≤ w.heap.size) (hR : B ≤ R) : Below B w w' :=
  ⟨h.os, h.tape, h.output, h.size, fun k hk => h.block k (Nat.lt_of_lt_of_le hk hB) (fun e => by injection e with e; omega)⟩

/-- A reader in memory: what is still to be read, how many lists are open. W: the world in which the reading began. -/
structure Rd (W : World) (R : Nat) (s : ByteArray) (d : Nat) (w : World) : Prop where
  held : Held W
  below : Below W.heap.size W w
  le : W.heap.size ≤ R
  lies : Lies w R 46 [.string s, .int .i64 (d : Int)]
  small : s.size ≤ 4096
  deep : d ≤ 16
section
variable {W w w' : World} {R d : Nat} {s s' : ByteArray}
theorem Rd.cells (h : Rd W R s d w) : w.cell? ⟨R, 0, none⟩ = some (.string s) ∧ w.cell? ⟨R, 1, none⟩ = some (.int .i64 (d : Int)) ∧ w.frozen? ⟨R, 0, none⟩ = false ∧ w.frozen? ⟨R, 1, none⟩ = false :=
  ⟨h.lies.cell 0, h.lies.cell 1, h.lies.free 0, h.lies.free 1⟩
theorem Rd.heldW (h : Rd W R s d w) : Held w := h.held.below h.below
theorem Rd.set0 (h : Rd W R s d w) (hs : s'.size ≤ 4096) : Rd W R s' d (w.setCell ⟨R, 0, none⟩ (.string s')) :=
  ⟨h.held, h.below.setCell h.le _, h.le, by have := h.lies.put 0 (.string s'); simpa using this, hs, h.deep⟩
theorem Rd.set1 (h : Rd W R s d w) {d' : Nat} (hd : d' ≤ 16) : Rd W R s d' (w.setCell ⟨R, 1, none⟩ (.int .i64 (d' : Int))) :=
  ⟨h.held, h.below.setCell h.le _, h.le, by have := h.lies.put 1 (.int .i64 (d' : Int)); simpa using this, h.small, hd⟩
theorem Rd.lt (h : Rd W R s d w) : R < w.heap.size := h.lies.lt
theorem Rd.more (h : Rd W R s d w) (hb : Below w.heap.size w w') : Rd W R s d w' :=
  ⟨h.held, h.below.trans (hb.mono h.below.size), h.le, h.lies.below hb h.lt, h.small, h.deep⟩
end

/-- The panic with an error's number. -/
abbrev errEnd (n : Nat) : Ending := .panicked [{ v := .iface 26 (.int .i64 (n : Int)), recovered := false }]
/-- How a step of the reader ends: with a value and what is left to read, or with an error. -/
def Ends {α : Type} (W : World) (R d : Nat) (w : World) (val : α → Value → World → Prop) (res : Jq.R α) (e : Ending) (w' : World) : Prop :=
  match res with
  | .ok (x, r) => ∃ v s', e = .returned v ∧ val x v w' ∧ numsOf s' = r ∧ Rd W R s' d w' ∧ w.grownBy w' (some R)
  | .error n => e = errEnd n ∧ w.grownBy w' (some R)
theorem Ends.ok {α : Type} {W : World} {R d : Nat} {w : World} {val : α → Value → World → Prop} {res : Jq.R α} {x : α} {r : List Nat} {v : Value} {s' : ByteArray} {w' : World}
    (h : res = .ok (x, r)) (hv : val x v w') (hr : numsOf s' = r) (hR : Rd W R s' d w') (hg : w.grownBy w' (some R)) : Ends W R d w val res (.returned v) w' := by
  rw [h]; exact ⟨v, s', rfl, hv, hr, hR, hg⟩
theorem Ends.err {α : Type} {W : World} {R d : Nat} {w : World} {val : α → Value → World → Prop} {res : Jq.R α} {n : Nat} {w' : World}
    (h : res = .error n) (hg : w.grownBy w' (some R)) : Ends W R d w val res (errEnd n) w' := by
  rw [h]; exact ⟨rfl, hg⟩
end Go.Proofs.YtndkangfnojpoaaGreatDoor

/-
  The library's functions at readers: TrimLeft, CutPrefix, Atoi on digits, DecodeRuneInString, AppendRune.
-/
namespace Go.Proofs.YtndkangfnojpoaaGreatDoor
open Go.RowKit

theorem nums_mk (l : List UInt8) : numsOf ⟨l.toArray⟩ = l.map fun u : UInt8 => u.toNat := rfl
theorem nums_data (s : ByteArray) : numsOf s = Uq.nums s.data.toList := rfl
theorem drop_nums (p : UInt8 → Bool) (q : Nat → Bool) (h : ∀ u : UInt8, q u.toNat = p u) (l : List UInt8) : (l.dropWhile p).map (fun u : UInt8 => u.toNat) = (l.map fun u : UInt8 => u.toNat).dropWhile q := by
  rw [List.dropWhile_map]
  congr 2
  funext u
  exact (h u).symm

abbrev blankB : ByteArray := { data := #[32, 9, 10, 13] }
abbrev digitB : ByteArray := { data := #[48, 49, 50, 51, 52, 53, 54, 55, 56, 57] }
theorem byte_all {p q : UInt8 → Bool} (h : ∀ n : Fin 256, p (UInt8.ofNat n.val) = q (UInt8.ofNat n.val)) (u : UInt8) : p u = q u := by
  have := h ⟨u.toNat, u.toNat_lt⟩
  simpa using this
set_option maxRecDepth 100000 in
theorem blank_byte (u : UInt8) : Jq.blank u.toNat = ([32, 9, 10, 13] : List UInt8).contains u :=
  byte_all (p := fun u => Jq.blank u.toNat) (q := fun u => ([32, 9, 10, 13] : List UInt8).contains u) (by decide) u
set_option maxRecDepth 100000 in
theorem digit_byte (u : UInt8) : Jq.dig u.toNat = ([48, 49, 50, 51, 52, 53, 54, 55, 56, 57] : List UInt8).contains u :=
  byte_all (p := fun u => Jq.dig u.toNat) (q := fun u => ([48, 49, 50, 51, 52, 53, 54, 55, 56, 57] : List UInt8).contains u) (by decide) u
theorem trimBlank_any (s : ByteArray) (w : World) :
    Calls Tryz.prog 61 #[.string s, .string blankB] w fun e w' => ∃ s', e = .returned (.string s') ∧ numsOf s' = Jq.skip (numsOf s) ∧ Below w.heap.size w w' := by
  refine (Any.strings_TrimLeft_laid (P := Tryz.prog) (ρ := lays161_ren) lays161 (by kernel_rfl) s blankB w (by decide) (ascii_of_all (by decide))).mono fun e w' ⟨he, hb⟩ => ⟨_, he, ?_, hb⟩
  rw [nums_mk]
  exact drop_nums _ _ (fun u => blank_byte u) _
theorem trimDigits_any (s : ByteArray) (w : World) :
    Calls Tryz.prog 61 #[.string s, .string digitB] w fun e w' => ∃ s', e = .returned (.string s') ∧ numsOf s' = (numsOf s).dropWhile Jq.dig ∧ Below w.heap.size w w' := by
  refine (Any.strings_TrimLeft_laid (P := Tryz.prog) (ρ := lays161_ren) lays161 (by kernel_rfl) s digitB w (by decide) (ascii_of_all (by decide))).mono fun e w' ⟨he, hb⟩ => ⟨_, he, ?_, hb⟩
  rw [nums_mk]
  exact drop_nums _ _ (fun u => digit_byte u) _

theorem cutPrefix_any (s p : ByteArray) (w : World) :
    Calls Tryz.prog 72 #[.string s, .string p] w fun e w' => w = w' ∧ ((∃ x, e = .returned (.tuple #[.string x, .bool true]) ∧ (numsOf s).take p.size = numsOf p ∧ x = s.extract p.size s.size) ∨ (e = .returned (.tuple #[.string s, .bool false]) ∧ (numsOf s).take p.size ≠ numsOf p)) := by
  refine (Any.strings_CutPrefix (P := Tryz.prog) (ρ := lays103_ren) lays103 s p w).mono fun e w' ⟨he, hw⟩ => ⟨hw.symm, ?_⟩
  have hp := prefix_beq s (numsOf p) (numsOf_lt p)
  rw [strOf_numsOf, numsOf_length] at hp
  rw [← Lib.hasPrefix_raw] at he
  by_cases h : (numsOf s).take p.size = numsOf p
  · left
    rw [decide_eq_true h] at hp
    obtain ⟨h1, h2⟩ := (Bool.and_eq_true _ _).mp hp
    rw [hp, Lib.trimPrefix_hit s p (of_decide_eq_true h1) h2] at he
    exact ⟨_, he, h, rfl⟩
  · right
    rw [decide_eq_false h] at hp
    rw [hp, Lib.trimPrefix_miss s p hp] at he
    exact ⟨he, h⟩

/-- How Atoi ends on digits alone. -/
def AtoiEnd (d : List Nat) (w : World) (e : Ending) (w' : World) : Prop :=
  Below w.heap.size w w' ∧ ((d ≠ [] ∧ Uq.val d < 9223372036854775808 ∧ e = .returned (.tuple #[.int .i64 (Uq.val d : Nat), .nilIface])) ∨ ((d = [] ∨ 9223372036854775808 ≤ Uq.val d) ∧ ∃ (v : Int) (t : TypeId) (p : Value), e = .returned (.tuple #[.int .i64 v, .iface t p])))
theorem atoi_any (s : ByteArray) (w : World) (hs : s.size ≤ 4096) (hd : ∀ c ∈ numsOf s, Jq.dig c = true) (hH : Held w) :
    Calls Tryz.prog 81 #[.string s] w fun e w' => AtoiEnd (numsOf s) w e w' := by
  obtain ⟨_, ⟨t1, p1, v1⟩, ⟨t2, p2, v2⟩, _⟩ := hH
  have bad : ∀ {x : Lib.NumEnd Int}, Lib.atoiAll s.data.toList = x → (∀ v, x ≠ .ok v) → numsOf s = [] ∨ 9223372036854775808 ≤ Uq.val (numsOf s) := fun {x} hx hn => by
    by_cases h0 : s.data.toList = []
    · exact .inl (by rw [nums_data, h0]; rfl)
    · rcases Jq.atoi_digits h0 hd with ⟨_, h2⟩ | ⟨h1, _⟩
      · exact absurd (hx.symm.trans h2) (hn _)
      · exact .inr h1
  cases h : Lib.atoiAll s.data.toList
  · rename_i v
    refine (Any.strconv_Atoi_ok (P := Tryz.prog) (ρ := laysC172_ren) laysC172 s (by omega) v h w).mono fun e w' ⟨he, hw⟩ => ⟨?_, .inl ?_⟩
    · rcases hw with rfl | ⟨t, rfl⟩
      · exact Below.refl _ _
      · exact Lib.bytesWorld_below _ _ _
    · by_cases h0 : s.data.toList = []
      · rw [h0] at h; cases h
      · refine ⟨fun e => h0 (by rw [nums_data] at e; simpa [Uq.nums] using e), ?_⟩
        rcases Jq.atoi_digits h0 hd with ⟨h1, h2⟩ | ⟨_, h2⟩
        · rw [h] at h2
          injection h2 with h2
          subst h2
          exact ⟨h1, he⟩
        · exact absurd h (h2 v)
  · exact (Any.strconv_Atoi_syntax_var (P := Tryz.prog) (ρ := laysC172_ren) laysC172 s (by omega) h t1 p1 w v1).mono fun e w' ⟨N, he, _, _, hb⟩ => ⟨hb, .inr ⟨bad h (fun v e => by cases e), _, _, _, he⟩⟩
  · exact (Any.strconv_Atoi_range_var (P := Tryz.prog) (ρ := laysC172_ren) laysC172 s (by omega) h t2 p2 w v2).mono fun e w' ⟨N, he, _, _, hb⟩ => ⟨hb, .inr ⟨bad h (fun v e => by cases e), _, _, _, he⟩⟩

theorem decodeRune_any (s : ByteArray) (w : World) (hH : Held w) :
    Calls Tryz.prog 91 #[.string s] w fun e w' => ∃ c k : Nat, e = .returned (.tuple #[.int .i32 (c : Int), .int .i64 (k : Int)]) ∧ ((s.size = 0 ∧ c = 65533 ∧ k = 0) ∨ (s.size ≠ 0 ∧ Jq.DecAs (numsOf s) (c, k))) ∧ Below w.heap.size w w' := by
  refine (Any.utf8_DecodeRuneInString (P := Tryz.prog) (ρ := lays197_ren) lays197 s w hH.2.2.2).mono fun e w' ⟨he, hb⟩ => ⟨_, _, he, ?_, hb⟩
  by_cases h0 : s.size = 0
  · left
    unfold Lib.decodeGo
    rw [if_pos h0]
    exact ⟨h0, rfl, rfl⟩
  · right
    refine ⟨h0, ?_⟩
    have hne : s.data.toList ≠ [] := fun h => h0 (by rw [Lib.size_eq, h]; rfl)
    have h := Jq.decodeL_as s.data.toList hne
    unfold Lib.decodeGo
    rw [if_neg h0]
    exact h

theorem rune_cells {r : Nat} (h : Jq.okRune r = true) : Lib.runeCells (r : Int) = u8s (Jq.runeBytes r) := by
  unfold Jq.okRune at h
  simp only [Bool.and_eq_true, Bool.or_eq_true, decide_eq_true_eq] at h
  unfold Lib.runeCells Jq.runeBytes u8s
  by_cases h1 : r < 128
  · rw [if_pos h1, Lib.encodeRuneZ_one (by omega) (by omega)]; rfl
  rw [if_neg h1]
  by_cases h2 : r < 2048
  · rw [if_pos h2, Lib.encodeRuneZ_two (by omega) (by omega)]; simp
  rw [if_neg h2]
  by_cases h3 : r < 65536
  · rw [if_pos h3, Lib.encodeRuneZ_three (by omega)]; simp
  rw [if_neg h3, Lib.encodeRuneZ_four (by omega) (by omega)]; simp
theorem appendRune_any (B : Nat) (v : Value) (q : List Nat) (r : Nat) (hr : Jq.okRune r = true) (w : World) (hown : w.ownsRow B 5 1 v q.length (u8s q)) (hq : q.length ≤ 1048576) (hB : B ≤ w.heap.size) :
    Calls Tryz.prog 74 #[v, .int .i32 (r : Int)] w fun e w' => ∃ v', e = .returned v' ∧ w'.ownsRow B 5 1 v' (q ++ Jq.runeBytes r).length (u8s (q ++ Jq.runeBytes r)) ∧ w.grownBy w' v.ownBlock := by
  have hle : r ≤ 1114111 := by
    unfold Jq.okRune at hr
    simp only [Bool.and_eq_true, decide_eq_true_eq] at hr
    exact hr.1
  refine (Any.utf8_AppendRune_plain (P := Tryz.prog) (ρ := lays242_ren) lays242 infoByte B v q.length (u8s q) r (by omega) (by omega) w hown (by omega) hB).mono fun e w' ⟨v', he, ho, o, hg⟩ => ⟨v', he, ?_, ?_⟩
  · rw [rune_cells hr] at ho
    rw [List.length_append, u8s_append, ← u8s_length (Jq.runeBytes r)]
    exact ho
  · exact gb_trans (World.grownBy_alloc w o _) hg
end Go.Proofs.YtndkangfnojpoaaGreatDoor

/-
  The reader's small steps: space, next, pass, takes, must.
-/
namespace Go.Proofs.YtndkangfnojpoaaGreatDoor
open Go.RowKit

set_option maxHeartbeats 1000000 in
theorem space_any (W : World) (R d : Nat) (s : ByteArray) (w : World) (h : Rd W R s d w) :
    Calls Tryz.prog 37 #[.pointer (some ⟨R, 0, none⟩)] w fun e w' => e = .returned (.tuple #[]) ∧ ∃ s', numsOf s' = Jq.skip (numsOf s) ∧ Rd W R s' d w' ∧ w.grownBy w' (some R) := by
  obtain ⟨c0, _, f0, _⟩ := h.cells
  have hT := trimBlank_any s
  go_enter Tryz.func37, Tryz.ntmps37
  go_wp2_with fail
  refine (hT _).mono ?_
  rintro e w1 ⟨s1, rfl, hs1, hb⟩
  have h1 := h.more hb
  obtain ⟨d0, _, e0, _⟩ := h1.cells
  have HS := Lib.hid hs1
  clear hs1 hT c0 f0
  go_wp2
  go_end0
  have hsz : s1.size ≤ 4096 := by
    have := Jq.skip_len (numsOf s)
    rw [← HS.out, numsOf_length, numsOf_length] at this
    have := h.small
    omega
  exact ⟨rfl, s1, HS.out, h1.set0 hsz, gb_trans (gb_below hb) (gb_set _ _ _ _)⟩

set_option maxHeartbeats 1000000 in
theorem next_any (W : World) (R d : Nat) (s : ByteArray) (w : World) (h : Rd W R s d w) :
    Calls Tryz.prog 55 #[.pointer (some ⟨R, 0, none⟩)] w fun e w' => e = .returned (.int .u8 ((numsOf s).getD 0 0 : Nat)) ∧ w = w' := by
  obtain ⟨c0, _, f0, _⟩ := h.cells
  by_cases h0 : s.size = 0
  · have HX := Lib.hid (nums_end s 0 (by omega))
    have he : s.toList.isEmpty = true := by
      rw [ByteArray.toList_eq, List.isEmpty_iff]
      exact List.eq_nil_of_length_eq_zero (by rw [Array.length_toList]; exact h0)
    have he2 : s.toList = [] := List.isEmpty_iff.1 he
    go_enter Tryz.func55, Tryz.ntmps55
    go_wp2
    go_ret
    exact ⟨ret_int (by rw [HX.out]; rfl), rfl⟩
  · have hlt : 0 < s.size := by omega
    have HX := Lib.hid (nums_at s 0 hlt)
    have he : s.toList.isEmpty = false := by
      rw [ByteArray.toList_eq]
      cases hh : s.data.toList with
      | nil => exact absurd (by have := congrArg List.length hh; rw [Array.length_toList] at this; exact this) h0
      | cons a r => rfl
    have he2 : ¬ (s.toList = []) := fun e => by rw [e] at he; cases he
    go_enter Tryz.func55, Tryz.ntmps55
    go_wp2
    go_ret
    exact ⟨ret_int (by rw [HX.out]), rfl⟩

set_option maxHeartbeats 1000000 in
theorem pass_any (W : World) (R d : Nat) (s : ByteArray) (w : World) (h : Rd W R s d w) (h0 : 0 < s.size) :
    Calls Tryz.prog 73 #[.pointer (some ⟨R, 0, none⟩)] w fun e w' => e = .returned (.tuple #[]) ∧ ∃ s', numsOf s' = (numsOf s).drop 1 ∧ Rd W R s' d w' ∧ w.grownBy w' (some R) := by
  obtain ⟨c0, _, f0, _⟩ := h.cells
  have hsm := h.small
  go_enter Tryz.func73, Tryz.ntmps73
  go_wp2
  go_end0
  exact ⟨rfl, _, nums_from s 1, h.set0 (by rw [← numsOf_length, nums_from, List.length_drop, numsOf_length]; omega), gb_set _ _ _ _⟩
end Go.Proofs.YtndkangfnojpoaaGreatDoor

/-
  The reader's takes, must and word.
-/
namespace Go.Proofs.YtndkangfnojpoaaGreatDoor
open Go.RowKit

theorem byte_ne {a b : Nat} (h : a ≠ b) : ((a : Int) != (b : Int)) = true := by
  rw [bne_iff_ne]; omega
theorem byte_eq {a b : Nat} (h : a = b) : ((a : Int) != (b : Int)) = false := by
  subst h; simp
theorem head_pos {s : ByteArray} {c : Nat} (h : (numsOf s).head? = some c) : 0 < s.size := by
  rw [← numsOf_length]
  cases hh : numsOf s with
  | nil => rw [hh] at h; cases h
  | cons a r => simp

set_option maxHeartbeats 2000000 in
theorem takes_any (W : World) (R d : Nat) (s : ByteArray) (w : World) (c : Nat) (hc : c ≠ 0) (h : Rd W R s d w) :
    Calls Tryz.prog 93 #[.pointer (some ⟨R, 0, none⟩), .int .u8 (c : Int)] w fun e w' =>
      ∃ s', Rd W R s' d w' ∧ w.grownBy w' (some R) ∧ (((Jq.skip (numsOf s)).head? = some c ∧ e = .returned (.bool true) ∧ numsOf s' = (Jq.skip (numsOf s)).drop 1) ∨ ((Jq.skip (numsOf s)).head? ≠ some c ∧ e = .returned (.bool false) ∧ numsOf s' = Jq.skip (numsOf s))) := by
  have hS := space_any W R d s w h
  have hN := fun s' w' (h' : Rd W R s' d w') => next_any W R d s' w' h'
  have hP := fun s' w' (h' : Rd W R s' d w') => pass_any W R d s' w' h'
  go_enter Tryz.func93, Tryz.ntmps93
  go_wp2_with fail
  refine hS.mono ?_
  rintro e w1 ⟨rfl, s1, hs1, h1, hg1⟩
  clear hS
  have HS := Lib.hid hs1
  have hh := nums_head s1 c hc
  rw [hs1] at hh
  have hN1 := hN s1 w1 h1
  obtain ⟨x, ex⟩ : ∃ x, (numsOf s1).getD 0 0 = x := ⟨_, rfl⟩
  rw [ex] at hN1
  rw [← hs1, ex] at hh
  clear hs1 ex hN
  by_cases hx : x = c
  · have hhd : (numsOf s1).head? = some c := hh.2 hx
    have hpos := head_pos hhd
    have hP1 := hP s1 w1 h1 hpos
    have hd := byte_eq hx
    have HH := Lib.hid hhd
    clear hh hP hhd hx
    go_wp2_with fail
    refine hN1.mono ?_
    rintro e w2 ⟨rfl, rfl⟩
    clear hN1
    go_wp2_with fail
    refine hP1.mono ?_
    rintro e w2 ⟨rfl, s2, hs2, h2, hg2⟩
    clear hP1
    have HS2 := Lib.hid hs2
    clear hs2
    go_wp2
    go_ret
    exact ⟨s2, h2, gb_trans hg1 hg2, .inl ⟨by rw [← HS.out]; exact HH.out, rfl, by rw [HS2.out, HS.out]⟩⟩
  · have hd := byte_ne hx
    have HH : Hid ((numsOf s1).head? ≠ some c) := fun e => hx (hh.1 e)
    clear hh hP hx
    go_wp2_with fail
    refine hN1.mono ?_
    rintro e w2 ⟨rfl, rfl⟩
    clear hN1
    go_wp2
    go_ret
    exact ⟨s1, h1, hg1, .inr ⟨by rw [← HS.out]; exact HH.out, rfl, HS.out⟩⟩

/-- Past a sign that has to be there. -/
def mustP (c : Nat) (l : List Nat) : Jq.R Unit := if (Jq.skip l).head? = some c then .ok ((), (Jq.skip l).drop 1) else .error 51

set_option maxHeartbeats 2000000 in
theorem must_any (W : World) (R d : Nat) (s : ByteArray) (w : World) (c : Nat) (hc : c ≠ 0) (h : Rd W R s d w) :
    Calls Tryz.prog 80 #[.pointer (some ⟨R, 0, none⟩), .int .u8 (c : Int)] w fun e w' => Ends W R d w (fun _ v _ => v = .tuple #[]) (mustP c (numsOf s)) e w' := by
  have hT := takes_any W R d s w c hc h
  go_enter Tryz.func80, Tryz.ntmps80
  go_wp2_with fail
  refine hT.mono ?_
  rintro e w1 ⟨s1, h1, hg1, ⟨hh, rfl, hs1⟩ | ⟨hh, rfl, hs1⟩⟩
  · have HH : Hid (mustP c (numsOf s) = .ok ((), (Jq.skip (numsOf s)).drop 1)) := if_pos hh
    have HS := Lib.hid hs1
    clear hT hh hs1
    go_wp2
    go_end0
    exact Ends.ok HH.out rfl HS.out h1 hg1
  · have HH : Hid (mustP c (numsOf s) = .error 51) := if_neg hh
    clear hT hh hs1
    go_wp2
    exact ⟨rfl, Ends.err HH.out hg1⟩
end Go.Proofs.YtndkangfnojpoaaGreatDoor

/-
  Values in memory: what a value reads as; a struct of six cells.
-/
namespace Go.Proofs.YtndkangfnojpoaaGreatDoor
open Go.RowKit

/-- A value's six cells. -/
abbrev jv (k : Int) (b : Bool) (n : Int) (t : ByteArray) (names list : Value) : Value := .agg #[.int .i64 k, .bool b, .int .i64 n, .string t, names, list]
def jcells : Value → List Value
  | .agg cs => cs.toList
  | v => [v]
/-- A slice of n elements whose cells are these, in blocks of which ok speaks. -/
def SlIs (w : World) (ok : Nat → Prop) (v : Value) (n : Nat) (cs : List Value) : Prop :=
  ∃ A c, v = .slice A n c ∧ n ≤ c ∧ c ≤ 9223372036854775807 ∧ (0 < n → ∃ b off, A = some ⟨b, off, none⟩ ∧ ok b ∧ b < w.heap.size ∧ ∀ j x, cs[j]? = some x → w.cell? ⟨b, off + j, none⟩ = some x)
def tcells (l : List (List Nat)) : List Value := l.map fun p => .string (strOf p)
/-- What a value reads as, all its blocks such of which ok speaks. -/
inductive IsJ (w : World) (ok : Nat → Prop) : Value → Jq.J → Prop where
  | mk {k : Int} {b : Bool} {n : Int} {t : List Nat} {ns : List (List Nat)} {l : List Jq.J} {names list : Value} {vs : List Value}
      (hk : -9223372036854775808 ≤ k ∧ k ≤ 9223372036854775807) (hn : -9223372036854775808 ≤ n ∧ n ≤ 9223372036854775807)
      (ht : t.length ≤ 140737488355328 ∧ ∀ x ∈ t, x < 256)
      (hns : SlIs w ok names ns.length (tcells ns)) (hnt : ∀ p ∈ ns, p.length ≤ 140737488355328 ∧ ∀ x ∈ p, x < 256) (hnl : ns.length * 16 ≤ 140737488355328)
      (hl : SlIs w ok list l.length (vs.flatMap jcells)) (hvl : vs.length = l.length) (hll : l.length * 88 ≤ 140737488355328)
      (he : ∀ (i : Nat) v x, vs[i]? = some v → l[i]? = some x → IsJ w ok v x) : IsJ w ok (jv k b n (strOf t) names list) (.mk k b n t ns l)

theorem SlIs.nil (w : World) (ok : Nat → Prop) : SlIs w ok (.slice none 0 0) 0 [] := ⟨none, 0, rfl, Nat.le_refl _, by omega, fun h => absurd h (Nat.lt_irrefl _)⟩
theorem SlIs.keep {w w' : World} {ok ok' : Nat → Prop} {v : Value} {n : Nat} {cs : List Value} (h : SlIs w ok v n cs) (hk : ∀ b, ok b → b < w.heap.size → ok' b ∧ w'.heap[b]? = w.heap[b]?) (hs : w.heap.size ≤ w'.heap.size) : SlIs w' ok' v n cs := by
  obtain ⟨A, c, rfl, h1, h2, h3⟩ := h
  refine ⟨A, c, rfl, h1, h2, fun hn => ?_⟩
  obtain ⟨b, off, rfl, h4, h5, h6⟩ := h3 hn
  obtain ⟨k1, k2⟩ := hk b h4 h5
  exact ⟨b, off, rfl, k1, Nat.lt_of_lt_of_le h5 hs, fun j x hj => (World.cell?_of_block (a := ⟨b, off + j, none⟩) k2).trans (h6 j x hj)⟩
theorem IsJ.keep {w w' : World} {ok ok' : Nat → Prop} (hk : ∀ b, ok b → b < w.heap.size → ok' b ∧ w'.heap[b]? = w.heap[b]?) (hs : w.heap.size ≤ w'.heap.size) {v : Value} {x : Jq.J} (h : IsJ w ok v x) : IsJ w' ok' v x := by
  induction h with
  | mk h1 h2 h3 h4 h5 h6 h7 h8 h9 _ ih => exact .mk h1 h2 h3 (h4.keep hk hs) h5 h6 (h7.keep hk hs) h8 h9 ih
theorem IsJ.form {w : World} {ok : Nat → Prop} {v : Value} {x : Jq.J} (h : IsJ w ok v x) : ∃ A1 c1 A2 c2, v = jv x.kind x.bool x.int (strOf x.text) (.slice A1 x.names.length c1) (.slice A2 x.list.length c2) := by
  cases h with
  | mk h1 h2 h3 h4 h5 h6 h7 h8 h9 h10 =>
    obtain ⟨A1, c1, rfl, _⟩ := h4
    obtain ⟨A2, c2, rfl, _⟩ := h7
    exact ⟨A1, c1, A2, c2, rfl⟩
/-- What holds of blocks from B on holds of blocks from any lower one on. -/
theorem IsJ.from {w : World} {B C : Nat} {v : Value} {x : Jq.J} (h : IsJ w (B ≤ ·) v x) (hB : C ≤ B) : IsJ w (C ≤ ·) v x :=
  h.keep (fun _ hb _ => ⟨Nat.le_trans hB hb, rfl⟩) (Nat.le_refl _)
theorem isJ_plain (w : World) (ok : Nat → Prop) {k n : Int} {b : Bool} {t : List Nat} (hk : -9223372036854775808 ≤ k ∧ k ≤ 9223372036854775807) (hn : -9223372036854775808 ≤ n ∧ n ≤ 9223372036854775807)
    (ht : t.length ≤ 140737488355328 ∧ ∀ x ∈ t, x < 256) : IsJ w ok (jv k b n (strOf t) (.slice none 0 0) (.slice none 0 0)) (.mk k b n t [] []) :=
  .mk (vs := []) hk hn ht (SlIs.nil w ok) (fun _ h => nomatch h) (Nat.zero_le _) (SlIs.nil w ok) rfl (Nat.zero_le _) (fun i v x h => by simp at h)

/-- Six cells are written. -/
abbrev put6 (w : World) (g : Nat) (a b c d e f : Value) : World := (((((w.setCell ⟨g, 0, none⟩ a).setCell ⟨g, 1, none⟩ b).setCell ⟨g, 2, none⟩ c).setCell ⟨g, 3, none⟩ d).setCell ⟨g, 4, none⟩ e).setCell ⟨g, 5, none⟩ f
section
variable {w w' : World} {g : Nat} {ty : TypeId} {a b c d e f x0 x1 x2 x3 x4 x5 : Value}
theorem Lies.put6 (h : Lies w g ty [x0, x1, x2, x3, x4, x5]) : Lies (put6 w g a b c d e f) g ty [a, b, c, d, e, f] := by
  have := (((((h.put 0 a).put 1 b).put 2 c).put 3 d).put 4 e).put 5 f
  simpa using this
theorem Lies.six (h : Lies w g ty [a, b, c, d, e, f]) : (w.cell? ⟨g, 0, none⟩ = some a ∧ w.cell? ⟨g, 1, none⟩ = some b ∧ w.cell? ⟨g, 2, none⟩ = some c ∧ w.cell? ⟨g, 3, none⟩ = some d ∧ w.cell? ⟨g, 4, none⟩ = some e ∧ w.cell? ⟨g, 5, none⟩ = some f) ∧
    (w.frozen? ⟨g, 0, none⟩ = false ∧ w.frozen? ⟨g, 1, none⟩ = false ∧ w.frozen? ⟨g, 2, none⟩ = false ∧ w.frozen? ⟨g, 3, none⟩ = false ∧ w.frozen? ⟨g, 4, none⟩ = false ∧ w.frozen? ⟨g, 5, none⟩ = false) :=
  ⟨⟨h.cell 0, h.cell 1, h.cell 2, h.cell 3, h.cell 4, h.cell 5⟩, h.free 0, h.free 1, h.free 2, h.free 3, h.free 4, h.free 5⟩
theorem put6_far {k : Nat} (hk : k ≠ g) : (put6 w g a b c d e f).heap[k]? = w.heap[k]? := by
  rw [Below.heap_setCell _ _ _ _ hk, Below.heap_setCell _ _ _ _ hk, Below.heap_setCell _ _ _ _ hk, Below.heap_setCell _ _ _ _ hk, Below.heap_setCell _ _ _ _ hk, Below.heap_setCell _ _ _ _ hk]
theorem put6_size : (put6 w g a b c d e f).heap.size = w.heap.size := by simp [World.setCell]
theorem gb_put6 : w.grownBy (put6 w g a b c d e f) (some g) :=
  gb_trans (gb_trans (gb_trans (gb_trans (gb_trans (gb_set _ _ _ _) (gb_set _ _ _ _)) (gb_set _ _ _ _)) (gb_set _ _ _ _)) (gb_set _ _ _ _)) (gb_set _ _ _ _)
end
theorem IsJ.put6 {w : World} {g B : Nat} {a b c d e f v : Value} {x : Jq.J} (h : IsJ w (B ≤ ·) v x) (hg : g < B) : IsJ (put6 w g a b c d e f) (B ≤ ·) v x :=
  h.keep (fun k hk _ => ⟨hk, put6_far (by have : B ≤ k := hk; omega)⟩) (Nat.le_of_eq put6_size.symm)
/-- A cell of the call's own that the callee leaves alone, while it may write to block R. -/
theorem Lies.gb {w w' : World} {g R : Nat} {t : TypeId} {cs : List Value} (h : Lies w g t cs) (hb : w.grownBy w' (some R)) (hg : g ≠ R) : Lies w' g t cs := h.grown hb (by simpa using hg)
theorem Rd.gb {W w w' : World} {R d g : Nat} {s : ByteArray} (h : Rd W R s d w) (hb : w.grownBy w' (some g)) (hg : R ≠ g) (hW : W.heap.size ≤ g) : Rd W R s d w' :=
  ⟨h.held, h.below.trans (gb_down hb h.below.size hW), h.le, h.lies.gb hb hg, h.small, h.deep⟩
/-- What is written to a block that lies above is not told. -/
theorem gb_new {w w1 w2 : World} {R g : Nat} (h1 : w.grownBy w1 (some R)) (h2 : w1.grownBy w2 (some g)) (hg : w.heap.size ≤ g) : w.grownBy w2 (some R) :=
  ⟨h2.os.trans h1.os, h2.tape.trans h1.tape, h2.output.trans h1.output, Nat.le_trans h1.size h2.size, fun k hk hr => (h2.block k (Nat.lt_of_lt_of_le hk h1.size) (fun e => by injection e with e; omega)).trans (h1.block k hk hr)⟩
/-- A store into another block. -/
theorem own_far {w w' : World} {base : Nat} {e : TypeId} {size n : Nat} {v : Value} {xs : List Value} (h : w.ownsRow base e size v n xs) (hk : ∀ k, v.ownBlock = some k → w'.heap[k]? = w.heap[k]?) : w'.ownsRow base e size v n xs := by
  refine ⟨h.1, ?_⟩
  rcases h.2 with hn | ⟨g, cap, cur, rfl, hb, hg, rest⟩
  · exact .inl hn
  · exact .inr ⟨g, cap, cur, rfl, hb, (hk g rfl).trans hg, rest⟩
end Go.Proofs.YtndkangfnojpoaaGreatDoor
