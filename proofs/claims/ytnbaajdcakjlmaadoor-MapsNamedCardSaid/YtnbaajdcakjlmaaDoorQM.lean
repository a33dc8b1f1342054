/-
  QM: Mem JMem JText WBase, side by side.
-/
import Derived.WalkKit
import Derived.Deep.Draws
import Derived.Laws.Rows
import Derived.Laws.CopyOwn
import Derived.Test.YtnbaajdcakjlmaaDoorRows
import Derived.Test.YtnbaajdcakjlmaaDoorQP
import Derived.WalkSpells
import Derived.WalkLawsBesides
import Derived.Lib.Hide
import Derived.Deep.QuietTactic
import Derived.BigQuiet
import Derived.ArgAppend
import Derived.Laws.BytesArg
import Derived.Laws.MakeOwn
import Derived.Laws.AppendOwnNone
import Derived.Lib.Bytealg
import Derived.StillTailTactics
import Derived.Deep.AppendLies
import Derived.Deep.Cut
import Derived.Test.YtnbaajdcakjlmaaDoorQU
import Derived.Outline

/-
  Blocks that are known whole, as lists of cells; what stays as it was.
-/
namespace Go.Proofs.YtnbaajdcakjlmaaDoor
open Go.RowKit

/-- Block g holds just these cells, all of which may be written. -/
def Lies (w : World) (g : Nat) (t : TypeId) (cs : List Value) : Prop := w.heap[g]? = some (.cells cs.toArray t (0, 0))

section
variable {w w' : World} {g : Nat} {t : TypeId} {cs : List Value}
theorem Lies.lt (h : Lies w g t cs) : g < w.heap.size := by
  rcases Nat.lt_or_ge g w.heap.size with hlt | hge
  · exact hlt
  · unfold Lies at h; rw [Array.getElem?_eq_none hge] at h; cases h
theorem Lies.cell (h : Lies w g t cs) (i : Nat) : w.cell? ⟨g, i, none⟩ = cs[i]? := by
  have := cell_of_row w g i cs.toArray t (0, 0) h
  simpa using this
theorem Lies.free (h : Lies w g t cs) (i : Nat) : w.frozen? ⟨g, i, none⟩ = false := by
  unfold Lies at h
  simp [World.frozen?, h]
theorem Lies.made (w : World) (t : TypeId) (cs : List Value) : Lies (w.alloc (.cells cs.toArray t)) w.heap.size t cs := heap_alloc_new w _
theorem Lies.new_ (hg : g = w.heap.size) : Lies (w.alloc (.cells cs.toArray t)) g t cs := by subst hg; exact heap_alloc_new w _
theorem Lies.drew (h : Lies w g t cs) : Lies w.drew g t cs := h
theorem Lies.drewN (h : Lies w g t cs) (n : Nat) : Lies (w.drewN n) g t cs := h
theorem Lies.alloc (h : Lies w g t cs) (o : Obj) : Lies (w.alloc o) g t cs := (Below.heap_alloc w o g h.lt).trans h
theorem Lies.put (h : Lies w g t cs) (i : Nat) (u : Value) : Lies (w.setCell ⟨g, i, none⟩ u) g t (cs.set i u) := by
  unfold Lies at h ⊢
  simp [World.setCell, Array.getElem?_modify, h]
theorem Lies.row {cs' : List Value} (h : Lies w g t cs) : Lies (w.setRow g cs'.toArray) g t cs' := setRow_heap w g cs.toArray cs'.toArray t _ h
theorem Lies.farRow {g' : Nat} {a : Array Value} (h : Lies w g t cs) (hne : g' ≠ g) : Lies (w.setRow g' a) g t cs := (setRow_other w g' g a (by omega)).trans h
theorem Lies.far (h : Lies w g t cs) {p : Addr} (hp : g ≠ p.block) (u : Value) : Lies (w.setCell p u) g t cs := (Below.heap_setCell w p u g hp).trans h
theorem Lies.below {B : Nat} (h : Lies w g t cs) (hb : Below B w w') (hg : g < B) : Lies w' g t cs := (hb.block g hg).trans h
theorem Lies.grown {row : Option Nat} (h : Lies w g t cs) (hb : w.grownBy w' row) (hg : some g ≠ row) : Lies w' g t cs := (hb.block g h.lt hg).trans h
end

theorem below_row {B g : Nat} {w w' : World} {a : Array Value} (h : Below B w w') (hg : B ≤ g) : Below B w (w'.setRow g a) :=
  ⟨h.os, h.tape, h.output, by simpa using h.size, fun i hi => (setRow_other w' g i a (by omega)).trans (h.block i hi)⟩

section
variable {P : Program} {ops : Array Oper} {rest : List Oper} {o : Oper} {a : Act} {w : World} {Q : Exit → Act → World → Prop}
/-- A whole block is written. -/
theorem store_lies (hgd : o.guard = none) (ty : TypeId) (x y : Operand) (ho : o.op = .store ty x y)
    (g : Nat) (cells : List Value) (t : TypeId) (old : List Value) (hL : Lies w g t old) (hx : a.eval x = .pointer (some ⟨g, 0, none⟩)) (hy : a.eval y = .agg cells.toArray)
    (hi : (P.info? ty).map (·.size) = some old.length) (hl : old.length = cells.length) (h1 : cells.all (·.oneCell') = true)
    (h : wpList P ops Q rest (a.put o.dst undef) (w.setRow g cells.toArray)) : wpList P ops Q (o :: rest) a w :=
  wpList_store_row hgd ty x y ho g cells.toArray hx hy t old.toArray hL (by rw [hi, hl]; simp) (by simpa using hl) (by simpa using h1) h
/-- A whole block is read. -/
theorem load_lies (hgd : o.guard = none) (ty : TypeId) (x : Operand) (ho : o.op = .load ty x)
    (g : Nat) (t : TypeId) (cells : List Value) (d : TypeDesc) (hL : Lies w g t cells) (hx : a.eval x = .pointer (some ⟨g, 0, none⟩))
    (hu : P.underlying ty = some d) (hd : (match d with | .struct _ | .array _ _ => true | _ => false) = true) (hi : (P.info? ty).map (·.size) = some cells.length)
    (h : wpList P ops Q rest (a.put o.dst (.agg cells.toArray)) w) : wpList P ops Q (o :: rest) a w :=
  wpList_load_row hgd ty x ho g hx t cells.toArray (0, 0) d hL hu hd (by rw [hi]; simp) h
end

section
variable {P : Program} {w : World}
theorem run_copy_lies (dT sT ty elem : TypeId) (hu : P.underlying dT = some (.slice elem)) (hsz : (P.info? elem).map (·.size) = some 1)
    (dp sp : Option Addr) (dLen dCap sLen sCap : Nat) (g off : Nat) (cur : List Value) (t : TypeId) (hL : Lies w g t cur) (cs : List Value) (hn : cs.length = Nat.min sLen dLen)
    (hpos : 0 < cs.length → dp = some ⟨g, off, none⟩ ∧ ∃ ad, sp = some ad ∧ ∀ j v, cs[j]? = some v → w.cell? (ad.add j) = some v)
    (hfit : off + cs.length ≤ cur.length) (h1 : ∀ v ∈ cs, v.oneCell' = true) :
    ∃ w', (Builtin.copy_ #[dT, sT] ty #[.slice dp dLen dCap, .slice sp sLen sCap]).run P w = .ok (goInt cs.length) w' ∧ Lies w' g t (splice cur off cs) ∧ w.grownBy w' (some g) := by
  by_cases h0 : cs.length = 0
  · obtain rfl : cs = [] := List.eq_nil_of_length_eq_zero h0
    have hrun := run_copy_none (P := P) w dT sT ty elem dp sp dLen dCap sLen sCap hu hsz (by simpa using hn.symm)
    exact ⟨w, hrun, by simpa [splice] using hL, World.grownBy.refl w _⟩
  · obtain ⟨rfl, ad, rfl, hsrc⟩ := hpos (by omega)
    have hrun := run_copy_row (P := P) w dT sT ty elem g off dLen dCap ad sLen sCap cur.toArray t cs hu hsz hL hn hsrc (by simpa using hfit) h1
    refine ⟨_, hrun, ?_, ⟨rfl, rfl, rfl, by simp, fun i _ hne => setRow_other w g i _ (by rintro rfl; exact hne rfl)⟩⟩
    have e : (List.take off cur.toArray.toList ++ cs ++ List.drop (off + cs.length) cur.toArray.toList) = splice cur off cs := by simp [splice]
    rw [e]
    exact setRow_heap w g _ (splice cur off cs).toArray t _ hL
variable {ops : Array Oper} {rest : List Oper} {o : Oper} {a : Act} {Q : Exit → Act → World → Prop} {K : Act → World → Prop} {E : Prop}
/-- copy into a block that is known whole. -/
theorem copy_lies (hgd : o.guard = none) (d s : Operand) (dT sT : TypeId)
    (ho : o.op = .call { callee := .builtin .copy, args := #[d, s], argTypes := #[dT, sT] }) (elem : TypeId) (hu : P.underlying dT = some (.slice elem)) (hsz : (P.info? elem).map (·.size) = some 1)
    (g off : Nat) (cur : List Value) (t : TypeId) (hL : Lies w g t cur) (cs : List Value)
    (dp sp : Option Addr) (dLen dCap sLen sCap : Nat) (hd : a.eval d = .slice dp dLen dCap) (hs : a.eval s = .slice sp sLen sCap) (hn : cs.length = Nat.min sLen dLen)
    (hpos : 0 < cs.length → dp = some ⟨g, off, none⟩ ∧ ∃ ad, sp = some ad ∧ ∀ j v, cs[j]? = some v → w.cell? (ad.add j) = some v)
    (hfit : off + cs.length ≤ cur.length) (h1 : ∀ v ∈ cs, v.oneCell' = true)
    (h : ∀ w', Lies w' g t (splice cur off cs) → w.grownBy w' (some g) → wpList P ops Q rest (a.put o.dst (goInt cs.length)) w') :
    wpList P ops Q (o :: rest) a w := by
  refine wpList_plain hgd fun K hK => ?_
  obtain ⟨w', hrun, h2, h3⟩ := run_copy_lies (P := P) (w := w) dT sT o.type elem hu hsz dp sp dLen dCap sLen sCap g off cur t hL cs hn hpos hfit h1
  unfold Oper.wp
  simp [execOp, ho, resolve, invoke, builtin, hd, hs, hrun, Result.andThen]
  exact hK _ _ (h w' h2 h3)
/-- The same in a region that draws its order. -/
theorem step_copy_lies (hgd : o.guard = none) (d s : Operand) (dT sT : TypeId)
    (ho : o.op = .call { callee := .builtin .copy, args := #[d, s], argTypes := #[dT, sT] }) (elem : TypeId) (hu : P.underlying dT = some (.slice elem)) (hsz : (P.info? elem).map (·.size) = some 1)
    (g off : Nat) (cur : List Value) (t : TypeId) (hL : Lies w g t cur) (cs : List Value)
    (dp sp : Option Addr) (dLen dCap sLen sCap : Nat) (hd : a.eval d = .slice dp dLen dCap) (hs : a.eval s = .slice sp sLen sCap) (hn : cs.length = Nat.min sLen dLen)
    (hpos : 0 < cs.length → dp = some ⟨g, off, none⟩ ∧ ∃ ad, sp = some ad ∧ ∀ j v, cs[j]? = some v → w.cell? (ad.add j) = some v)
    (hfit : off + cs.length ≤ cur.length) (h1 : ∀ v ∈ cs, v.oneCell' = true)
    (h : ∀ w', Lies w' g t (splice cur off cs) → w.grownBy w' (some g) → K (a.put o.dst (goInt cs.length)) w') :
    if Region.wanted o (yielded ops a.tmps) = true then Oper.wp P o a w K Q else E := by
  have hw : Region.wanted o (yielded ops a.tmps) = true := by simp [Region.wanted, hgd]
  rw [if_pos hw]
  obtain ⟨w', hrun, h2, h3⟩ := run_copy_lies (P := P) (w := w) dT sT o.type elem hu hsz dp sp dLen dCap sLen sCap g off cur t hL cs hn hpos hfit h1
  unfold Oper.wp
  simp [execOp, ho, resolve, invoke, builtin, hd, hs, hrun, Result.andThen]
  exact h w' h2 h3
end

/-- These bytes lie from here on. -/
def BytesAt (w : World) (b off : Nat) (p : List Nat) : Prop := ∀ (j x : Nat), p[j]? = some x → x < 256 ∧ w.cell? ⟨b, off + j, none⟩ = some (.int .u8 (x : Int))

section
variable {w w' : World} {b off : Nat} {p : List Nat}
theorem BytesAt.get (h : BytesAt w b off p) {j : Nat} (hj : j < p.length) : w.cell? ⟨b, off + j, none⟩ = some (.int .u8 (p.getD j 0 : Nat)) := by
  have := (h j p[j] (List.getElem?_eq_getElem hj)).2
  rw [this, List.getD_eq_getElem?_getD, List.getElem?_eq_getElem hj]; rfl
theorem BytesAt.lt (h : BytesAt w b off p) (j : Nat) : p.getD j 0 < 256 := by
  rw [List.getD_eq_getElem?_getD]
  cases e : p[j]? with
  | none => simp
  | some x => exact (h j x e).1
theorem BytesAt.keep (h : BytesAt w b off p) (hk : ∀ a : Addr, a.block = b → w'.cell? a = w.cell? a) : BytesAt w' b off p :=
  fun j x hj => ⟨(h j x hj).1, (hk _ rfl).trans (h j x hj).2⟩
theorem BytesAt.below {B : Nat} (h : BytesAt w b off p) (hb : Below B w w') (hB : b < B) : BytesAt w' b off p := h.keep fun _ ha => hb.cell (by rw [ha]; exact hB)
theorem BytesAt.alloc (h : BytesAt w b off p) (hB : b < w.heap.size) (o : Obj) : BytesAt (w.alloc o) b off p := h.keep fun a ha => World.cell?_alloc_lt w o a (by omega)
theorem BytesAt.drewN (h : BytesAt w b off p) (n : Nat) : BytesAt (w.drewN n) b off p := h
theorem BytesAt.cut (h : BytesAt w b off p) (k : Nat) : BytesAt w b (off + k) (p.drop k) := fun j x hj => by
  rw [List.getElem?_drop] at hj
  have := h _ x hj
  rwa [← Nat.add_assoc] at this
theorem BytesAt.take (h : BytesAt w b off p) (k : Nat) : BytesAt w b off (p.take k) := fun j x hj => by
  rw [List.getElem?_take] at hj
  split at hj
  · exact h j x hj
  · cases hj
end
end Go.Proofs.YtnbaajdcakjlmaaDoor

/-
  Bytes and texts in memory, for the walks over values.
-/
namespace Go.Proofs.YtnbaajdcakjlmaaDoor
open Go.RowKit

theorem ret_int {k : IntKind} {a b : Int} (h : a = b) : Ending.returned (.int k a) = .returned (.int k b) := by rw [h]

/-- Bytes as cells. -/
def u8s (l : List Nat) : List Value := l.map fun (x : Nat) => .int .u8 (x : Int)
theorem u8s_length (l : List Nat) : (u8s l).length = l.length := by simp [u8s]
theorem u8s_append (l k : List Nat) : u8s (l ++ k) = u8s l ++ u8s k := by simp [u8s]
theorem u8s_one (l : List Nat) : ∀ v ∈ u8s l, v.oneCell' = true := by
  intro v hv
  simp only [u8s, List.mem_map] at hv
  obtain ⟨x, _, rfl⟩ := hv
  rfl
theorem u8s_set (X : List Nat) (j y : Nat) : (u8s X).set j (.int .u8 (y : Int)) = u8s (X.set j y) := by simp [u8s, List.map_set]
theorem u8s_at (l : List Nat) {j : Nat} (hj : j < l.length) : (u8s l)[j]? = some (.int .u8 (l.getD j 0 : Nat)) := by
  simp [u8s, List.getElem?_eq_getElem hj, List.getD_eq_getElem?_getD]

/-- A slice of bytes that reads as these. -/
def ArgIs (w : World) (A : Option Addr) (c : Nat) (q : List Nat) : Prop :=
  q.length ≤ c ∧ c ≤ 9223372036854775807 ∧ (∀ x ∈ q, x < 256) ∧ (0 < q.length → ∃ b off, A = some ⟨b, off, none⟩ ∧ b < w.heap.size ∧ BytesAt w b off q)
section
variable {w w' : World} {A : Option Addr} {c : Nat} {q : List Nat}
theorem ArgIs.below {B : Nat} (h : ArgIs w A c q) (hb : Below B w w') (hB : w.heap.size ≤ B) : ArgIs w' A c q :=
  ⟨h.1, h.2.1, h.2.2.1, fun hq => by
    obtain ⟨b, off, e, hbw, hby⟩ := h.2.2.2 hq
    exact ⟨b, off, e, Nat.lt_of_lt_of_le hbw hb.size, hby.below hb (by omega)⟩⟩
theorem ArgIs.alloc (h : ArgIs w A c q) (o : Obj) : ArgIs (w.alloc o) A c q := h.below ((Below.refl w.heap.size w).alloc (Nat.le_refl _) o) (Nat.le_refl _)
theorem ArgIs.drew (h : ArgIs w A c q) : ArgIs w.drew A c q := h
end

theorem Lies.bytes {w : World} {g : Nat} {t : TypeId} {L : List Nat} (h : Lies w g t (u8s L)) (hL : ∀ x ∈ L, x < 256) (off n : Nat) : BytesAt w g off ((L.drop off).take n) := fun j x hj => by
  rw [List.getElem?_take] at hj
  split at hj
  · rw [List.getElem?_drop] at hj
    refine ⟨hL x (List.mem_of_getElem? hj), ?_⟩
    rw [h.cell (off + j)]
    simp [u8s, hj]
  · cases hj
/-- Bytes of a block that is known whole. -/
theorem arg_lies {w : World} {g : Nat} {t : TypeId} {L : List Nat} {c : Nat} (h : Lies w g t (u8s L)) (hL : ∀ x ∈ L, x < 256) (hc : L.length ≤ c) (hcm : c ≤ 9223372036854775807) : ArgIs w (some ⟨g, 0, none⟩) c L :=
  ⟨hc, hcm, hL, fun _ => ⟨g, 0, rfl, h.lt, by
    have := h.bytes hL 0 L.length
    simpa using this⟩⟩
theorem arg_new {w : World} {g : Nat} (hg : g = w.heap.size) (t : TypeId) (fr : Nat × Nat) (L : List Nat) (c : Nat) (hL : ∀ x ∈ L, x < 256) (hc : L.length ≤ c) (hcm : c ≤ 9223372036854775807) :
    ArgIs (w.alloc (.cells (u8s L).toArray t fr)) (some ⟨g, 0, none⟩) c L :=
  ⟨hc, hcm, hL, fun _ => ⟨g, 0, rfl, by subst hg; simp, fun j x hj => ⟨hL x (List.mem_of_getElem? hj), by
    subst hg
    rw [Nat.zero_add, cell_of_row _ _ _ _ t fr (heap_alloc_new w _)]
    simp [u8s, hj]⟩⟩⟩

/-- The text that bytes are. -/
def strOf (q : List Nat) : ByteArray := strOfNums (q.map fun (x : Nat) => (x : Int))
/-- The bytes of a text. -/
def numsOf (s : ByteArray) : List Nat := s.data.toList.map fun u : UInt8 => u.toNat
theorem numsOf_lt (s : ByteArray) : ∀ x ∈ numsOf s, x < 256 := by
  intro x hx
  simp only [numsOf, List.mem_map] at hx
  obtain ⟨u, _, rfl⟩ := hx
  exact u.toNat_lt
theorem numsOf_length (s : ByteArray) : (numsOf s).length = s.size := by
  unfold numsOf
  rw [List.length_map]
  rfl
theorem numsOf_strOf {q : List Nat} (h : ∀ x ∈ q, x < 256) : numsOf (strOf q) = q := by
  simp only [numsOf, strOf, strOfNums, List.map_map]
  conv => rhs; rw [← List.map_id q]
  apply List.map_congr_left
  intro x hx
  have := h x hx
  simp [Nat.mod_eq_of_lt this]
theorem strOf_numsOf (s : ByteArray) : strOf (numsOf s) = s := by
  obtain ⟨⟨l⟩⟩ := s
  simp only [numsOf, strOf, strOfNums, List.map_map]
  congr 2
  conv => rhs; rw [← List.map_id l]
  apply List.map_congr_left
  intro x _
  simp
theorem strOf_inj {p q : List Nat} (hp : ∀ x ∈ p, x < 256) (hq : ∀ x ∈ q, x < 256) (h : strOf p = strOf q) : p = q := by
  rw [← numsOf_strOf hp, ← numsOf_strOf hq, h]
theorem strOf_size (q : List Nat) : (strOf q).size = q.length := by simp [strOf, strOfNums, ByteArray.size]
theorem strOf_append (p q : List Nat) : strOf p ++ strOf q = strOf (p ++ q) := by
  apply ByteArray.ext
  simp [strOf, strOfNums]
theorem str_beq {p q : List Nat} (hp : ∀ x ∈ p, x < 256) (hq : ∀ x ∈ q, x < 256) : ((strOf p).toList == (strOf q).toList) = decide (p = q) := by
  rw [Bool.eq_iff_iff, beq_iff_eq, decide_eq_true_iff, ByteArray.toList_eq, ByteArray.toList_eq]
  refine ⟨fun h => strOf_inj hp hq ?_, fun h => by rw [h]⟩
  have : (strOf p).data = (strOf q).data := Array.toList_inj.1 h
  exact ByteArray.ext this

theorem conv_any {w : World} {A : Option Addr} {c : Nat} {q : List Nat} (h : ArgIs w A c q) (src e dst : TypeId) (hs : Tryd.prog.underlying src = some (.slice e)) (he : Tryd.prog.underlying e = some (.int .u8)) (hd : Tryd.prog.underlying dst = some .string) :
    (convert src dst (.slice A q.length c)).run Tryd.prog w = .ok (.string (strOf q)) w := by
  rcases Nat.eq_zero_or_pos q.length with h0 | h0
  · obtain rfl : q = [] := List.eq_nil_of_length_eq_zero h0
    cases A with
    | none => exact run_convert_bytes_nil w src e hs he 0 c dst hd
    | some a =>
      rw [run_convert_bytes_string w src dst e _ _ c hs he hd]
      exact run_bytesToString w a 0 c [] (by
        have := run_loadCells_list (P := Tryd.prog) w a [] (fun j v hj => by simp at hj)
        simpa using this)
  · obtain ⟨b, off, rfl, _, hby⟩ := h.2.2.2 h0
    refine run_convert_bytes_arg w src e hs he b off q.length c _ (by simp) (fun i hi => ?_) dst hd
    rw [hby.get hi]
    simp [List.getElem?_eq_getElem hi]


set_option maxRecDepth 100000 in
theorem infoByte : (Tryd.prog.info? 5).map (fun i => (i.zero, i.size, i.bytes)) = some (some (.int .u8 0), 1, 1) := by kernel_rfl
set_option maxRecDepth 100000 in
theorem infoText : (Tryd.prog.info? 9).map (fun i => (i.zero, i.size, i.bytes)) = some (some (.string ByteArray.empty), 1, 16) := by kernel_rfl

theorem own_ge {w : World} {base : Nat} {e : TypeId} {size n : Nat} {v : Value} {xs : List Value} (h : w.ownsRow base e size v n xs) : ∀ b, v.ownBlock = some b → base ≤ b := by
  rcases h.2 with ⟨rfl, _⟩ | ⟨g, cap, cur, rfl, hg, _⟩
  · intro b hb; simp [Value.ownBlock] at hb
  · intro b hb; simp [Value.ownBlock] at hb; omega
theorem own_slice {w : World} {base : Nat} {e : TypeId} {size n : Nat} {v : Value} {xs : List Value} (h : w.ownsRow base e size v n xs) : ∃ A cap, v = .slice A n cap := by
  rcases h.2 with ⟨rfl, rfl⟩ | ⟨g, cap, cur, rfl, _⟩
  · exact ⟨_, _, rfl⟩
  · exact ⟨_, _, rfl⟩
theorem own_form {w : World} {base : Nat} {e : TypeId} {size n : Nat} {v : Value} {xs : List Value} (h : w.ownsRow base e size v n xs) (hn : 0 < n) : ∃ g cap, v = .slice (some ⟨g, 0, none⟩) n cap := by
  rcases h.2 with ⟨_, h0⟩ | ⟨g, cap, cur, rfl, _⟩
  · omega
  · exact ⟨g, cap, rfl⟩
theorem own_below {w w' : World} {base : Nat} {e : TypeId} {size n : Nat} {v : Value} {xs : List Value} (h : w.ownsRow base e size v n xs) (hb : Below w.heap.size w w') : w'.ownsRow base e size v n xs := by
  refine ⟨h.1, ?_⟩
  rcases h.2 with hn | ⟨g, cap, cur, rfl, hB, hgg, rest⟩
  · exact .inl hn
  · exact .inr ⟨g, cap, cur, rfl, hB, (hb.block g (Array.getElem?_eq_some_iff.1 hgg).1).trans hgg, rest⟩

section
variable {ops : Array Oper} {rest : List Oper} {o : Oper} {a : Act} {Q : Exit → Act → World → Prop} {w : World}
/-- append of values that were just laid, onto a row of the call's own. -/
theorem append_row (hgd : o.guard = none) (s x : Operand) (t e : TypeId) (z : Value) (size bytes : Nat)
    (ho : o.op = .call { callee := .builtin .append, args := #[s, x], argTypes := #[t, t] }) (ht : Tryd.prog.underlying t = some (.slice e))
    (hi : (Tryd.prog.info? e).map (fun i => (i.zero, i.size, i.bytes)) = some (some z, size, bytes)) (hz : z.cells.size = size) (hsz : 0 < size)
    (base : Nat) (v : Value) (n : Nat) (xs : List Value) (A : Addr) (m c : Nat) (us : List Value) (hown : w.ownsRow base e size v n xs) (hl : us.length = m * size) (hc : ∀ j u, us[j]? = some u → w.cell? (A.add j) = some u) (h1 : ∀ u ∈ us, u.oneCell' = true)
    (hs : a.eval s = v) (hx : a.eval x = .slice (some A) m c) (hb : (n + m) * bytes ≤ 140737488355328) (hm : n + m ≤ 140737488355328) (hbase : base ≤ w.heap.size)
    (hK : ∀ v' w', w'.ownsRow base e size v' (n + m) (xs ++ us) → w.grownBy w' v.ownBlock → wpList Tryd.prog ops Q rest (a.put o.dst v') w') : wpList Tryd.prog ops Q (o :: rest) a w := by
  refine wpList_plain hgd fun K hK' => ?_
  obtain ⟨i0, hi0, hz0, hz1, hz2⟩ := info_parts hi
  obtain ⟨v', w', hrun, h2, h3, _⟩ := run_append_own (P := Tryd.prog) w base t o.type e i0 z size bytes ht hi0 hz0 hz1 hz2 hz hsz v n xs hown A m c us hl hc h1 (by unfold maxLen; omega) hb hbase
  unfold Oper.wp
  simp [execOp, ho, resolve, invoke, builtin, hs, hx, hrun, Result.andThen]
  exact hK' _ _ (hK v' w' h2 h3)
/-- append of one byte onto a block that is known whole, where there is room. -/
theorem append_room (hgd : o.guard = none) (s x : Operand)
    (ho : o.op = .call { callee := .builtin .append, args := #[s, x], argTypes := #[85, 85] })
    (g n cap h : Nat) (t : TypeId) (cs : List Value) (v : Value) (hL : Lies w g t cs) (hv : w.cell? ⟨h, 0, none⟩ = some v) (h1 : v.oneCell' = true)
    (hs : a.eval s = .slice (some ⟨g, 0, none⟩) n cap) (hx : a.eval x = .slice (some ⟨h, 0, none⟩) 1 1) (hroom : n + 1 ≤ cap) (hcs : cs.length = cap)
    (hK : ∀ w', Lies w' g t (cs.set n v) → w.grownBy w' (some g) → wpList Tryd.prog ops Q rest (a.put o.dst (.slice (some ⟨g, 0, none⟩) (n + 1) cap)) w') : wpList Tryd.prog ops Q (o :: rest) a w := by
  refine wpList_plain hgd fun K hK' => ?_
  obtain ⟨i0, hi, hz0, hz1, hz2⟩ := info_parts infoByte
  have hrun := run_append_room_cells (P := Tryd.prog) w 85 o.type 5 i0 Tryd.underlying85 hi g 0 n cap ⟨h, 0, none⟩ 1 1 [v] (by simp [hz1])
    (fun j u hj => by
      have : j = 0 := by
        have := (List.getElem?_eq_some_iff.1 hj).1
        simp at this; omega
      subst this
      simp at hj
      subst hj
      exact hv)
    (by simpa using h1) hroom
    (fun j hj => by
      have hj0 : j = 0 := by simp at hj; exact hj
      subst hj0
      rw [hz1, hL.cell, List.getElem?_eq_getElem (by omega)]; rfl)
    (fun j hj => hL.free _)
  rw [hz1] at hrun
  unfold Oper.wp
  simp [execOp, ho, resolve, invoke, builtin, hs, hx, hrun, Result.andThen]
  refine hK' _ _ (hK _ ?_ ?_)
  · simp only [World.setCells]
    exact hL.put n v
  · refine ⟨rfl, rfl, rfl, by simp [World.setCells], fun k _ hne => ?_⟩
    simp only [World.setCells]
    exact Below.heap_setCell w _ v k (fun e => hne (by rw [e]))
theorem made_u8 (n : Nat) : madeCells (Value.cells (.int .u8 0)) n = (u8s (List.replicate n 0)).toArray := by
  apply Array.ext'
  apply List.ext_getElem
  · simp [madeCells, u8s, Value.cells]
  · intro i h1 h2
    simp [madeCells, u8s, Value.cells, Nat.mod_one]
theorem make_at (hgd : o.guard = none) (x y : Operand) (ho : o.op = .makeSlice 85 x y) (l c : Nat) (hx : a.eval x = .int .i64 l) (hy : a.eval y = .int .i64 c) (hlc : l ≤ c) (hc : c ≤ 281474976710656)
    (h : ∀ w', Lies w' w.heap.size 5 (u8s (List.replicate c 0)) → Below w.heap.size w w' → wpList Tryd.prog ops Q rest (a.put o.dst (.slice (some ⟨w.heap.size, 0, none⟩) l c)) w') : wpList Tryd.prog ops Q (o :: rest) a w := by
  refine wpList_plain hgd fun K hK => ?_
  obtain ⟨i0, hi, hz0, hz1, hz2⟩ := info_parts infoByte
  have hr := run_make (P := Tryd.prog) w 85 5 i0 (.int .u8 0) Tryd.underlying85 hi hz0 .i64 .i64 l c (by omega) (by omega) (by rw [hz2]; omega) (by omega)
  simp only [Int.toNat_natCast, hz1, Nat.mul_one, made_u8] at hr
  unfold Oper.wp
  rw [execOp, ho]
  simp [hx, hy, hr, Result.andThen]
  exact hK _ _ (h _ (Lies.made w _ _) ((Below.refl _ _).alloc (Nat.le_refl _) _))
end

/-- Cells of a block that was just laid. -/
theorem new_cells (w : World) (cs : Array Value) (t : TypeId) (j : Nat) (u : Value) (h : cs.toList[j]? = some u) : (w.alloc (.cells cs t)).cell? ((⟨w.heap.size, 0, none⟩ : Addr).add j) = some u := by
  rw [Addr.add_lit, Nat.zero_add, cell_of_row _ _ _ _ t (0, 0) (heap_alloc_new w _)]
  simpa using h

/-- A row of the call's own, as bytes that came in. -/
theorem own_arg {w : World} {base : Nat} {A : Option Addr} {n c : Nat} {q : List Nat} (h : w.ownsRow base 5 1 (.slice A n c) n (u8s q)) (hq : ∀ x ∈ q, x < 256) : q.length = n ∧ ArgIs w A c q := by
  have hl : q.length = n := by have := h.1; rw [u8s_length] at this; omega
  refine ⟨hl, ?_⟩
  rcases h.2 with ⟨e, h0⟩ | ⟨g, cap, cur, e, hb, hh, hc, hm, hs, ht⟩
  · have hc0 : c = 0 := by simpa using congrArg (fun v => match v with | Value.slice _ _ k => k | _ => 0) e
    exact ⟨by omega, by omega, hq, fun hp => by omega⟩
  · have hc0 : c = cap := by simpa using congrArg (fun v => match v with | Value.slice _ _ k => k | _ => 0) e
    have hA : A = some ⟨g, 0, none⟩ := by simpa using congrArg (fun v => match v with | Value.slice a _ _ => a | _ => none) e
    subst hc0 hA
    unfold maxLen at hm
    refine ⟨by omega, by omega, hq, fun hp => ⟨g, 0, rfl, ?_, fun j x hj => ⟨hq x (List.mem_of_getElem? hj), ?_⟩⟩⟩
    · rcases Nat.lt_or_ge g w.heap.size with hlt | hge
      · exact hlt
      · rw [Array.getElem?_eq_none hge] at hh; cases hh
    · have hj' : j < n := by have := (List.getElem?_eq_some_iff.1 hj).1; omega
      rw [Nat.zero_add, cell_of_row w g j cur _ _ hh]
      have e2 : cur.toList[j]? = (u8s q)[j]? := by rw [← ht, List.getElem?_take, if_pos (by omega)]
      rw [← Array.getElem?_toList, e2]
      simp [u8s, hj]

/-- A slice whose cells are these. -/
def Row (w : World) (A : Option Addr) (cs : List Value) : Prop :=
  0 < cs.length → ∃ b off, A = some ⟨b, off, none⟩ ∧ b < w.heap.size ∧ ∀ j v, cs[j]? = some v → w.cell? ⟨b, off + j, none⟩ = some v
section
variable {w w' : World} {A : Option Addr} {cs : List Value}
theorem Row.nil (w : World) (A : Option Addr) : Row w A [] := fun h => absurd h (Nat.lt_irrefl _)
theorem Row.below {B : Nat} (h : Row w A cs) (hb : Below B w w') (hB : w.heap.size ≤ B) : Row w' A cs := fun hp => by
  obtain ⟨b, off, e, hbw, hc⟩ := h hp
  exact ⟨b, off, e, Nat.lt_of_lt_of_le hbw hb.size, fun j v hj => (hb.cell (p := ⟨b, off + j, none⟩) (by show b < B; omega)).trans (hc j v hj)⟩
theorem Row.alloc (h : Row w A cs) (o : Obj) : Row (w.alloc o) A cs := h.below ((Below.refl w.heap.size w).alloc (Nat.le_refl _) o) (Nat.le_refl _)
theorem Row.take (h : Row w A cs) (n : Nat) : Row w A (cs.take n) := fun hp => by
  obtain ⟨b, off, e, hbw, hc⟩ := h (by rw [List.length_take] at hp; omega)
  refine ⟨b, off, e, hbw, fun j v hj => hc j v ?_⟩
  rw [List.getElem?_take] at hj
  split at hj
  · exact hj
  · cases hj
theorem Row.lies {g : Nat} {t : TypeId} (h : Lies w g t cs) : Row w (some ⟨g, 0, none⟩) cs := fun _ => ⟨g, 0, rfl, h.lt, fun j v hj => by rw [Nat.zero_add, h.cell j]; exact hj⟩
theorem Row.own {base : Nat} {e : TypeId} {size n c : Nat} (h : w.ownsRow base e size (.slice A n c) n cs) : Row w A cs := fun hp => by
  have hl := h.1
  rcases h.2 with ⟨e, h0⟩ | ⟨g, cap, cur, e, _, hh, _⟩
  · rw [h0, Nat.zero_mul] at hl; omega
  · have hA : A = some ⟨g, 0, none⟩ := by simpa using congrArg (fun v => match v with | Value.slice a _ _ => a | _ => none) e
    subst hA
    refine ⟨g, 0, rfl, (Array.getElem?_eq_some_iff.1 hh).1, fun j v hj => ?_⟩
    have := h.cells (g := g) rfl j v hj
    rwa [Addr.add_lit] at this
end

end Go.Proofs.YtnbaajdcakjlmaaDoor

/-
  Texts as lists of numbers: bytes at a place, beginnings and ends; bytes as a text.
-/
namespace Go.Proofs.YtnbaajdcakjlmaaDoor
open Go.RowKit

theorem ret_bool {a b : Bool} (h : a = b) : Ending.returned (.bool a) = .returned (.bool b) := by rw [h]
theorem nums_at (s : ByteArray) (k : Nat) (h : k < s.size) : (numsOf s).getD k 0 = s[k].toNat := by
  have h' : k < s.data.toList.length := by simpa using h
  rw [List.getD_eq_getElem?_getD, numsOf, List.getElem?_map, List.getElem?_eq_getElem h']
  rfl
theorem nums_end (s : ByteArray) (k : Nat) (h : s.size ≤ k) : (numsOf s).getD k 0 = 0 := by
  rw [List.getD_eq_getElem?_getD, List.getElem?_eq_none (by rw [numsOf_length]; exact h)]
  rfl
theorem nums_lt (s : ByteArray) (k : Nat) : (numsOf s).getD k 0 < 256 := by
  by_cases h : k < s.size
  · rw [nums_at s k h]; exact s[k].toNat_lt
  · rw [nums_end s k (by omega)]; decide
theorem nums_extract (s : ByteArray) (i j : Nat) : numsOf (s.extract i j) = ((numsOf s).take j).drop i := by
  unfold numsOf
  rw [ByteArray.data_extract, Array.toList_extract]
  simp only [List.extract, List.map_drop, List.map_take]
  rw [List.drop_take]
theorem nums_from (s : ByteArray) (i : Nat) : numsOf (s.extract i s.size) = (numsOf s).drop i := by
  rw [nums_extract, List.take_of_length_le (by rw [numsOf_length]; exact Nat.le_refl _)]
theorem rep_lt (n : Nat) : ∀ x ∈ List.replicate n 0, x < 256 := fun x hx => by rw [List.mem_replicate] at hx; omega
theorem snoc_lt {T : List Nat} {x : Nat} (h : ∀ y ∈ T, y < 256) (hx : x < 256) : ∀ y ∈ T ++ [x], y < 256 := fun y hy => by
  rcases List.mem_append.1 hy with hy | hy
  · exact h y hy
  · simp at hy; omega
theorem conv_str {w : World} {A : Option Addr} {c : Nat} {q : List Nat} (h : ArgIs w A c q) : (convert 85 9 (.slice A q.length c)).run Tryd.prog w = .ok (.string (strOf q)) w :=
  conv_any h _ 5 _ Tryd.underlying85 Tryd.underlying5 Tryd.underlying9
theorem take_lt {l : List Nat} (h : ∀ x ∈ l, x < 256) (k : Nat) : ∀ x ∈ l.take k, x < 256 := fun x hx => h x (List.mem_of_mem_take hx)
theorem drop_lt {l : List Nat} (h : ∀ x ∈ l, x < 256) (k : Nat) : ∀ x ∈ l.drop k, x < 256 := fun x hx => h x (List.mem_of_mem_drop hx)
theorem eq_strOf {s : ByteArray} {l : List Nat} (h : numsOf s = l) : s = strOf l := by rw [← h, strOf_numsOf]
theorem nums_to (s : ByteArray) (i : Nat) : numsOf (s.extract 0 i) = (numsOf s).take i := by rw [nums_extract, List.drop_zero]
theorem prefix_beq (s : ByteArray) (p : List Nat) (hp : ∀ x ∈ p, x < 256) : (decide ((strOf p).size ≤ s.size) && ((s.extract 0 (strOf p).size).toList == (strOf p).toList)) = decide ((numsOf s).take p.length = p) := by
  rw [eq_strOf (nums_to s (strOf p).size), str_beq (take_lt (numsOf_lt s) _) hp, strOf_size]
  by_cases h : (numsOf s).take p.length = p
  · have := congrArg List.length h
    rw [List.length_take, numsOf_length] at this
    rw [decide_eq_true h, decide_eq_true (by omega)]; rfl
  · rw [decide_eq_false h, Bool.and_false]
theorem nums_nil (s : ByteArray) : numsOf s = [] ↔ s.size = 0 := by rw [← numsOf_length, List.length_eq_zero_iff]
theorem nums_head (s : ByteArray) (c : Nat) (hc : c ≠ 0) : ((numsOf s).head? = some c) ↔ (numsOf s).getD 0 0 = c := by
  cases h : numsOf s with
  | nil => simp; omega
  | cons a r => simp
end Go.Proofs.YtnbaajdcakjlmaaDoor

/-
  What the stages' texts share beyond JMem: the byte's size, append of bytes that came in onto a row of the call's own.
-/
namespace Go.Proofs.YtnbaajdcakjlmaaDoor
open Go.RowKit
set_option maxRecDepth 100000 in
theorem info5b : (Tryd.prog.info? 5).map (fun i => (i.zero, i.size, i.bytes)) = some (some (.int .u8 0), 1, 1) := by kernel_rfl
def lenV : Value → Nat
  | .slice _ n _ => n
  | _ => 0
theorem src_at {w : World} {b off : Nat} {q : List Nat} (h : BytesAt w b off q) {i : Nat} {v : Value} (hv : (u8s q)[i]? = some v) : w.cell? ((⟨b, off, none⟩ : Addr).add i) = some v := by
  simp only [u8s, List.getElem?_map, Option.map_eq_some_iff] at hv
  obtain ⟨x, hx, rfl⟩ := hv
  rw [Addr.add_lit]
  exact (h i x hx).2

section
variable {ops : Array Oper} {rest : List Oper} {o : Oper} {a : Act} {Q : Exit → Act → World → Prop} {w : World}
/-- append of bytes that came in, whatever their address, onto a row of the call's own. -/
theorem run_append_arg {base n : Nat} {v : Value} {xs : List Value} {A : Option Addr} {c : Nat} {q : List Nat} (ty : TypeId) (hown : w.ownsRow base 5 1 v n xs) (hq : ArgIs w A c q)
    (hb : n + q.length ≤ 140737488355328) (hbase : base ≤ w.heap.size) :
    ∃ v' w', (Builtin.append_ #[85, 85] ty #[v, .slice A q.length c]).run Tryd.prog w = .ok v' w' ∧ w'.ownsRow base 5 1 v' (n + q.length) (xs ++ u8s q) ∧ w.grownBy w' v.ownBlock := by
  obtain ⟨i0, hi, hz0, hz1, hz2⟩ := info_parts info5b
  have h63 : n + q.length ≤ maxLen := by unfold maxLen; omega
  have main : ∀ a : Addr, A = some a → (∀ j u, (u8s q)[j]? = some u → w.cell? (a.add j) = some u) →
      ∃ v' w', (Builtin.append_ #[85, 85] ty #[v, .slice A q.length c]).run Tryd.prog w = .ok v' w' ∧ w'.ownsRow base 5 1 v' (n + q.length) (xs ++ u8s q) ∧ w.grownBy w' v.ownBlock := by
    rintro a rfl ha
    obtain ⟨v', w', h1, h2, h3, _⟩ := run_append_own (P := Tryd.prog) w base 85 ty 5 i0 (.int .u8 0) 1 1 Tryd.underlying85 hi hz0 hz1 hz2 rfl (by decide) v n xs hown a q.length c (u8s q) (by rw [u8s_length]; omega) ha (u8s_one q) h63 (by omega) hbase
    exact ⟨v', w', h1, h2, h3⟩
  rcases Nat.eq_zero_or_pos q.length with h0 | h0
  · obtain rfl : q = [] := List.eq_nil_of_length_eq_zero h0
    cases A with
    | some a => exact main a rfl (fun j u hj => by simp [u8s] at hj)
    | none =>
      refine ⟨v, w, ?_, by simpa [u8s] using hown, World.grownBy.refl w _⟩
      rcases hown.2 with ⟨rfl, rfl⟩ | ⟨g, cap, cur, rfl, _, _, hnc, _⟩
      · simp [Builtin.append_, run_underlying Tryd.underlying85, sizeOf, typeInfo, hi, Builtin.lenOf, Builtin.firstCells]
      · simp [Builtin.append_, run_underlying Tryd.underlying85, sizeOf, typeInfo, hi, Builtin.lenOf, Builtin.firstCells, hnc, storeCells]
  · obtain ⟨b, off, rfl, _, hby⟩ := hq.2.2.2 h0
    exact main _ rfl (fun j u hj => src_at hby hj)
theorem append_arg (hgd : o.guard = none) (s x : Operand)
    (ho : o.op = .call { callee := .builtin .append, args := #[s, x], argTypes := #[85, 85] })
    (base : Nat) (v : Value) (n : Nat) (xs : List Value) (A : Option Addr) (c : Nat) (q : List Nat) (hown : w.ownsRow base 5 1 v n xs) (hq : ArgIs w A c q)
    (hs : a.eval s = v) (hx : a.eval x = .slice A q.length c) (hb : n + q.length ≤ 140737488355328) (hbase : base ≤ w.heap.size)
    (h : ∀ v' w', w'.ownsRow base 5 1 v' (n + q.length) (xs ++ u8s q) → w.grownBy w' v.ownBlock → wpList Tryd.prog ops Q rest (a.put o.dst v') w') : wpList Tryd.prog ops Q (o :: rest) a w := by
  refine wpList_plain hgd fun K hK => ?_
  obtain ⟨v', w', hrun, h2, h3⟩ := run_append_arg o.type hown hq hb hbase
  unfold Oper.wp
  simp [execOp, ho, resolve, invoke, builtin, hs, hx, hrun, Result.andThen]
  exact hK _ _ (h v' w' h2 h3)
end
end Go.Proofs.YtnbaajdcakjlmaaDoor
