/-
  Bytes and texts in memory, for the walks over elements.
-/
import Derived.Test.YthklgpflaghojaaRows
import Derived.Test.YthklgpflaghojaaMem
import Derived.WalkKit
import Derived.WalkSpells
import Derived.WalkLawsBesides
import Derived.Lib.Hide
import Derived.Deep.QuietTactic
import Derived.BigQuiet
import Derived.ArgAppend
import Derived.Laws.BytesArg
import Derived.Laws.MakeOwn
import Derived.Laws.AppendOwnNone
import Derived.Lib.Bytealg
import Derived.StillTailTactics
import Derived.Deep.AppendLies
import Derived.Deep.Cut
namespace Go.Proofs.Ythklgpflaghojaa
open Go.RowKit

theorem ret_int {k : IntKind} {a b : Int} (h : a = b) : Ending.returned (.int k a) = .returned (.int k b) := by rw [h]

/-- Bytes as cells. -/
def u8s (l : List Nat) : List Value := l.map fun (x : Nat) => .int .u8 (x : Int)
theorem u8s_length (l : List Nat) : (u8s l).length = l.length := by simp [u8s]
theorem u8s_append (l k : List Nat) : u8s (l ++ k) = u8s l ++ u8s k := by simp [u8s]
theorem u8s_one (l : List Nat) : ∀ v ∈ u8s l, v.oneCell' = true := by
  intro v hv
  simp only [u8s, List.mem_map] at hv
  obtain ⟨x, _, rfl⟩ := hv
  rfl
theorem u8s_set (X : List Nat) (j y : Nat) : (u8s X).set j (.int .u8 (y : Int)) = u8s (X.set j y) := by simp [u8s, List.map_set]
theorem u8s_at (l : List Nat) {j : Nat} (hj : j < l.length) : (u8s l)[j]? = some (.int .u8 (l.getD j 0 : Nat)) := by
  simp [u8s, List.getElem?_eq_getElem hj, List.getD_eq_getElem?_getD]

/-- A slice of bytes that reads as these. -/
def ArgIs (w : World) (A : Option Addr) (c : Nat) (q : List Nat) : Prop :=
  q.length ≤ c ∧ c ≤ 9223372036854775807 ∧ (∀ x ∈ q, x < 256) ∧ (0 < q.length → ∃ b off, A = some ⟨b, off, none⟩ ∧ b < w.heap.size ∧ BytesAt w b off q)
section
variable {w w' : World} {A : Option Addr} {c : Nat} {q : List Nat}
theorem ArgIs.below {B : Nat} (h : ArgIs w A c q) (hb : Below B w w') (hB : w.heap.size ≤ B) : ArgIs w' A c q :=
  ⟨h.1, h.2.1, h.2.2.1, fun hq => by
    obtain ⟨b, off, e, hbw, hby⟩ := h.2.2.2 hq
    exact ⟨b, off, e, Nat.lt_of_lt_of_le hbw hb.size, hby.below hb (by omega)⟩⟩
theorem ArgIs.alloc (h : ArgIs w A c q) (o : Obj) : ArgIs (w.alloc o) A c q := h.below ((Below.refl w.heap.size w).alloc (Nat.le_refl _) o) (Nat.le_refl _)
theorem ArgIs.drew (h : ArgIs w A c q) : ArgIs w.drew A c q := h
end

theorem Lies.bytes {w : World} {g : Nat} {t : TypeId} {L : List Nat} (h : Lies w g t (u8s L)) (hL : ∀ x ∈ L, x < 256) (off n : Nat) : BytesAt w g off ((L.drop off).take n) := fun j x hj => by
  rw [List.getElem?_take] at hj
  split at hj
  · rw [List.getElem?_drop] at hj
    refine ⟨hL x (List.mem_of_getElem? hj), ?_⟩
    rw [h.cell (off + j)]
    simp [u8s, hj]
  · cases hj
/-- Bytes of a block that is known whole. -/
theorem arg_lies {w : World} {g : Nat} {t : TypeId} {L : List Nat} {c : Nat} (h : Lies w g t (u8s L)) (hL : ∀ x ∈ L, x < 256) (hc : L.length ≤ c) (hcm : c ≤ 9223372036854775807) : ArgIs w (some ⟨g, 0, none⟩) c L :=
  ⟨hc, hcm, hL, fun _ => ⟨g, 0, rfl, h.lt, by
    have := h.bytes hL 0 L.length
    simpa using this⟩⟩
theorem arg_new {w : World} {g : Nat} (hg : g = w.heap.size) (t : TypeId) (fr : Nat × Nat) (L : List Nat) (c : Nat) (hL : ∀ x ∈ L, x < 256) (hc : L.length ≤ c) (hcm : c ≤ 9223372036854775807) :
    ArgIs (w.alloc (.cells (u8s L).toArray t fr)) (some ⟨g, 0, none⟩) c L :=
  ⟨hc, hcm, hL, fun _ => ⟨g, 0, rfl, by subst hg; simp, fun j x hj => ⟨hL x (List.mem_of_getElem? hj), by
    subst hg
    rw [Nat.zero_add, cell_of_row _ _ _ _ t fr (heap_alloc_new w _)]
    simp [u8s, hj]⟩⟩⟩

/-- The text that bytes are. -/
def strOf (q : List Nat) : ByteArray := strOfNums (q.map fun (x : Nat) => (x : Int))
/-- The bytes of a text. -/
def numsOf (s : ByteArray) : List Nat := s.data.toList.map fun u : UInt8 => u.toNat
theorem numsOf_lt (s : ByteArray) : ∀ x ∈ numsOf s, x < 256 := by
  intro x hx
  simp only [numsOf, List.mem_map] at hx
  obtain ⟨u, _, rfl⟩ := hx
  exact u.toNat_lt
theorem numsOf_length (s : ByteArray) : (numsOf s).length = s.size := by
  unfold numsOf
  rw [List.length_map]
  rfl
theorem numsOf_strOf {q : List Nat} (h : ∀ x ∈ q, x < 256) : numsOf (strOf q) = q := by
  simp only [numsOf, strOf, strOfNums, List.map_map]
  conv => rhs; rw [← List.map_id q]
  apply List.map_congr_left
  intro x hx
  have := h x hx
  simp [Nat.mod_eq_of_lt this]
theorem strOf_numsOf (s : ByteArray) : strOf (numsOf s) = s := by
  obtain ⟨⟨l⟩⟩ := s
  simp only [numsOf, strOf, strOfNums, List.map_map]
  congr 2
  conv => rhs; rw [← List.map_id l]
  apply List.map_congr_left
  intro x _
  simp
theorem strOf_inj {p q : List Nat} (hp : ∀ x ∈ p, x < 256) (hq : ∀ x ∈ q, x < 256) (h : strOf p = strOf q) : p = q := by
  rw [← numsOf_strOf hp, ← numsOf_strOf hq, h]
theorem strOf_size (q : List Nat) : (strOf q).size = q.length := by simp [strOf, strOfNums, ByteArray.size]
theorem strOf_append (p q : List Nat) : strOf p ++ strOf q = strOf (p ++ q) := by
  apply ByteArray.ext
  simp [strOf, strOfNums]
theorem str_beq {p q : List Nat} (hp : ∀ x ∈ p, x < 256) (hq : ∀ x ∈ q, x < 256) : ((strOf p).toList == (strOf q).toList) = decide (p = q) := by
  rw [Bool.eq_iff_iff, beq_iff_eq, decide_eq_true_iff, ByteArray.toList_eq, ByteArray.toList_eq]
  refine ⟨fun h => strOf_inj hp hq ?_, fun h => by rw [h]⟩
  have : (strOf p).data = (strOf q).data := Array.toList_inj.1 h
  exact ByteArray.ext this

theorem conv_any {w : World} {A : Option Addr} {c : Nat} {q : List Nat} (h : ArgIs w A c q) (src e dst : TypeId) (hs : Try.prog.underlying src = some (.slice e)) (he : Try.prog.underlying e = some (.int .u8)) (hd : Try.prog.underlying dst = some .string) :
    (convert src dst (.slice A q.length c)).run Try.prog w = .ok (.string (strOf q)) w := by
  rcases Nat.eq_zero_or_pos q.length with h0 | h0
  · obtain rfl : q = [] := List.eq_nil_of_length_eq_zero h0
    cases A with
    | none => exact run_convert_bytes_nil w src e hs he 0 c dst hd
    | some a =>
      rw [run_convert_bytes_string w src dst e _ _ c hs he hd]
      exact run_bytesToString w a 0 c [] (by
        have := run_loadCells_list (P := Try.prog) w a [] (fun j v hj => by simp at hj)
        simpa using this)
  · obtain ⟨b, off, rfl, _, hby⟩ := h.2.2.2 h0
    refine run_convert_bytes_arg w src e hs he b off q.length c _ (by simp) (fun i hi => ?_) dst hd
    rw [hby.get hi]
    simp [List.getElem?_eq_getElem hi]


theorem infoByte : (Try.prog.info? 5).map (fun i => (i.zero, i.size, i.bytes)) = some (some (.int .u8 0), 1, 1) := by kernel_rfl
theorem infoText : (Try.prog.info? 9).map (fun i => (i.zero, i.size, i.bytes)) = some (some (.string ByteArray.empty), 1, 16) := by kernel_rfl

theorem own_ge {w : World} {base : Nat} {e : TypeId} {size n : Nat} {v : Value} {xs : List Value} (h : w.ownsRow base e size v n xs) : ∀ b, v.ownBlock = some b → base ≤ b := by
  rcases h.2 with ⟨rfl, _⟩ | ⟨g, cap, cur, rfl, hg, _⟩
  · intro b hb; simp [Value.ownBlock] at hb
  · intro b hb; simp [Value.ownBlock] at hb; omega
theorem own_slice {w : World} {base : Nat} {e : TypeId} {size n : Nat} {v : Value} {xs : List Value} (h : w.ownsRow base e size v n xs) : ∃ A cap, v = .slice A n cap := by
  rcases h.2 with ⟨rfl, rfl⟩ | ⟨g, cap, cur, rfl, _⟩
  · exact ⟨_, _, rfl⟩
  · exact ⟨_, _, rfl⟩
theorem own_form {w : World} {base : Nat} {e : TypeId} {size n : Nat} {v : Value} {xs : List Value} (h : w.ownsRow base e size v n xs) (hn : 0 < n) : ∃ g cap, v = .slice (some ⟨g, 0, none⟩) n cap := by
  rcases h.2 with ⟨_, h0⟩ | ⟨g, cap, cur, rfl, _⟩
  · omega
  · exact ⟨g, cap, rfl⟩
theorem own_below {w w' : World} {base : Nat} {e : TypeId} {size n : Nat} {v : Value} {xs : List Value} (h : w.ownsRow base e size v n xs) (hb : Below w.heap.size w w') : w'.ownsRow base e size v n xs := by
  refine ⟨h.1, ?_⟩
  rcases h.2 with hn | ⟨g, cap, cur, rfl, hB, hgg, rest⟩
  · exact .inl hn
  · exact .inr ⟨g, cap, cur, rfl, hB, (hb.block g (Array.getElem?_eq_some_iff.1 hgg).1).trans hgg, rest⟩

section
variable {ops : Array Oper} {rest : List Oper} {o : Oper} {a : Act} {Q : Exit → Act → World → Prop} {w : World}
/-- append of values that were just laid, onto a row of the call's own. -/
theorem append_row (hgd : o.guard = none) (s x : Operand) (t e : TypeId) (z : Value) (size bytes : Nat)
    (ho : o.op = .call { callee := .builtin .append, args := #[s, x], argTypes := #[t, t] }) (ht : Try.prog.underlying t = some (.slice e))
    (hi : (Try.prog.info? e).map (fun i => (i.zero, i.size, i.bytes)) = some (some z, size, bytes)) (hz : z.cells.size = size) (hsz : 0 < size)
    (base : Nat) (v : Value) (n : Nat) (xs : List Value) (A : Addr) (m c : Nat) (us : List Value) (hown : w.ownsRow base e size v n xs) (hl : us.length = m * size) (hc : ∀ j u, us[j]? = some u → w.cell? (A.add j) = some u) (h1 : ∀ u ∈ us, u.oneCell' = true)
    (hs : a.eval s = v) (hx : a.eval x = .slice (some A) m c) (hb : (n + m) * bytes ≤ 140737488355328) (hm : n + m ≤ 140737488355328) (hbase : base ≤ w.heap.size)
    (hK : ∀ v' w', w'.ownsRow base e size v' (n + m) (xs ++ us) → w.grownBy w' v.ownBlock → wpList Try.prog ops Q rest (a.put o.dst v') w') : wpList Try.prog ops Q (o :: rest) a w := by
  refine wpList_plain hgd fun K hK' => ?_
  obtain ⟨i0, hi0, hz0, hz1, hz2⟩ := info_parts hi
  obtain ⟨v', w', hrun, h2, h3, _⟩ := run_append_own (P := Try.prog) w base t o.type e i0 z size bytes ht hi0 hz0 hz1 hz2 hz hsz v n xs hown A m c us hl hc h1 (by unfold maxLen; omega) hb hbase
  unfold Oper.wp
  simp [execOp, ho, resolve, invoke, builtin, hs, hx, hrun, Result.andThen]
  exact hK' _ _ (hK v' w' h2 h3)
/-- append of one byte onto a block that is known whole, where there is room. -/
theorem append_room (hgd : o.guard = none) (s x : Operand)
    (ho : o.op = .call { callee := .builtin .append, args := #[s, x], argTypes := #[25, 25] })
    (g n cap h : Nat) (t : TypeId) (cs : List Value) (v : Value) (hL : Lies w g t cs) (hv : w.cell? ⟨h, 0, none⟩ = some v) (h1 : v.oneCell' = true)
    (hs : a.eval s = .slice (some ⟨g, 0, none⟩) n cap) (hx : a.eval x = .slice (some ⟨h, 0, none⟩) 1 1) (hroom : n + 1 ≤ cap) (hcs : cs.length = cap)
    (hK : ∀ w', Lies w' g t (cs.set n v) → w.grownBy w' (some g) → wpList Try.prog ops Q rest (a.put o.dst (.slice (some ⟨g, 0, none⟩) (n + 1) cap)) w') : wpList Try.prog ops Q (o :: rest) a w := by
  refine wpList_plain hgd fun K hK' => ?_
  obtain ⟨i0, hi, hz0, hz1, hz2⟩ := info_parts infoByte
  have hrun := run_append_room_cells (P := Try.prog) w 25 o.type 5 i0 Try.underlying25 hi g 0 n cap ⟨h, 0, none⟩ 1 1 [v] (by simp [hz1])
    (fun j u hj => by
      have : j = 0 := by
        have := (List.getElem?_eq_some_iff.1 hj).1
        simp at this; omega
      subst this
      simp at hj
      subst hj
      exact hv)
    (by simpa using h1) hroom
    (fun j hj => by
      have hj0 : j = 0 := by simp at hj; exact hj
      subst hj0
      rw [hz1, hL.cell, List.getElem?_eq_getElem (by omega)]; rfl)
    (fun j hj => hL.free _)
  rw [hz1] at hrun
  unfold Oper.wp
  simp [execOp, ho, resolve, invoke, builtin, hs, hx, hrun, Result.andThen]
  refine hK' _ _ (hK _ ?_ ?_)
  · simp only [World.setCells]
    exact hL.put n v
  · refine ⟨rfl, rfl, rfl, by simp [World.setCells], fun k _ hne => ?_⟩
    simp only [World.setCells]
    exact Below.heap_setCell w _ v k (fun e => hne (by rw [e]))
theorem made_u8 (n : Nat) : madeCells (Value.cells (.int .u8 0)) n = (u8s (List.replicate n 0)).toArray := by
  apply Array.ext'
  apply List.ext_getElem
  · simp [madeCells, u8s, Value.cells]
  · intro i h1 h2
    simp [madeCells, u8s, Value.cells, Nat.mod_one]
theorem make_at (hgd : o.guard = none) (x y : Operand) (ho : o.op = .makeSlice 25 x y) (l c : Nat) (hx : a.eval x = .int .i64 l) (hy : a.eval y = .int .i64 c) (hlc : l ≤ c) (hc : c ≤ 281474976710656)
    (h : ∀ w', Lies w' w.heap.size 5 (u8s (List.replicate c 0)) → Below w.heap.size w w' → wpList Try.prog ops Q rest (a.put o.dst (.slice (some ⟨w.heap.size, 0, none⟩) l c)) w') : wpList Try.prog ops Q (o :: rest) a w := by
  refine wpList_plain hgd fun K hK => ?_
  obtain ⟨i0, hi, hz0, hz1, hz2⟩ := info_parts infoByte
  have hr := run_make (P := Try.prog) w 25 5 i0 (.int .u8 0) Try.underlying25 hi hz0 .i64 .i64 l c (by omega) (by omega) (by rw [hz2]; omega) (by omega)
  simp only [Int.toNat_natCast, hz1, Nat.mul_one, made_u8] at hr
  unfold Oper.wp
  rw [execOp, ho]
  simp [hx, hy, hr, Result.andThen]
  exact hK _ _ (h _ (Lies.made w _ _) ((Below.refl _ _).alloc (Nat.le_refl _) _))
end

/-- Cells of a block that was just laid. -/
theorem new_cells (w : World) (cs : Array Value) (t : TypeId) (j : Nat) (u : Value) (h : cs.toList[j]? = some u) : (w.alloc (.cells cs t)).cell? ((⟨w.heap.size, 0, none⟩ : Addr).add j) = some u := by
  rw [Addr.add_lit, Nat.zero_add, cell_of_row _ _ _ _ t (0, 0) (heap_alloc_new w _)]
  simpa using h

/-- A row of the call's own, as bytes that came in. -/
theorem own_arg {w : World} {base : Nat} {A : Option Addr} {n c : Nat} {q : List Nat} (h : w.ownsRow base 5 1 (.slice A n c) n (u8s q)) (hq : ∀ x ∈ q, x < 256) : q.length = n ∧ ArgIs w A c q := by
  have hl : q.length = n := by have := h.1; rw [u8s_length] at this; omega
  refine ⟨hl, ?_⟩
  rcases h.2 with ⟨e, h0⟩ | ⟨g, cap, cur, e, hb, hh, hc, hm, hs, ht⟩
  · have hc0 : c = 0 := by simpa using congrArg (fun v => match v with | Value.slice _ _ k => k | _ => 0) e
    exact ⟨by omega, by omega, hq, fun hp => by omega⟩
  · have hc0 : c = cap := by simpa using congrArg (fun v => match v with | Value.slice _ _ k => k | _ => 0) e
    have hA : A = some ⟨g, 0, none⟩ := by simpa using congrArg (fun v => match v with | Value.slice a _ _ => a | _ => none) e
    subst hc0 hA
    unfold maxLen at hm
    refine ⟨by omega, by omega, hq, fun hp => ⟨g, 0, rfl, ?_, fun j x hj => ⟨hq x (List.mem_of_getElem? hj), ?_⟩⟩⟩
    · rcases Nat.lt_or_ge g w.heap.size with hlt | hge
      · exact hlt
      · rw [Array.getElem?_eq_none hge] at hh; cases hh
    · have hj' : j < n := by have := (List.getElem?_eq_some_iff.1 hj).1; omega
      rw [Nat.zero_add, cell_of_row w g j cur _ _ hh]
      have e2 : cur.toList[j]? = (u8s q)[j]? := by rw [← ht, List.getElem?_take, if_pos (by omega)]
      rw [← Array.getElem?_toList, e2]
      simp [u8s, hj]

/-- A slice whose cells are these. -/
def Row (w : World) (A : Option Addr) (cs : List Value) : Prop :=
  0 < cs.length → ∃ b off, A = some ⟨b, off, none⟩ ∧ b < w.heap.size ∧ ∀ j v, cs[j]? = some v → w.cell? ⟨b, off + j, none⟩ = some v
section
variable {w w' : World} {A : Option Addr} {cs : List Value}
theorem Row.nil (w : World) (A : Option Addr) : Row w A [] := fun h => absurd h (Nat.lt_irrefl _)
theorem Row.below {B : Nat} (h : Row w A cs) (hb : Below B w w') (hB : w.heap.size ≤ B) : Row w' A cs := fun hp => by
  obtain ⟨b, off, e, hbw, hc⟩ := h hp
  exact ⟨b, off, e, Nat.lt_of_lt_of_le hbw hb.size, fun j v hj => (hb.cell (p := ⟨b, off + j, none⟩) (by show b < B; omega)).trans (hc j v hj)⟩
theorem Row.alloc (h : Row w A cs) (o : Obj) : Row (w.alloc o) A cs := h.below ((Below.refl w.heap.size w).alloc (Nat.le_refl _) o) (Nat.le_refl _)
theorem Row.take (h : Row w A cs) (n : Nat) : Row w A (cs.take n) := fun hp => by
  obtain ⟨b, off, e, hbw, hc⟩ := h (by rw [List.length_take] at hp; omega)
  refine ⟨b, off, e, hbw, fun j v hj => hc j v ?_⟩
  rw [List.getElem?_take] at hj
  split at hj
  · exact hj
  · cases hj
theorem Row.lies {g : Nat} {t : TypeId} (h : Lies w g t cs) : Row w (some ⟨g, 0, none⟩) cs := fun _ => ⟨g, 0, rfl, h.lt, fun j v hj => by rw [Nat.zero_add, h.cell j]; exact hj⟩
theorem Row.own {base : Nat} {e : TypeId} {size n c : Nat} (h : w.ownsRow base e size (.slice A n c) n cs) : Row w A cs := fun hp => by
  have hl := h.1
  rcases h.2 with ⟨e, h0⟩ | ⟨g, cap, cur, e, _, hh, _⟩
  · rw [h0, Nat.zero_mul] at hl; omega
  · have hA : A = some ⟨g, 0, none⟩ := by simpa using congrArg (fun v => match v with | Value.slice a _ _ => a | _ => none) e
    subst hA
    refine ⟨g, 0, rfl, (Array.getElem?_eq_some_iff.1 hh).1, fun j v hj => ?_⟩
    have := h.cells (g := g) rfl j v hj
    rwa [Addr.add_lit] at this
end

end Go.Proofs.Ythklgpflaghojaa
