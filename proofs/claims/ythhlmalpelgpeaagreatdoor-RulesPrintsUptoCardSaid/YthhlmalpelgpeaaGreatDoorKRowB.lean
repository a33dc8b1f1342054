/-
  From the rows' reading to nodes and rules in memory.
-/
import Derived.Test.YthhlmalpelgpeaaGreatDoorCards
import Derived.Test.YthhlmalpelgpeaaGreatDoorTie
import Derived.Test.YthhlmalpelgpeaaGreatDoorG21
import Derived.ProofKit
import Derived.OpenShut
import Derived.SizedLaws
import Derived.Deep.DeepHandedRow
import Derived.Deep.Slices
import Derived.Lib.LaidU8
import Derived.Lib.SmallJoins
namespace Go.Proofs.YthhlmalpelgpeaaGreatDoor
open Go.ChangeShapes Go.WideShapes Go.ChangeAt Go.RowKit


theorem own : ownKnob Tryz.prog.godebug = none := by kernel_rfl
theorem laidOut : laidOutB Tryz.prog = true := by kernel_rfl
/-- What a bound on the bulk of all that is read says of one value. -/
theorem bulk_pos {H : Type} (d : DataW H) : 0 < Rows.uptoBulk d := by
  cases d with
  | lit l => cases l <;> simp [Rows.uptoBulk]
  | _ => simp [Rows.uptoBulk]
theorem bulk_count {H : Type} (l : List (DataW H)) : l.length ≤ Rows.uptoBulkAll l := by
  induction l with
  | nil => exact Nat.zero_le _
  | cons d r ih => have := bulk_pos d; simp only [Rows.uptoBulkAll, List.length_cons]; omega
theorem bulk_mem {H : Type} {d : DataW H} {l : List (DataW H)} (h : d ∈ l) : Rows.uptoBulk d ≤ Rows.uptoBulkAll l := by
  induction l with
  | nil => cases h
  | cons x r ih =>
    simp only [Rows.uptoBulkAll]
    rcases List.mem_cons.1 h with rfl | h'
    · omega
    · have := ih h'; omega
theorem bulk_of {H : Type} {d : DataW H} {l : List (DataW H)} (hk : Rows.uptoSmall H l = true) (h : d ∈ l) : Rows.uptoBulk d ≤ 1048576 :=
  Nat.le_trans (bulk_mem h) (of_decide_eq_true hk)
theorem bulk_slice {H : Type} {es sp : List (DataW H)} {n : Nat} (h : Rows.uptoBulk (.slice es sp) ≤ n) : es.length + sp.length ≤ n := by
  have h1 := bulk_count es
  have h2 := bulk_count sp
  simp only [Rows.uptoBulk] at h
  omega
/-- A block with other cells. -/
def relaid (cs : Array Value) : Obj → Obj
  | .cells _ t frozen => .cells cs t frozen
  | o => o
theorem reach_small : reachBytes ≤ 140737488355328 := by decide
theorem wf_i64_of {k : Int} (h : (Lit.int .i64 k).wf = true) : -9223372036854775808 ≤ k ∧ k ≤ 9223372036854775807 := by
  simp only [Lit.wf, Bool.and_eq_true, decide_eq_true_eq] at h
  have e1 : IntKind.min .i64 = -9223372036854775808 := by decide
  have e2 : IntKind.max .i64 = 9223372036854775807 := by decide
  rw [e1, e2] at h
  exact h
section
variable {H : Type} {enc : TypeId × Value → H} {W : World} {base : Nat} {spare : Nat → Bool} {held : Bool}
theorem weights_mem {e : TypeId} {d : DataW H} {l : List (DataW H)} (h : d ∈ l) : ∀ n ∈ d.weights Tryz.prog e, n ∈ DataW.weightsAll Tryz.prog e l := by
  induction l with
  | nil => cases h
  | cons x r ih =>
    intro n hn
    simp only [DataW.weightsAll, List.mem_append]
    rcases List.mem_cons.1 h with rfl | h'
    · exact .inl hn
    · exact .inr (ih h' n hn)
/-- What the weights of a slice say of its own size, and of its elements. -/
theorem weights_slice {t e : TypeId} (ht : Tryz.prog.underlying t = some (.slice e)) {es sp : List (DataW H)} (h : ∀ n ∈ (DataW.slice es sp).weights Tryz.prog t, n ≤ reachBytes) :
    (es.length + sp.length) * Tryz.prog.bytesOf e ≤ reachBytes ∧ ∀ d ∈ es, ∀ n ∈ d.weights Tryz.prog e, n ≤ reachBytes := by
  simp only [DataW.weights, ht] at h
  exact ⟨h _ (by simp), fun d hd n hn => h n (by simp [weights_mem hd n hn])⟩
theorem flatk_at (k : Nat) : ∀ (vs : List Value), (∀ v ∈ vs, (jcells v).length = k) → ∀ (i j : Nat) (v : Value), vs[i]? = some v → j < k → (vs.flatMap jcells)[i * k + j]? = (jcells v)[j]?
  | [], _, i, j, v, h, _ => by simp at h
  | a :: r, hl, 0, j, v, h, hj => by
    simp at h
    subst h
    rw [List.flatMap_cons, List.getElem?_append_left (by have := hl a (by simp); omega)]
    simp
  | a :: r, hl, i + 1, j, v, h, hj => by
    have ha := hl a (by simp)
    rw [List.flatMap_cons, List.getElem?_append_right (by rw [ha, Nat.succ_mul]; omega), show (i + 1) * k + j - (jcells a).length = i * k + j from by rw [ha, Nat.succ_mul]; omega]
    exact flatk_at k r (fun v hv => hl v (by simp [hv])) i j v (by simpa using h) hj
set_option maxRecDepth 100000 in
/-- A row of structs that came in, of k cells each. -/
theorem rowsS_trod {α : Type} (t e : TypeId) (ht : Tryz.prog.underlying t = some (.slice e)) (k B : Nat) {M : Nat} (hk : Tryz.prog.cellsOf e = k) (hk0 : 0 < k) (SZ : TypeId → DataW H → Prop) (hsl : ∀ es sp, SZ t (.slice es sp) → es.length * B ≤ M ∧ ∀ d ∈ es, SZ e d) (R : Value → α → Prop) (x0 : α)
    (hel : ∀ (fuel : Nat) (cs : List Value) (d : DataW H) (p : List MemPlace), DataW.trod enc Tryz.prog W base spare held fuel e cs = some (d, p) → SZ e d → ∃ v x, jcells v = cs ∧ R v x)
    {fuel : Nat} {cs : List Value} {d : DataW H} {p : List MemPlace} (h : DataW.trod enc Tryz.prog W base spare held fuel t cs = some (d, p)) (hw : SZ t d) :
    ∃ (v : Value) (l : List α) (vs : List Value), cs = [v] ∧ SlIs W (fun _ => True) v l.length (vs.flatMap jcells) ∧ vs.length = l.length ∧ l.length * B ≤ M ∧ ∀ (i : Nat) v (x : α), vs[i]? = some v → l[i]? = some x → R v x := by
  rcases DataW.trod_slice ht h with ⟨rfl, _⟩ | ⟨a, len, cap, elems, rest, m', hm', rfl, hx, _, hl, hm, hlen, hels, _⟩
  · exact ⟨_, [], [], rfl, SlIs.nil _ _, rfl, by simp, fun i v x e => by simp at e⟩
  have hd5 : d = .slice (elems.map (·.1)) (rest.map (·.1)) := by simpa using congrArg Prod.fst hx
  subst hd5
  obtain ⟨w51, w52⟩ := hsl _ _ hw
  simp only [List.length_map] at w51
  have each : ∀ i, i < len → ∃ q : Value × α, (∀ j x, (jcells q.1)[j]? = some x → W.cell? (a.add (i * k + j)) = some x) ∧ (jcells q.1).length = k ∧ R q.1 q.2 := by
    intro i hi
    have he := hels i hi
    rw [hk] at he
    have hei : elems[i]? = some (elems[i]'(by omega)) := List.getElem?_eq_getElem (by omega)
    rw [hei, Option.bind_eq_some_iff] at he
    obtain ⟨c1, hc, ht⟩ := he
    obtain ⟨v, x, hv, hJ⟩ := hel m' c1 (elems[i]'(by omega)).1 (elems[i]'(by omega)).2 ht (w52 _ (List.mem_map.2 ⟨_, List.getElem_mem (by omega), rfl⟩))
    obtain ⟨_, hcl, hcell⟩ := World.cells?_some hc
    refine ⟨(v, x), fun j y hj => ?_, by rw [hv, hcl], hJ⟩
    have hj6 : j < k := by
      have := (List.getElem?_eq_some_iff.1 hj).1
      rw [hv, hcl] at this
      exact this
    have := hcell j hj6
    rw [Deep.add_add] at this
    rw [this, ← hv]
    exact hj
  have inh : Inhabited (Value × α) := ⟨(.nilIface, x0)⟩
  obtain ⟨Q, hQ⟩ := Deep.choose_lt each
  have hvl : ((List.range len).map fun i => (Q i).1).length = len := by simp
  have hll : ((List.range len).map fun i => (Q i).2).length = len := by simp
  have hget : ∀ i, i < len → ((List.range len).map fun i => (Q i).1)[i]? = some (Q i).1 := fun i hi => by simp [hi]
  have hget2 : ∀ i, i < len → ((List.range len).map fun i => (Q i).2)[i]? = some (Q i).2 := fun i hi => by simp [hi]
  have h6 : ∀ v ∈ (List.range len).map fun i => (Q i).1, (jcells v).length = k := fun v hv => by
    obtain ⟨i, hi, rfl⟩ := List.mem_map.1 hv
    exact (hQ i (List.mem_range.1 hi)).2.1
  have hlb : len * B ≤ M := by rw [← hlen]; exact w51
  refine ⟨.slice (some a) len cap, (List.range len).map fun i => (Q i).2, (List.range len).map fun i => (Q i).1, rfl, ?_, by rw [hvl, hll], by rw [hll]; exact hlb, ?_⟩
  · rw [hll]
    refine ⟨some a, cap, rfl, hl, by unfold maxLen at hm; omega, fun h0 => ?_⟩
    obtain ⟨bb, off, spot⟩ := a
    have hc0 : ∃ x, W.cell? ((⟨bb, off, spot⟩ : Addr).add (0 * k + 0)) = some x := by
      have hlen6 := (hQ 0 h0).2.1
      exact ⟨_, (hQ 0 h0).1 0 _ (List.getElem?_eq_getElem (by omega))⟩
    obtain ⟨x0, hx0⟩ := hc0
    have hspot : spot = none := by
      have := World.cell?_spot hx0
      simpa [Addr.add] using this
    subst hspot
    rw [Addr.add_lit] at hx0
    refine ⟨bb, off, rfl, trivial, World.block_lt_of_cell? _ _ hx0, fun j x hj => ?_⟩
    have hflat : (((List.range len).map fun i => (Q i).1).flatMap jcells).length = len * k := by
      rw [List.length_flatMap]
      have : ((List.range len).map fun i => (Q i).1).map (fun v => (jcells v).length) = List.replicate len k := by
        apply List.ext_getElem
        · simp
        · intro i h1 h2
          simp at h1
          simp [(hQ i h1).2.1]
      rw [this]
      simp
    have hj2 : j < len * k := by
      have := (List.getElem?_eq_some_iff.1 hj).1
      rw [hflat] at this
      exact this
    have hq : j / k < len := Nat.div_lt_of_lt_mul (by rw [Nat.mul_comm]; exact hj2)
    have hfa := flatk_at k _ h6 (j / k) (j % k) _ (hget _ hq) (Nat.mod_lt _ hk0)
    have hjk : j / k * k + j % k = j := by rw [Nat.mul_comm]; exact Nat.div_add_mod j k
    rw [hjk, hj] at hfa
    have := (hQ (j / k) hq).1 (j % k) x hfa.symm
    rw [hjk, Addr.add_lit] at this
    exact this
  · intro i v x e1 e2
    have hi : i < len := by
      have := (List.getElem?_eq_some_iff.1 e1).1
      rw [hvl] at this
      exact this
    rw [hget i hi] at e1
    rw [hget2 i hi] at e2
    injection e1 with e1
    injection e2 with e2
    subst e1 e2
    exact (hQ i hi).2.2
/-- What is known of the sizes of what came in. -/
structure SzOk (T : Nat) (SZ : TypeId → DataW H → Prop) : Prop where
  nodes : ∀ es sp, SZ 33 (.slice es sp) → es.length * 48 ≤ 140737488355328 ∧ ∀ d ∈ es, SZ 37 d
  rules : ∀ es sp, SZ 22 (.slice es sp) → es.length * 64 ≤ 140737488355328 ∧ ∀ d ∈ es, SZ 35 d
  node : ∀ a b c d e, SZ 37 (.agg [a, b, c, d, e]) → SZ 9 e
  rule : ∀ a b c, SZ 35 (.agg [a, b, c]) → SZ 9 a ∧ SZ 33 b ∧ SZ 33 c
  text : ∀ l, SZ 9 (.lit (.string l)) → l.length ≤ T
theorem cells_node : Tryz.prog.cellsOf 3 = 1 ∧ Tryz.prog.cellsOf 9 = 1 ∧ Tryz.prog.cellsOf 33 = 1 ∧ Tryz.prog.cellsOf 37 = 5 ∧ Tryz.prog.cellsOf 35 = 3 := by
  refine ⟨?_, ?_, ?_, ?_, ?_⟩ <;> kernel_rfl
theorem bytes_node : Tryz.prog.bytesOf 37 = 48 ∧ Tryz.prog.bytesOf 35 = 64 := by
  refine ⟨?_, ?_⟩ <;> kernel_rfl
def szW (t : TypeId) (d : DataW H) : Prop := ∀ n ∈ d.weights Tryz.prog t, n ≤ reachBytes
set_option maxRecDepth 100000 in
theorem szW_ok : SzOk (H := H) 140737488355328 szW where
  nodes := fun es sp h => by
    obtain ⟨h1, h2⟩ := weights_slice Tryz.underlying33 h
    rw [bytes_node.1] at h1
    have := reach_small
    exact ⟨by have h3 : es.length * 48 ≤ (es.length + sp.length) * 48 := Nat.mul_le_mul_right _ (Nat.le_add_right _ _); omega, h2⟩
  rules := fun es sp h => by
    obtain ⟨h1, h2⟩ := weights_slice Tryz.underlying22 h
    rw [bytes_node.2] at h1
    have := reach_small
    exact ⟨by have h3 : es.length * 64 ≤ (es.length + sp.length) * 64 := Nat.mul_le_mul_right _ (Nat.le_add_right _ _); omega, h2⟩
  node := fun a b c d e h => by
    have w : (DataW.agg [a, b, c, d, e]).weights Tryz.prog 37 = a.weights Tryz.prog 3 ++ (b.weights Tryz.prog 3 ++ (c.weights Tryz.prog 3 ++ (d.weights Tryz.prog 3 ++ (e.weights Tryz.prog 9 ++ [])))) := by
      simp only [DataW.weights, Tryz.underlying37]
      rfl
    unfold szW at h ⊢
    rw [w] at h
    exact fun n hn => h n (by simp [hn])
  rule := fun a b c h => by
    have w : (DataW.agg [a, b, c]).weights Tryz.prog 35 = a.weights Tryz.prog 9 ++ (b.weights Tryz.prog 33 ++ (c.weights Tryz.prog 33 ++ [])) := by
      simp only [DataW.weights, Tryz.underlying35]
      rfl
    unfold szW at h ⊢
    rw [w] at h
    exact ⟨fun n hn => h n (by simp [hn]), fun n hn => h n (by simp [hn]), fun n hn => h n (by simp [hn])⟩
  text := fun l h => by
    have := h l.length (by simp [DataW.weights])
    have := reach_small
    omega
def szB (_ : TypeId) (d : DataW H) : Prop := Rows.uptoBulk d ≤ 1048576
theorem bulk_parts {ds : List (DataW H)} (h : Rows.uptoBulk (.agg ds) ≤ 1048576) {d : DataW H} (hd : d ∈ ds) : Rows.uptoBulk d ≤ 1048576 := by
  have := bulk_mem hd
  simp only [Rows.uptoBulk] at h
  omega
theorem bulk_row {es sp : List (DataW H)} (h : Rows.uptoBulk (.slice es sp) ≤ 1048576) : es.length ≤ 1048576 ∧ ∀ d ∈ es, Rows.uptoBulk d ≤ 1048576 := by
  refine ⟨by have := bulk_slice h; omega, fun d hd => ?_⟩
  have := bulk_mem hd
  simp only [Rows.uptoBulk] at h
  omega
theorem szB_ok : SzOk (H := H) 1048576 szB where
  nodes := fun es sp h => ⟨by have := (bulk_row h).1; omega, (bulk_row h).2⟩
  rules := fun es sp h => ⟨by have := (bulk_row h).1; omega, (bulk_row h).2⟩
  node := fun a b c d e h => bulk_parts h (by simp)
  rule := fun a b c h => ⟨bulk_parts h (by simp), bulk_parts h (by simp), bulk_parts h (by simp)⟩
  text := fun l h => by
    unfold szB at h
    simp only [Rows.uptoBulk] at h
    omega
/-- What is known of a node that came in. -/
def NodeB (T : Nat) (n : Zq.Nd) : Prop := (-9223372036854775808 ≤ n.int ∧ n.int ≤ 9223372036854775807) ∧ (-9223372036854775808 ≤ n.a ∧ n.a ≤ 9223372036854775807) ∧ (-9223372036854775808 ≤ n.b ∧ n.b ≤ 9223372036854775807) ∧ n.text.length ≤ T ∧ ∀ x ∈ n.text, x < 256
def NodesIn (W : World) (T : Nat) (v : Value) (ns : List Zq.Nd) : Prop := NsE W (fun _ => True) v ns ∧ ns.length * 48 ≤ 140737488355328 ∧ ∀ n ∈ ns, NodeB T n
def RuleC (T : Nat) (r : Zq.Rl) : Prop := r.name.length ≤ T ∧ (r.expr.length * 48 ≤ 140737488355328 ∧ r.cond.length * 48 ≤ 140737488355328) ∧ (∀ n ∈ r.expr, NodeB T n) ∧ (∀ n ∈ r.cond, NodeB T n)
def RulesIn (W : World) (T : Nat) (v : Value) (rs : List Zq.Rl) : Prop := RsE W (fun _ => True) v rs ∧ rs.length * 64 ≤ 140737488355328 ∧ ∀ r ∈ rs, RuleC T r
theorem text_of {SZ : TypeId → DataW H → Prop} {T : Nat} (hS : SzOk T SZ) {s : ByteArray} {x : DataW H × List MemPlace} {ps : List MemPlace} (z : x = (.lit (.string s.data.toList), ps)) (h : SZ 9 x.1) : (numsOf s).length ≤ T := by
  have h2 : x.1 = .lit (.string s.data.toList) := congrArg Prod.fst z
  rw [h2] at h
  have := hS.text _ h
  have e : s.data.toList.length = s.size := by rw [Array.length_toList]; rfl
  rw [numsOf_length]
  omega
set_option maxRecDepth 100000 in
theorem fields_node : ∃ fs : Array Field, Tryz.prog.underlying 37 = some (.struct fs) ∧ fs.size = 5 ∧ fs.toList.map (fun f => (f.type, f.offset)) = [(3, 0), (3, 1), (3, 2), (3, 3), (9, 4)] :=
  ⟨_, Tryz.underlying37, by kernel_rfl, by kernel_rfl⟩
set_option maxRecDepth 100000 in
theorem fields_rule : ∃ fs : Array Field, Tryz.prog.underlying 35 = some (.struct fs) ∧ fs.size = 3 ∧ fs.toList.map (fun f => (f.type, f.offset)) = [(9, 0), (33, 1), (33, 2)] :=
  ⟨_, Tryz.underlying35, by kernel_rfl, by kernel_rfl⟩
set_option maxRecDepth 100000 in
theorem node_trod {SZ : TypeId → DataW H → Prop} {T : Nat} (hS : SzOk T SZ) (fuel : Nat) (cs : List Value) (d : DataW H) (p : List MemPlace) (hf : DataW.trod enc Tryz.prog W base spare held fuel 37 cs = some (d, p)) (hw : SZ 37 d) :
    ∃ v x, jcells v = cs ∧ (v = ndv x ∧ NodeB T x) := by
  obtain ⟨fs, hu, hsz, hfs⟩ := fields_node
  obtain ⟨xs, m, _, hx, hcl, hxl, hall⟩ := DataW.trod_struct hu hf
  obtain ⟨k1, k2, _, k4, _⟩ := cells_node
  rw [k4] at hcl
  rw [hsz] at hxl
  have hfi : ∀ (i : Nat) t o, [(3, 0), (3, 1), (3, 2), (3, 3), (9, 4)][i]? = some (t, o) → ∃ f, fs[i]? = some f ∧ f.type = t ∧ f.offset = o := fun i t o hi => by
    rw [← hfs, List.getElem?_map] at hi
    obtain ⟨f, hf, e⟩ := Option.map_eq_some_iff.1 hi
    rw [Array.getElem?_toList] at hf
    injection e with e1 e2
    exact ⟨f, hf, e1, e2⟩
  match xs, hxl, cs, hcl with
  | [x0, x1, x2, x3, x4], _, [v0, v1, v2, v3, v4], _ =>
    have g : ∀ (i : Nat) t o, [(3, 0), (3, 1), (3, 2), (3, 3), (9, 4)][i]? = some (t, o) → DataW.trod enc Tryz.prog W base spare held m t (([v0, v1, v2, v3, v4].drop o).take (Tryz.prog.cellsOf t)) = [x0, x1, x2, x3, x4][i]? := fun i t o hi => by
      obtain ⟨f, h1, h2, h3⟩ := hfi i t o hi
      have := hall i f h1
      rw [h2, h3] at this
      exact this
    have g0 := g 0 _ _ rfl
    have g1 := g 1 _ _ rfl
    have g2 := g 2 _ _ rfl
    have g3 := g 3 _ _ rfl
    have g4 := g 4 _ _ rfl
    rw [k1] at g0 g1 g2 g3
    rw [k2] at g4
    have hd : d = .agg [x0.1, x1.1, x2.1, x3.1, x4.1] := by simpa using congrArg Prod.fst hx
    subst hd
    obtain ⟨o, e0, _, _⟩ := DataW.trod_int Tryz.underlying3 g0
    obtain ⟨i, e1, _, hi⟩ := DataW.trod_int Tryz.underlying3 g1
    obtain ⟨a, e2, _, ha⟩ := DataW.trod_int Tryz.underlying3 g2
    obtain ⟨b, e3, _, hb⟩ := DataW.trod_int Tryz.underlying3 g3
    obtain ⟨s, e4, z4, _⟩ := DataW.trod_string Tryz.underlying9 g4
    have hT := text_of hS z4 (hS.node _ _ _ _ _ hw)
    injection e0 with e0 _
    injection e1 with e1 _
    injection e2 with e2 _
    injection e3 with e3 _
    injection e4 with e4 _
    subst e0 e1 e2 e3 e4
    refine ⟨ndv ⟨o, i, a, b, numsOf s⟩, ⟨o, i, a, b, numsOf s⟩, ?_, rfl, wf_i64_of hi, wf_i64_of ha, wf_i64_of hb, hT, numsOf_lt s⟩
    simp only [jcells, strOf_numsOf]
theorem flat_nodes : ∀ (vs : List Value) (ns : List Zq.Nd), vs.length = ns.length → (∀ (i : Nat) v x, vs[i]? = some v → ns[i]? = some x → v = ndv x) → vs.flatMap jcells = ncells ns
  | [], [], _, _ => rfl
  | v :: vs, n :: ns, hl, h => by
    have h0 := h 0 v n rfl rfl
    have ih := flat_nodes vs ns (by simpa using hl) (fun i v x e1 e2 => h (i + 1) v x (by simpa using e1) (by simpa using e2))
    have e : ncells (n :: ns) = ncell n ++ ncells ns := rfl
    rw [List.flatMap_cons, ih, e, h0]
    rfl
/-- Nodes that came in. -/
theorem nodes_trod {SZ : TypeId → DataW H → Prop} {T : Nat} (hS : SzOk T SZ) {fuel : Nat} {cs : List Value} {d : DataW H} {p : List MemPlace} (h : DataW.trod enc Tryz.prog W base spare held fuel 33 cs = some (d, p)) (hw : SZ 33 d) :
    ∃ v ns, cs = [v] ∧ NodesIn W T v ns := by
  obtain ⟨v, ns, vs, hcs, hs, hl, hb, hr⟩ := rowsS_trod 33 37 Tryz.underlying33 5 48 cells_node.2.2.2.1 (by decide) SZ hS.nodes (fun v x => v = ndv x ∧ NodeB T x) ⟨0, 0, 0, 0, []⟩ (fun fuel cs d p h1 h2 => node_trod hS fuel cs d p h1 h2) h hw
  obtain ⟨A, c, e, h1, h2, h3⟩ := hs
  have hN : ∀ n ∈ ns, NodeB T n := fun n hn => by
    obtain ⟨i, hi⟩ := List.getElem?_of_mem hn
    have hlt := (List.getElem?_eq_some_iff.1 hi).1
    exact (hr i (vs[i]'(by omega)) n (List.getElem?_eq_getElem (by omega)) hi).2
  rw [flat_nodes vs ns hl (fun i v x e1 e2 => (hr i v x e1 e2).1)] at h3
  exact ⟨v, ns, hcs, ⟨A, c, e, h1, h2, fun n hn => (hN n hn).2.2.2.2, h3⟩, hb, hN⟩
/-- What is known of a rule that came in, at its cells. -/
def RuleIn (W : World) (T : Nat) (v : Value) (r : Zq.Rl) : Prop := ∃ v1 v2, v = .agg #[.string (strOf r.name), v1, v2] ∧ (∀ x ∈ r.name, x < 256) ∧ NsE W (fun _ => True) v1 r.expr ∧ NsE W (fun _ => True) v2 r.cond ∧ RuleC T r
set_option maxRecDepth 100000 in
theorem rule_trod {SZ : TypeId → DataW H → Prop} {T : Nat} (hS : SzOk T SZ) (fuel : Nat) (cs : List Value) (d : DataW H) (p : List MemPlace) (hf : DataW.trod enc Tryz.prog W base spare held fuel 35 cs = some (d, p)) (hw : SZ 35 d) :
    ∃ v x, jcells v = cs ∧ RuleIn W T v x := by
  obtain ⟨fs, hu, hsz, hfs⟩ := fields_rule
  obtain ⟨xs, m, _, hx, hcl, hxl, hall⟩ := DataW.trod_struct hu hf
  obtain ⟨_, k2, k3, _, k5⟩ := cells_node
  rw [k5] at hcl
  rw [hsz] at hxl
  have hfi : ∀ (i : Nat) t o, [(9, 0), (33, 1), (33, 2)][i]? = some (t, o) → ∃ f, fs[i]? = some f ∧ f.type = t ∧ f.offset = o := fun i t o hi => by
    rw [← hfs, List.getElem?_map] at hi
    obtain ⟨f, hf, e⟩ := Option.map_eq_some_iff.1 hi
    rw [Array.getElem?_toList] at hf
    injection e with e1 e2
    exact ⟨f, hf, e1, e2⟩
  match xs, hxl, cs, hcl with
  | [x0, x1, x2], _, [v0, v1, v2], _ =>
    have g : ∀ (i : Nat) t o, [(9, 0), (33, 1), (33, 2)][i]? = some (t, o) → DataW.trod enc Tryz.prog W base spare held m t (([v0, v1, v2].drop o).take (Tryz.prog.cellsOf t)) = [x0, x1, x2][i]? := fun i t o hi => by
      obtain ⟨f, h1, h2, h3⟩ := hfi i t o hi
      have := hall i f h1
      rw [h2, h3] at this
      exact this
    have g0 := g 0 _ _ rfl
    have g1 := g 1 _ _ rfl
    have g2 := g 2 _ _ rfl
    rw [k2] at g0
    rw [k3] at g1 g2
    have hd : d = .agg [x0.1, x1.1, x2.1] := by simpa using congrArg Prod.fst hx
    subst hd
    obtain ⟨w0, w1, w2⟩ := hS.rule _ _ _ hw
    obtain ⟨s, e0, z0, _⟩ := DataW.trod_string Tryz.underlying9 g0
    have g1' : DataW.trod enc Tryz.prog W base spare held m 33 [v1] = some (x1.1, x1.2) := g1
    have g2' : DataW.trod enc Tryz.prog W base spare held m 33 [v2] = some (x2.1, x2.2) := g2
    obtain ⟨u1, n1, e1, i1, l1, b1⟩ := nodes_trod hS g1' w1
    obtain ⟨u2, n2, e2, i2, l2, b2⟩ := nodes_trod hS g2' w2
    have hT := text_of hS z0 w0
    injection e0 with e0 _
    injection e1 with e1 _
    injection e2 with e2 _
    subst e0 e1 e2
    refine ⟨.agg #[.string (strOf (numsOf s)), v1, v2], ⟨numsOf s, n1, n2⟩, ?_, v1, v2, rfl, numsOf_lt s, i1, i2, hT, ⟨l1, l2⟩, b1, b2⟩
    simp only [jcells, strOf_numsOf]
theorem flat_rules : ∀ (vs : List Value) (us : List (List Nat × Value × Value)), vs.length = us.length → (∀ (i : Nat) v u, vs[i]? = some v → us[i]? = some u → v = rlV u) → vs.flatMap jcells = rcells3 us
  | [], [], _, _ => rfl
  | v :: vs, n :: ns, hl, h => by
    have h0 := h 0 v n rfl rfl
    have ih := flat_rules vs ns (by simpa using hl) (fun i v x e1 e2 => h (i + 1) v x (by simpa using e1) (by simpa using e2))
    have e : rcells3 (n :: ns) = rcell n ++ rcells3 ns := rfl
    rw [List.flatMap_cons, ih, e, h0]
    rfl
/-- Rules that came in. -/
theorem rules_trod {SZ : TypeId → DataW H → Prop} {T : Nat} (hS : SzOk T SZ) {fuel : Nat} {cs : List Value} {d : DataW H} {p : List MemPlace} (h : DataW.trod enc Tryz.prog W base spare held fuel 22 cs = some (d, p)) (hw : SZ 22 d) :
    ∃ v rs, cs = [v] ∧ RulesIn W T v rs := by
  obtain ⟨v, rs, vs, hcs, hs, hl, hb, hr⟩ := rowsS_trod 22 35 Tryz.underlying22 3 64 cells_node.2.2.2.2 (by decide) SZ hS.rules (RuleIn W T) ⟨[], [], []⟩ (fun fuel cs d p h1 h2 => rule_trod hS fuel cs d p h1 h2) h hw
  obtain ⟨A, c, e, h1, h2, h3⟩ := hs
  have hR : ∀ r ∈ rs, RuleC T r := fun r hr' => by
    obtain ⟨i, hi⟩ := List.getElem?_of_mem hr'
    have hlt := (List.getElem?_eq_some_iff.1 hi).1
    obtain ⟨_, _, _, _, _, _, h⟩ := hr i (vs[i]'(by omega)) r (List.getElem?_eq_getElem (by omega)) hi
    exact h
  have each : ∀ i, i < rs.length → ∃ u : List Nat × Value × Value, (∀ v, vs[i]? = some v → v = rlV u) ∧ ∀ r, rs[i]? = some r → RlE W (fun _ => True) u r := by
    intro i hi
    have hv : vs[i]? = some (vs[i]'(by omega)) := List.getElem?_eq_getElem (by omega)
    have hx : rs[i]? = some rs[i] := List.getElem?_eq_getElem hi
    obtain ⟨v1, v2, he, hn, n1, n2, _⟩ := hr i _ _ hv hx
    refine ⟨(rs[i].name, v1, v2), fun v e => ?_, fun r e => ?_⟩
    · rw [hv] at e
      injection e with e
      rw [← e, he]
    · rw [hx] at e
      injection e with e
      rw [← e]
      exact ⟨rfl, hn, n1, n2⟩
  have inh : Inhabited (List Nat × Value × Value) := ⟨([], .nilIface, .nilIface)⟩
  obtain ⟨Q, hQ⟩ := Deep.choose_lt each
  have hus : ((List.range rs.length).map Q).length = rs.length := by simp
  have hget : ∀ (i : Nat) u, ((List.range rs.length).map Q)[i]? = some u → i < rs.length ∧ u = Q i := fun i u e => by
    have hi := (List.getElem?_eq_some_iff.1 e).1
    rw [hus] at hi
    refine ⟨hi, ?_⟩
    simp [hi] at e
    exact e.symm
  rw [flat_rules vs ((List.range rs.length).map Q) (by rw [hus, hl]) (fun i v u e1 e2 => by
    obtain ⟨hi, rfl⟩ := hget i u e2
    exact (hQ i hi).1 v e1)] at h3
  exact ⟨v, rs, hcs, ⟨A, c, e, h1, h2, _, hus, fun i u r e1 e2 => by
    obtain ⟨hi, rfl⟩ := hget i u e1
    exact (hQ i hi).2 r e2, h3⟩, hb, hR⟩
set_option maxRecDepth 100000 in
/-- Rules that came in as an argument. -/
theorem rules_open {SZ : TypeId → DataW H → Prop} {T : Nat} (hS : SzOk T SZ) {b0 : Nat} {r : Reach} {v : Value} {d : DataW H} {p : List MemPlace} (hv : Value.okWide Tryz.prog W r b0 22 v) (h : DataW.Trod enc Tryz.prog W base spare held 22 v d p) (hw : SZ 22 d) :
    ∃ A c rs, v = .slice A rs.length c ∧ RulesIn W T (.slice A rs.length c) rs := by
  obtain ⟨a, n, c, rfl⟩ := okWide_slice Tryz.underlying22 hv
  obtain ⟨fuel, hf⟩ := h
  obtain ⟨u, rs, e, hR⟩ := rules_trod hS hf hw
  obtain ⟨A, c', rfl⟩ := hR.1.form
  simp [Value.cells] at e
  obtain ⟨rfl, rfl, rfl⟩ := e
  exact ⟨_, _, rs, rfl, hR⟩
set_option maxRecDepth 100000 in
/-- Nodes that came in as an argument. -/
theorem nodes_open {SZ : TypeId → DataW H → Prop} {T : Nat} (hS : SzOk T SZ) {b0 : Nat} {r : Reach} {v : Value} {d : DataW H} {p : List MemPlace} (hv : Value.okWide Tryz.prog W r b0 33 v) (h : DataW.Trod enc Tryz.prog W base spare held 33 v d p) (hw : SZ 33 d) :
    ∃ A c ns, v = .slice A ns.length c ∧ NodesIn W T (.slice A ns.length c) ns := by
  obtain ⟨a, n, c, rfl⟩ := okWide_slice Tryz.underlying33 hv
  obtain ⟨fuel, hf⟩ := h
  obtain ⟨u, ns, e, hR⟩ := nodes_trod hS hf hw
  obtain ⟨A, c', rfl⟩ := hR.1.form
  simp [Value.cells] at e
  obtain ⟨rfl, rfl, rfl⟩ := e
  exact ⟨_, _, ns, rfl, hR⟩
end
end Go.Proofs.YthhlmalpelgpeaaGreatDoor
