/-
  From the rows' reading of keys and rotations to what the walks ask.
-/
import Derived.Test.YthklgpflaghojaaGreatDoorYRowW
import Derived.Test.YthklgpflaghojaaGreatDoorYC
namespace Go.Proofs.YthklgpflaghojaaGreatDoor
open Go.ChangeShapes Go.WideShapes Go.ChangeAt Go.RowKit


section
variable {H : Type} {enc : TypeId × Value → H} {W : World} {base : Nat} {spare : Nat → Bool} {held : Bool}
theorem flatk_at (k : Nat) : ∀ (vs : List Value), (∀ v ∈ vs, (jcells v).length = k) → ∀ (i j : Nat) (v : Value), vs[i]? = some v → j < k → (vs.flatMap jcells)[i * k + j]? = (jcells v)[j]?
  | [], _, i, j, v, h, _ => by simp at h
  | a :: r, hl, 0, j, v, h, hj => by
    simp at h
    subst h
    rw [List.flatMap_cons, List.getElem?_append_left (by have := hl a (by simp); omega)]
    simp
  | a :: r, hl, i + 1, j, v, h, hj => by
    have ha := hl a (by simp)
    rw [List.flatMap_cons, List.getElem?_append_right (by rw [ha, Nat.succ_mul]; omega), show (i + 1) * k + j - (jcells a).length = i * k + j from by rw [ha, Nat.succ_mul]; omega]
    exact flatk_at k r (fun v hv => hl v (by simp [hv])) i j v (by simpa using h) hj
set_option maxRecDepth 100000 in
/-- A row of structs that came in, of k cells each. -/
theorem rows_trod {α : Type} (t e : TypeId) (ht : Tryz.prog.underlying t = some (.slice e)) (k B : Nat) (hk : Tryz.prog.cellsOf e = k) (hk0 : 0 < k) (hB : Tryz.prog.bytesOf e = B) (R : Value → α → Prop) (x0 : α)
    (hel : ∀ (fuel : Nat) (cs : List Value) (d : DataW H) (p : List MemPlace), DataW.trod enc Tryz.prog W base spare held fuel e cs = some (d, p) → (∀ n ∈ d.weights Tryz.prog e, n ≤ reachBytes) → ∃ v x, jcells v = cs ∧ R v x)
    {fuel : Nat} {cs : List Value} {d : DataW H} {p : List MemPlace} (h : DataW.trod enc Tryz.prog W base spare held fuel t cs = some (d, p)) (hw : ∀ n ∈ d.weights Tryz.prog t, n ≤ reachBytes) :
    ∃ (v : Value) (l : List α) (vs : List Value), cs = [v] ∧ SlIs W (fun _ => True) v l.length (vs.flatMap jcells) ∧ vs.length = l.length ∧ l.length * B ≤ 140737488355328 ∧ ∀ (i : Nat) v (x : α), vs[i]? = some v → l[i]? = some x → R v x := by
  rcases DataW.trod_slice ht h with ⟨rfl, _⟩ | ⟨a, len, cap, elems, rest, m', hm', rfl, hx, _, hl, hm, hlen, hels, _⟩
  · exact ⟨_, [], [], rfl, SlIs.nil _ _, rfl, by simp, fun i v x e => by simp at e⟩
  have hd5 : d = .slice (elems.map (·.1)) (rest.map (·.1)) := by simpa using congrArg Prod.fst hx
  subst hd5
  obtain ⟨w51, w52⟩ := weights_slice ht hw
  rw [hB] at w51
  simp only [List.length_map] at w51
  have each : ∀ i, i < len → ∃ q : Value × α, (∀ j x, (jcells q.1)[j]? = some x → W.cell? (a.add (i * k + j)) = some x) ∧ (jcells q.1).length = k ∧ R q.1 q.2 := by
    intro i hi
    have he := hels i hi
    rw [hk] at he
    have hei : elems[i]? = some (elems[i]'(by omega)) := List.getElem?_eq_getElem (by omega)
    rw [hei, Option.bind_eq_some_iff] at he
    obtain ⟨c1, hc, ht⟩ := he
    obtain ⟨v, x, hv, hJ⟩ := hel m' c1 (elems[i]'(by omega)).1 (elems[i]'(by omega)).2 ht (w52 _ (List.mem_map.2 ⟨_, List.getElem_mem (by omega), rfl⟩))
    obtain ⟨_, hcl, hcell⟩ := World.cells?_some hc
    refine ⟨(v, x), fun j y hj => ?_, by rw [hv, hcl], hJ⟩
    have hj6 : j < k := by
      have := (List.getElem?_eq_some_iff.1 hj).1
      rw [hv, hcl] at this
      exact this
    have := hcell j hj6
    rw [Deep.add_add] at this
    rw [this, ← hv]
    exact hj
  have inh : Inhabited (Value × α) := ⟨(.nilIface, x0)⟩
  obtain ⟨Q, hQ⟩ := Deep.choose_lt each
  have hvl : ((List.range len).map fun i => (Q i).1).length = len := by simp
  have hll : ((List.range len).map fun i => (Q i).2).length = len := by simp
  have hget : ∀ i, i < len → ((List.range len).map fun i => (Q i).1)[i]? = some (Q i).1 := fun i hi => by simp [hi]
  have hget2 : ∀ i, i < len → ((List.range len).map fun i => (Q i).2)[i]? = some (Q i).2 := fun i hi => by simp [hi]
  have h6 : ∀ v ∈ (List.range len).map fun i => (Q i).1, (jcells v).length = k := fun v hv => by
    obtain ⟨i, hi, rfl⟩ := List.mem_map.1 hv
    exact (hQ i (List.mem_range.1 hi)).2.1
  have hrs := reach_small
  have hlb : len * B ≤ 140737488355328 := by
    have h1 : len * B ≤ (elems.length + rest.length) * B := Nat.mul_le_mul_right _ (by omega)
    omega
  refine ⟨.slice (some a) len cap, (List.range len).map fun i => (Q i).2, (List.range len).map fun i => (Q i).1, rfl, ?_, by rw [hvl, hll], by rw [hll]; exact hlb, ?_⟩
  · rw [hll]
    refine ⟨some a, cap, rfl, hl, by unfold maxLen at hm; omega, fun h0 => ?_⟩
    obtain ⟨bb, off, spot⟩ := a
    have hc0 : ∃ x, W.cell? ((⟨bb, off, spot⟩ : Addr).add (0 * k + 0)) = some x := by
      have hlen6 := (hQ 0 h0).2.1
      exact ⟨_, (hQ 0 h0).1 0 _ (List.getElem?_eq_getElem (by omega))⟩
    obtain ⟨x0, hx0⟩ := hc0
    have hspot : spot = none := by
      have := World.cell?_spot hx0
      simpa [Addr.add] using this
    subst hspot
    rw [Addr.add_lit] at hx0
    refine ⟨bb, off, rfl, trivial, World.block_lt_of_cell? _ _ hx0, fun j x hj => ?_⟩
    have hflat : (((List.range len).map fun i => (Q i).1).flatMap jcells).length = len * k := by
      rw [List.length_flatMap]
      have : ((List.range len).map fun i => (Q i).1).map (fun v => (jcells v).length) = List.replicate len k := by
        apply List.ext_getElem
        · simp
        · intro i h1 h2
          simp at h1
          simp [(hQ i h1).2.1]
      rw [this]
      simp
    have hj2 : j < len * k := by
      have := (List.getElem?_eq_some_iff.1 hj).1
      rw [hflat] at this
      exact this
    have hq : j / k < len := Nat.div_lt_of_lt_mul (by rw [Nat.mul_comm]; exact hj2)
    have hfa := flatk_at k _ h6 (j / k) (j % k) _ (hget _ hq) (Nat.mod_lt _ hk0)
    have hjk : j / k * k + j % k = j := by rw [Nat.mul_comm]; exact Nat.div_add_mod j k
    rw [hjk, hj] at hfa
    have := (hQ (j / k) hq).1 (j % k) x hfa.symm
    rw [hjk, Addr.add_lit] at this
    exact this
  · intro i v x e1 e2
    have hi : i < len := by
      have := (List.getElem?_eq_some_iff.1 e1).1
      rw [hvl] at this
      exact this
    rw [hget i hi] at e1
    rw [hget2 i hi] at e2
    injection e1 with e1
    injection e2 with e2
    subst e1 e2
    exact (hQ i hi).2.2
set_option maxRecDepth 100000 in
theorem fields_key : ∃ fs : Array Field, Tryz.prog.underlying 37 = some (.struct fs) ∧ fs.size = 4 ∧ fs.toList.map (fun f => (f.type, f.offset)) = [(9, 0), (27, 1), (3, 2), (3, 3)] :=
  ⟨_, Tryz.underlying37, by kernel_rfl, by kernel_rfl⟩
theorem cells_key : Tryz.prog.cellsOf 9 = 1 ∧ Tryz.prog.cellsOf 27 = 1 ∧ Tryz.prog.cellsOf 3 = 1 ∧ Tryz.prog.cellsOf 37 = 4 := by
  refine ⟨?_, ?_, ?_, ?_⟩ <;> kernel_rfl
/-- What a key that came in is. -/
def KeyIn (W : World) (v : Value) (x : Kq.K) : Prop := (∃ a, v = .agg a) ∧ IsK W (fun _ => True) v x ∧ x.secret.length ≤ 140737488353000
set_option maxRecDepth 100000 in
theorem key_trod (fuel : Nat) (cs : List Value) (d : DataW H) (p : List MemPlace) (hf : DataW.trod enc Tryz.prog W base spare held fuel 37 cs = some (d, p)) (hw : ∀ n ∈ d.weights Tryz.prog 37, n ≤ reachBytes) :
    ∃ v x, jcells v = cs ∧ KeyIn W v x := by
  obtain ⟨fs, hu, hsz, hfs⟩ := fields_key
  obtain ⟨xs, m, _, hx, hcl, hxl, hall⟩ := DataW.trod_struct hu hf
  obtain ⟨k1, k2, k3, k4⟩ := cells_key
  rw [k4] at hcl
  rw [hsz] at hxl
  have hfi : ∀ (i : Nat) t o, [(9, 0), (27, 1), (3, 2), (3, 3)][i]? = some (t, o) → ∃ f, fs[i]? = some f ∧ f.type = t ∧ f.offset = o := fun i t o hi => by
    rw [← hfs, List.getElem?_map] at hi
    obtain ⟨f, hf, e⟩ := Option.map_eq_some_iff.1 hi
    rw [Array.getElem?_toList] at hf
    injection e with e1 e2
    exact ⟨f, hf, e1, e2⟩
  match xs, hxl, cs, hcl with
  | [x0, x1, x2, x3], _, [v0, v1, v2, v3], _ =>
    have g : ∀ (i : Nat) t o, [(9, 0), (27, 1), (3, 2), (3, 3)][i]? = some (t, o) → DataW.trod enc Tryz.prog W base spare held m t (([v0, v1, v2, v3].drop o).take (Tryz.prog.cellsOf t)) = [x0, x1, x2, x3][i]? := fun i t o hi => by
      obtain ⟨f, h1, h2, h3⟩ := hfi i t o hi
      have := hall i f h1
      rw [h2, h3] at this
      exact this
    have g0 := g 0 _ _ rfl
    have g1 := g 1 _ _ rfl
    have g2 := g 2 _ _ rfl
    have g3 := g 3 _ _ rfl
    rw [k1] at g0
    rw [k2] at g1
    rw [k3] at g2 g3
    have hd : d = .agg [x0.1, x1.1, x2.1, x3.1] := by simpa using congrArg Prod.fst hx
    subst hd
    have e : (DataW.agg [x0.1, x1.1, x2.1, x3.1]).weights Tryz.prog 37 = x0.1.weights Tryz.prog 9 ++ (x1.1.weights Tryz.prog 27 ++ (x2.1.weights Tryz.prog 3 ++ (x3.1.weights Tryz.prog 3 ++ []))) := by
      simp only [DataW.weights, Tryz.underlying37]
      rfl
    rw [e] at hw
    obtain ⟨s0, e0, _, _⟩ := DataW.trod_string Tryz.underlying9 g0
    obtain ⟨A, c, q, e1, hA, hq⟩ := bytes_trod (d := x1.1) (p := x1.2) g1 (fun n hn => hw n (by simp [hn]))
    obtain ⟨n2, e2, _, w2⟩ := DataW.trod_int Tryz.underlying3 g2
    obtain ⟨n3, e3, _, w3⟩ := DataW.trod_int Tryz.underlying3 g3
    injection e0 with e0 _
    injection e1 with e1 _
    injection e2 with e2 _
    injection e3 with e3 _
    subst e0 e1 e2 e3
    exact ⟨kv s0 (.slice A q.length c) n2 n3, ⟨s0, q, n2, n3⟩, rfl, ⟨_, rfl⟩, ⟨A, c, rfl, argIs_slIs hA, ⟨Nat.le_trans hq (by decide), hA.2.2.1⟩, wf_i64_of w2, wf_i64_of w3⟩, hq⟩
set_option maxRecDepth 100000 in
/-- A key that came in as an argument. -/
theorem key_open {b0 : Nat} {r : Reach} {v : Value} {d : DataW H} {p : List MemPlace} (hv : Value.okWide Tryz.prog W r b0 37 v) (h : DataW.Trod enc Tryz.prog W base spare held 37 v d p) (hw : ∀ n ∈ d.weights Tryz.prog 37, n ≤ reachBytes) :
    ∃ x, KeyIn W v x := by
  obtain ⟨cs, rfl, _⟩ := okWide_struct Tryz.underlying37 hv
  obtain ⟨fuel, hf⟩ := h
  obtain ⟨u, x, hu, ⟨a, rfl⟩, hJ⟩ := key_trod fuel _ _ _ hf hw
  have : a = cs := Array.toList_inj.1 hu
  rw [← this]
  exact ⟨x, ⟨a, rfl⟩, hJ⟩
theorem bytes_turn : Tryz.prog.bytesOf 45 = 64 := by kernel_rfl
theorem cells_turn : Tryz.prog.cellsOf 45 = 5 := by kernel_rfl
set_option maxRecDepth 100000 in
theorem fields_turn : ∃ fs : Array Field, Tryz.prog.underlying 45 = some (.struct fs) ∧ fs.size = 2 ∧ fs.toList.map (fun f => (f.type, f.offset)) = [(37, 0), (3, 4)] :=
  ⟨_, Tryz.underlying45, by kernel_rfl, by kernel_rfl⟩
set_option maxRecDepth 100000 in
theorem turn_trod (fuel : Nat) (cs : List Value) (d : DataW H) (p : List MemPlace) (hf : DataW.trod enc Tryz.prog W base spare held fuel 45 cs = some (d, p)) (hw : ∀ n ∈ d.weights Tryz.prog 45, n ≤ reachBytes) :
    ∃ v x, jcells v = cs ∧ IsTn W (fun _ => True) v x := by
  obtain ⟨fs, hu, hsz, hfs⟩ := fields_turn
  obtain ⟨xs, m, _, hx, hcl, hxl, hall⟩ := DataW.trod_struct hu hf
  obtain ⟨k1, k2, k3, k4⟩ := cells_key
  rw [cells_turn] at hcl
  rw [hsz] at hxl
  have hfi : ∀ (i : Nat) t o, [(37, 0), (3, 4)][i]? = some (t, o) → ∃ f, fs[i]? = some f ∧ f.type = t ∧ f.offset = o := fun i t o hi => by
    rw [← hfs, List.getElem?_map] at hi
    obtain ⟨f, hf, e⟩ := Option.map_eq_some_iff.1 hi
    rw [Array.getElem?_toList] at hf
    injection e with e1 e2
    exact ⟨f, hf, e1, e2⟩
  match xs, hxl, cs, hcl with
  | [x0, x1], _, [v0, v1, v2, v3, v4], _ =>
    have g : ∀ (i : Nat) t o, [(37, 0), (3, 4)][i]? = some (t, o) → DataW.trod enc Tryz.prog W base spare held m t (([v0, v1, v2, v3, v4].drop o).take (Tryz.prog.cellsOf t)) = [x0, x1][i]? := fun i t o hi => by
      obtain ⟨f, h1, h2, h3⟩ := hfi i t o hi
      have := hall i f h1
      rw [h2, h3] at this
      exact this
    have g0 := g 0 _ _ rfl
    have g1 := g 1 _ _ rfl
    rw [k4] at g0
    rw [k3] at g1
    have hd : d = .agg [x0.1, x1.1] := by simpa using congrArg Prod.fst hx
    subst hd
    have e : (DataW.agg [x0.1, x1.1]).weights Tryz.prog 45 = x0.1.weights Tryz.prog 37 ++ (x1.1.weights Tryz.prog 3 ++ []) := by
      simp only [DataW.weights, Tryz.underlying45]
      rfl
    rw [e] at hw
    obtain ⟨u, x, hu, ⟨a, rfl⟩, hK, _⟩ := key_trod _ _ x0.1 x0.2 g0 (fun n hn => hw n (by simp [hn]))
    obtain ⟨n1, e1, _, w1⟩ := DataW.trod_int Tryz.underlying3 g1
    injection e1 with e1 _
    subst e1
    obtain ⟨A, c, ek, hk⟩ := hK
    rw [ek] at hu
    have hu : [Value.string x.id, .slice A x.secret.length c, .int .i64 x.made, .int .i64 x.ends] = [v0, v1, v2, v3] := hu
    injection hu with f0 hu
    injection hu with f1 hu
    injection hu with f2 hu
    injection hu with f3 _
    subst f0 f1 f2 f3
    exact ⟨tnv x.id (.slice A x.secret.length c) x.made x.ends n1, (x, n1), rfl, A, c, rfl, ⟨A, c, rfl, hk⟩, wf_i64_of w1⟩
set_option maxRecDepth 100000 in
/-- A row of rotations that came in as an argument. -/
theorem turns_open {b0 : Nat} {r : Reach} {v : Value} {d : DataW H} {p : List MemPlace} (hv : Value.okWide Tryz.prog W r b0 38 v) (h : DataW.Trod enc Tryz.prog W base spare held 38 v d p) (hw : ∀ n ∈ d.weights Tryz.prog 38, n ≤ reachBytes) :
    ∃ A c l, v = .slice A l.length c ∧ TsIs W (fun _ => True) (.slice A l.length c) l := by
  obtain ⟨a, n, c, rfl⟩ := okWide_slice Tryz.underlying38 hv
  obtain ⟨fuel, hf⟩ := h
  obtain ⟨v, l, vs, e, hS, h1, h2, h3⟩ := rows_trod (enc := enc) (W := W) (base := base) (spare := spare) (held := held) 38 45 Tryz.underlying38 5 64 cells_turn (by decide) bytes_turn (IsTn W (fun _ => True)) (⟨ByteArray.empty, [], 0, 0⟩, 0) turn_trod hf hw
  obtain ⟨A, c', rfl⟩ := hS.form
  simp [Value.cells] at e
  obtain ⟨rfl, rfl, rfl⟩ := e
  exact ⟨_, _, l, rfl, vs, hS, h1, h2, h3⟩
end
end Go.Proofs.YthklgpflaghojaaGreatDoor
