/-
  From the rows' reading to fields and values; what the listed variable holds; a world for the witness.
-/
import Derived.Test.YtgoecghakiihpaaDoorKRowB
import Derived.Test.YtgoecghakiihpaaDoorKFits
import Derived.Test.YtgoecghakiihpaaDoorKNode
import Derived.Lib.LaidTab
import Derived.Stop.LaidErr
import Derived.Stop.ErrReads
namespace Go.Proofs.YtgoecghakiihpaaDoor
open Go.ChangeShapes Go.WideShapes Go.ChangeAt Go.RowKit

theorem bytes_text : Tryd.prog.bytesOf 9 = 16 := by kernel_rfl
theorem bytes_json : Tryd.prog.bytesOf 36 = 88 := by kernel_rfl
section
variable {H : Type} {enc : TypeId × Value → H} {W : World} {base : Nat} {spare : Nat → Bool} {held : Bool}
theorem tcells_at (l : List (List Nat)) (j : Nat) (hj : j < l.length) : (tcells l)[j]? = some (.string ((l.map strOf).getD j ByteArray.empty)) := by
  simp [tcells, List.getElem?_eq_getElem hj, List.getD_eq_getElem?_getD]
/-- Texts that came in. -/
theorem texts_trod {fuel : Nat} {cs : List Value} {d : DataW H} {p : List MemPlace} (h : DataW.trod enc Tryd.prog W base spare held fuel 33 cs = some (d, p)) (hw : ∀ n ∈ d.weights Tryd.prog 33, n ≤ reachBytes) :
    ∃ v ns, cs = [v] ∧ SlIs W (fun _ => True) v ns.length (tcells ns) ∧ (∀ p ∈ ns, p.length ≤ 140737488355328 ∧ ∀ y ∈ p, y < 256) ∧ ns.length * 16 ≤ 140737488355328 := by
  rcases DataW.trod_slice Tryd.underlying33 h with ⟨rfl, _⟩ | ⟨a, len, cap, elems, rest, n, _, rfl, hx, _, hl, hm, hlen, hel, _⟩
  · exact ⟨_, [], rfl, SlIs.nil _ _, (fun p hp => nomatch hp), Nat.zero_le _⟩
  · have hd : d = .slice (elems.map (·.1)) (rest.map (·.1)) := by simpa using congrArg Prod.fst hx
    subst hd
    obtain ⟨w1, w2⟩ := weights_slice Tryd.underlying33 hw
    rw [bytes_text] at w1
    simp only [List.length_map] at w1
    have each : ∀ i, i < len → ∃ s : ByteArray, W.cell? (a.add i) = some (.string s) ∧ s.size ≤ 140737488355328 := by
      intro i hi
      have he := hel i hi
      rw [show Tryd.prog.cellsOf 9 = 1 from by kernel_rfl, Nat.mul_one] at he
      have hei : elems[i]? = some (elems[i]'(by omega)) := List.getElem?_eq_getElem (by omega)
      rw [hei, Option.bind_eq_some_iff] at he
      obtain ⟨c1, hc, ht⟩ := he
      obtain ⟨s, rfl, hs, _⟩ := DataW.trod_string Tryd.underlying9 ht
      obtain ⟨_, _, hcell⟩ := World.cells?_some hc
      refine ⟨s, ?_, ?_⟩
      · have := hcell 0 (by omega)
        simpa [Addr.add] using this
      · have := w2 (elems[i]'(by omega)).1 (List.mem_map.2 ⟨_, List.getElem_mem (by omega), rfl⟩) s.data.toList.length (by rw [hs]; simp [DataW.weights])
        have e : s.data.toList.length = s.size := by rw [Array.length_toList]; rfl
        have := reach_small
        omega
    obtain ⟨S, hS⟩ : ∃ S : Nat → ByteArray, ∀ i, i < len → W.cell? (a.add i) = some (.string (S i)) ∧ (S i).size ≤ 140737488355328 :=
      ⟨fun i => if h : i < len then Classical.choose (each i h) else ByteArray.empty, fun i hi => by simp only [dif_pos hi]; exact Classical.choose_spec (each i hi)⟩
    have hr := reach_small
    have hnl : ((List.range len).map fun i => numsOf (S i)).length = len := by simp
    refine ⟨_, (List.range len).map fun i => numsOf (S i), rfl, ?_, ?_, by rw [hnl]; omega⟩
    · rw [hnl]
      refine ⟨some a, cap, rfl, hl, by unfold maxLen at hm; omega, fun h0 => ?_⟩
      obtain ⟨b, off, spot⟩ := a
      have hspot : spot = none := by
        have := World.cell?_spot (hS 0 h0).1
        simpa [Addr.add] using this
      subst hspot
      have h00 := (hS 0 h0).1
      rw [Addr.add_lit] at h00
      refine ⟨b, off, rfl, trivial, World.block_lt_of_cell? _ _ h00, fun j x hj => ?_⟩
      have hj2 : j < len := by
        have := (List.getElem?_eq_some_iff.1 hj).1
        rw [tcells_length, hnl] at this
        exact this
      have hc := (hS j hj2).1
      rw [Addr.add_lit] at hc
      rw [hc, ← hj]
      simp [tcells, hj2, strOf_numsOf]
    · intro q hq
      obtain ⟨i, hi, rfl⟩ := List.mem_map.1 hq
      exact ⟨by rw [numsOf_length]; exact (hS i (List.mem_range.1 hi)).2, numsOf_lt _⟩
set_option maxRecDepth 100000 in
theorem fields_json : ∃ fs : Array Field, Tryd.prog.underlying 36 = some (.struct fs) ∧ fs.size = 6 ∧ fs.toList.map (fun f => (f.type, f.offset)) = [(3, 0), (4, 1), (3, 2), (9, 3), (33, 4), (34, 5)] :=
  ⟨_, Tryd.underlying36, by kernel_rfl, by kernel_rfl⟩
theorem cells_one : Tryd.prog.cellsOf 3 = 1 ∧ Tryd.prog.cellsOf 4 = 1 ∧ Tryd.prog.cellsOf 9 = 1 ∧ Tryd.prog.cellsOf 33 = 1 ∧ Tryd.prog.cellsOf 34 = 1 ∧ Tryd.prog.cellsOf 36 = 6 := by
  refine ⟨?_, ?_, ?_, ?_, ?_, ?_⟩ <;> kernel_rfl
set_option maxRecDepth 100000 in
/-- A struct's six readings. -/
theorem six_trod {fuel : Nat} {cs : List Value} {d : DataW H} {p : List MemPlace} (h : DataW.trod enc Tryd.prog W base spare held fuel 36 cs = some (d, p)) :
    ∃ m v0 v1 v2 v3 v4 v5 y0 y1 y2 y3 y4 y5, fuel = m + 1 ∧ cs = [v0, v1, v2, v3, v4, v5] ∧ d = .agg [y0, y1, y2, y3, y4, y5] ∧
      (∃ p, DataW.trod enc Tryd.prog W base spare held m 3 [v0] = some (y0, p)) ∧ (∃ p, DataW.trod enc Tryd.prog W base spare held m 4 [v1] = some (y1, p)) ∧ (∃ p, DataW.trod enc Tryd.prog W base spare held m 3 [v2] = some (y2, p)) ∧
      (∃ p, DataW.trod enc Tryd.prog W base spare held m 9 [v3] = some (y3, p)) ∧ (∃ p, DataW.trod enc Tryd.prog W base spare held m 33 [v4] = some (y4, p)) ∧ (∃ p, DataW.trod enc Tryd.prog W base spare held m 34 [v5] = some (y5, p)) := by
  obtain ⟨fs, hu, hsz, hfs⟩ := fields_json
  obtain ⟨xs, m, hf, hx, hcl, hxl, hall⟩ := DataW.trod_struct hu h
  obtain ⟨k1, k2, k3, k4, k5, k6⟩ := cells_one
  rw [k6] at hcl
  rw [hsz] at hxl
  have hfi : ∀ (i : Nat) t o, [(3, 0), (4, 1), (3, 2), (9, 3), (33, 4), (34, 5)][i]? = some (t, o) → ∃ f, fs[i]? = some f ∧ f.type = t ∧ f.offset = o := fun i t o hi => by
    rw [← hfs, List.getElem?_map] at hi
    obtain ⟨f, hf, e⟩ := Option.map_eq_some_iff.1 hi
    rw [Array.getElem?_toList] at hf
    injection e with e1 e2
    exact ⟨f, hf, e1, e2⟩
  match xs, hxl, cs, hcl with
  | [x0, x1, x2, x3, x4, x5], _, [v0, v1, v2, v3, v4, v5], _ =>
    have g : ∀ (i : Nat) t o, [(3, 0), (4, 1), (3, 2), (9, 3), (33, 4), (34, 5)][i]? = some (t, o) → DataW.trod enc Tryd.prog W base spare held m t (([v0, v1, v2, v3, v4, v5].drop o).take (Tryd.prog.cellsOf t)) = [x0, x1, x2, x3, x4, x5][i]? := fun i t o hi => by
      obtain ⟨f, h1, h2, h3⟩ := hfi i t o hi
      have := hall i f h1
      rw [h2, h3] at this
      exact this
    have g0 := g 0 _ _ rfl
    have g1 := g 1 _ _ rfl
    have g2 := g 2 _ _ rfl
    have g3 := g 3 _ _ rfl
    have g4 := g 4 _ _ rfl
    have g5 := g 5 _ _ rfl
    rw [k1] at g0 g2
    rw [k2] at g1
    rw [k3] at g3
    rw [k4] at g4
    rw [k5] at g5
    have hd : d = .agg [x0.1, x1.1, x2.1, x3.1, x4.1, x5.1] := by simpa using congrArg Prod.fst hx
    exact ⟨m, v0, v1, v2, v3, v4, v5, x0.1, x1.1, x2.1, x3.1, x4.1, x5.1, hf, rfl, hd, ⟨x0.2, g0⟩, ⟨x1.2, g1⟩, ⟨x2.2, g2⟩, ⟨x3.2, g3⟩, ⟨x4.2, g4⟩, ⟨x5.2, g5⟩⟩
set_option maxRecDepth 100000 in
theorem weights_six {y0 y1 y2 y3 y4 y5 : DataW H} (h : ∀ n ∈ (DataW.agg [y0, y1, y2, y3, y4, y5]).weights Tryd.prog 36, n ≤ reachBytes) :
    (∀ n ∈ y3.weights Tryd.prog 9, n ≤ reachBytes) ∧ (∀ n ∈ y4.weights Tryd.prog 33, n ≤ reachBytes) ∧ (∀ n ∈ y5.weights Tryd.prog 34, n ≤ reachBytes) := by
  have e : (DataW.agg [y0, y1, y2, y3, y4, y5]).weights Tryd.prog 36 = y0.weights Tryd.prog 3 ++ (y1.weights Tryd.prog 4 ++ (y2.weights Tryd.prog 3 ++ (y3.weights Tryd.prog 9 ++ (y4.weights Tryd.prog 33 ++ (y5.weights Tryd.prog 34 ++ []))))) := by
    simp only [DataW.weights, Tryd.underlying36]
    rfl
  rw [e] at h
  exact ⟨fun n hn => h n (by simp [hn]), fun n hn => h n (by simp [hn]), fun n hn => h n (by simp [hn])⟩
set_option maxRecDepth 100000 in
/-- A value that came in, at any depth. -/
theorem json_trod : ∀ (fuel : Nat) (cs : List Value) (d : DataW H) (p : List MemPlace), DataW.trod enc Tryd.prog W base spare held fuel 36 cs = some (d, p) → (∀ n ∈ d.weights Tryd.prog 36, n ≤ reachBytes) →
    ∃ v x, jcells v = cs ∧ (∃ a, v = .agg a) ∧ IsJ W (fun _ => True) v x := by
  intro fuel
  induction fuel using Nat.strongRecOn with
  | _ fuel ih =>
    intro cs d p h hw
    obtain ⟨m, v0, v1, v2, v3, v4, v5, y0, y1, y2, y3, y4, y5, rfl, rfl, rfl, ⟨_, g0⟩, ⟨_, g1⟩, ⟨_, g2⟩, ⟨_, g3⟩, ⟨_, g4⟩, ⟨_, g5⟩⟩ := six_trod h
    obtain ⟨w3, w4, w5⟩ := weights_six hw
    obtain ⟨k, e0, _, hk⟩ := DataW.trod_int Tryd.underlying3 g0
    obtain ⟨b, e1, _⟩ := DataW.trod_bool Tryd.underlying4 g1
    obtain ⟨n, e2, _, hn⟩ := DataW.trod_int Tryd.underlying3 g2
    obtain ⟨s, e3, x3, _⟩ := DataW.trod_string Tryd.underlying9 g3
    obtain ⟨nv, ns, e4, hS, hns, hnl⟩ := texts_trod g4 w4
    injection e0 with e0 _
    injection e1 with e1 _
    injection e2 with e2 _
    injection e3 with e3 _
    injection e4 with e4 _
    subst e0 e1 e2 e3 e4
    have hk' := wf_i64_of hk
    have hn' := wf_i64_of hn
    have hs : s.size ≤ 140737488355328 := by
      injection x3 with x3 _
      have := w3 s.data.toList.length (by rw [x3]; simp [DataW.weights])
      have e : s.data.toList.length = s.size := by rw [Array.length_toList]; rfl
      have := reach_small
      omega
    have hT : (numsOf s).length ≤ 140737488355328 ∧ ∀ y ∈ numsOf s, y < 256 := ⟨by rw [numsOf_length]; exact hs, numsOf_lt s⟩
    have hr := reach_small
    rw [← strOf_numsOf s]
    rcases DataW.trod_slice Tryd.underlying34 g5 with ⟨e5, _⟩ | ⟨a, len, cap, elems, rest, m', hm', e5, hx, _, hl, hm, hlen, hel, _⟩
    · injection e5 with e5 _
      subst e5
      exact ⟨jv k b n (strOf (numsOf s)) v4 (.slice none 0 0), .mk k b n (numsOf s) ns [], rfl, ⟨_, rfl⟩, .mk (vs := []) hk' hn' hT hS hns hnl (SlIs.nil _ _) rfl (Nat.zero_le _) (fun i v x h => by simp at h)⟩
    · injection e5 with e5 _
      subst e5
      have hd5 : y5 = .slice (elems.map (·.1)) (rest.map (·.1)) := by simpa using congrArg Prod.fst hx
      subst hd5
      obtain ⟨w51, w52⟩ := weights_slice Tryd.underlying34 w5
      rw [bytes_json] at w51
      simp only [List.length_map] at w51
      have each : ∀ i, i < len → ∃ q : Value × Jq.J, (∀ j x, (jcells q.1)[j]? = some x → W.cell? (a.add (i * 6 + j)) = some x) ∧ (jcells q.1).length = 6 ∧ IsJ W (fun _ => True) q.1 q.2 := by
        intro i hi
        have he := hel i hi
        rw [cells_one.2.2.2.2.2] at he
        have hei : elems[i]? = some (elems[i]'(by omega)) := List.getElem?_eq_getElem (by omega)
        rw [hei, Option.bind_eq_some_iff] at he
        obtain ⟨c1, hc, ht⟩ := he
        obtain ⟨v, x, hv, _, hJ⟩ := ih m' (by omega) c1 (elems[i]'(by omega)).1 (elems[i]'(by omega)).2 ht (w52 _ (List.mem_map.2 ⟨_, List.getElem_mem (by omega), rfl⟩))
        obtain ⟨_, hcl, hcell⟩ := World.cells?_some hc
        refine ⟨(v, x), fun j y hj => ?_, by rw [hv, hcl], hJ⟩
        have hj6 : j < 6 := by
          have := (List.getElem?_eq_some_iff.1 hj).1
          rw [hv, hcl] at this
          exact this
        have := hcell j hj6
        rw [Deep.add_add] at this
        rw [this, ← hv]
        exact hj
      have inh : Inhabited (Value × Jq.J) := ⟨(.nilIface, .mk 0 false 0 [] [] [])⟩
      obtain ⟨Q, hQ⟩ := Deep.choose_lt each
      have hvl : ((List.range len).map fun i => (Q i).1).length = len := by simp
      have hll : ((List.range len).map fun i => (Q i).2).length = len := by simp
      have hget : ∀ i, i < len → ((List.range len).map fun i => (Q i).1)[i]? = some (Q i).1 := fun i hi => by simp [hi]
      have hget2 : ∀ i, i < len → ((List.range len).map fun i => (Q i).2)[i]? = some (Q i).2 := fun i hi => by simp [hi]
      have h6 : ∀ v ∈ (List.range len).map fun i => (Q i).1, (jcells v).length = 6 := fun v hv => by
        obtain ⟨i, hi, rfl⟩ := List.mem_map.1 hv
        exact (hQ i (List.mem_range.1 hi)).2.1
      refine ⟨jv k b n (strOf (numsOf s)) v4 (.slice (some a) len cap), .mk k b n (numsOf s) ns ((List.range len).map fun i => (Q i).2), rfl, ⟨_, rfl⟩, .mk (vs := (List.range len).map fun i => (Q i).1) hk' hn' hT hS hns hnl ?_ (by rw [hvl, hll]) (by rw [hll]; omega) ?_⟩
      · rw [hll]
        refine ⟨some a, cap, rfl, hl, by unfold maxLen at hm; omega, fun h0 => ?_⟩
        obtain ⟨bb, off, spot⟩ := a
        have hc0 : ∃ x, W.cell? ((⟨bb, off, spot⟩ : Addr).add (0 * 6 + 0)) = some x := by
          have hlen6 := (hQ 0 h0).2.1
          exact ⟨_, (hQ 0 h0).1 0 _ (List.getElem?_eq_getElem (by omega))⟩
        obtain ⟨x0, hx0⟩ := hc0
        have hspot : spot = none := by
          have := World.cell?_spot hx0
          simpa [Addr.add] using this
        subst hspot
        rw [Addr.add_lit] at hx0
        refine ⟨bb, off, rfl, trivial, World.block_lt_of_cell? _ _ hx0, fun j x hj => ?_⟩
        have hflat : (((List.range len).map fun i => (Q i).1).flatMap jcells).length = len * 6 := by
          rw [List.length_flatMap]
          have : ((List.range len).map fun i => (Q i).1).map (fun v => (jcells v).length) = List.replicate len 6 := by
            apply List.ext_getElem
            · simp
            · intro i h1 h2
              simp at h1
              simp [(hQ i h1).2.1]
          rw [this]
          simp
        have hj2 : j < len * 6 := by
          have := (List.getElem?_eq_some_iff.1 hj).1
          rw [hflat] at this
          exact this
        have hq : j / 6 < len := by omega
        have hfa := flat_at _ h6 (j / 6) (j % 6) _ (hget _ hq) (by omega)
        rw [show j / 6 * 6 + j % 6 = j from by omega, hj] at hfa
        have := (hQ (j / 6) hq).1 (j % 6) x hfa.symm
        rw [show j / 6 * 6 + j % 6 = j from by omega, Addr.add_lit] at this
        exact this
      · intro i v x e1 e2
        have hi : i < len := by
          have := (List.getElem?_eq_some_iff.1 e1).1
          rw [hvl] at this
          exact this
        rw [hget i hi] at e1
        rw [hget2 i hi] at e2
        injection e1 with e1
        injection e2 with e2
        subst e1 e2
        exact (hQ i hi).2.2
set_option maxRecDepth 100000 in
/-- A value that came in as an argument. -/
theorem json_open {b0 : Nat} {r : Reach} {v : Value} {d : DataW H} {p : List MemPlace} (hv : Value.okWide Tryd.prog W r b0 36 v) (h : DataW.Trod enc Tryd.prog W base spare held 36 v d p) (hw : ∀ n ∈ d.weights Tryd.prog 36, n ≤ reachBytes) :
    ∃ x, IsJ W (fun _ => True) v x := by
  obtain ⟨cs, rfl, _⟩ := okWide_struct Tryd.underlying36 hv
  obtain ⟨fuel, hf⟩ := h
  obtain ⟨u, x, hu, ⟨a, rfl⟩, hJ⟩ := json_trod fuel _ _ _ hf hw
  have : a = cs := Array.toList_inj.1 hu
  rw [← this]
  exact ⟨x, hJ⟩
/-- What is known of the sizes of fields that came in. -/
structure SzF (T : Nat) (SZ : TypeId → DataW H → Prop) : Prop where
  rows : ∀ es sp, SZ 23 (.slice es sp) → es.length * 24 ≤ T ∧ ∀ d ∈ es, SZ 46 d
theorem cells_field : Tryd.prog.cellsOf 3 = 1 ∧ Tryd.prog.cellsOf 9 = 1 ∧ Tryd.prog.cellsOf 46 = 2 := by
  refine ⟨?_, ?_, ?_⟩ <;> kernel_rfl
theorem bytes_field : Tryd.prog.bytesOf 46 = 24 := by kernel_rfl
theorem szW_f : SzF (H := H) 140737488355328 szW where
  rows := fun es sp h => by
    obtain ⟨h1, h2⟩ := weights_slice Tryd.underlying23 h
    rw [bytes_field] at h1
    have := reach_small
    exact ⟨by have h3 : es.length * 24 ≤ (es.length + sp.length) * 24 := Nat.mul_le_mul_right _ (Nat.le_add_right _ _); omega, h2⟩
theorem szB_f : SzF (H := H) 25165824 szB where
  rows := fun es sp h => ⟨by have := (bulk_row h).1; omega, (bulk_row h).2⟩
set_option maxRecDepth 100000 in
theorem fields_field : ∃ fs : Array Field, Tryd.prog.underlying 46 = some (.struct fs) ∧ fs.size = 2 ∧ fs.toList.map (fun f => (f.type, f.offset)) = [(9, 0), (3, 1)] :=
  ⟨_, Tryd.underlying46, by kernel_rfl, by kernel_rfl⟩
set_option maxRecDepth 100000 in
theorem field_trod {SZ : TypeId → DataW H → Prop} (fuel : Nat) (cs : List Value) (d : DataW H) (p : List MemPlace) (hf : DataW.trod enc Tryd.prog W base spare held fuel 46 cs = some (d, p)) (_ : SZ 46 d) :
    ∃ v x, jcells v = cs ∧ (v = fdv x ∧ ∀ y ∈ x.name, y < 256) := by
  obtain ⟨fs, hu, hsz, hfs⟩ := fields_field
  obtain ⟨xs, m, _, hx, hcl, hxl, hall⟩ := DataW.trod_struct hu hf
  obtain ⟨k1, k2, k3⟩ := cells_field
  rw [k3] at hcl
  rw [hsz] at hxl
  have hfi : ∀ (i : Nat) t o, [(9, 0), (3, 1)][i]? = some (t, o) → ∃ f, fs[i]? = some f ∧ f.type = t ∧ f.offset = o := fun i t o hi => by
    rw [← hfs, List.getElem?_map] at hi
    obtain ⟨f, hf, e⟩ := Option.map_eq_some_iff.1 hi
    rw [Array.getElem?_toList] at hf
    injection e with e1 e2
    exact ⟨f, hf, e1, e2⟩
  match xs, hxl, cs, hcl with
  | [x0, x1], _, [v0, v1], _ =>
    have g : ∀ (i : Nat) t o, [(9, 0), (3, 1)][i]? = some (t, o) → DataW.trod enc Tryd.prog W base spare held m t (([v0, v1].drop o).take (Tryd.prog.cellsOf t)) = [x0, x1][i]? := fun i t o hi => by
      obtain ⟨f, h1, h2, h3⟩ := hfi i t o hi
      have := hall i f h1
      rw [h2, h3] at this
      exact this
    have g0 := g 0 _ _ rfl
    have g1 := g 1 _ _ rfl
    rw [k2] at g0
    rw [k1] at g1
    obtain ⟨s, e0, _, _⟩ := DataW.trod_string Tryd.underlying9 g0
    obtain ⟨i, e1, _, _⟩ := DataW.trod_int Tryd.underlying3 g1
    injection e0 with e0 _
    injection e1 with e1 _
    subst e0 e1
    refine ⟨fdv ⟨numsOf s, i⟩, ⟨numsOf s, i⟩, ?_, rfl, numsOf_lt s⟩
    simp only [jcells, strOf_numsOf]
theorem flat_fields : ∀ (vs : List Value) (ns : List Tq.Fd), vs.length = ns.length → (∀ (i : Nat) v x, vs[i]? = some v → ns[i]? = some x → v = fdv x) → vs.flatMap jcells = fcells ns
  | [], [], _, _ => rfl
  | v :: vs, n :: ns, hl, h => by
    have h0 := h 0 v n rfl rfl
    have ih := flat_fields vs ns (by simpa using hl) (fun i v x e1 e2 => h (i + 1) v x (by simpa using e1) (by simpa using e2))
    have e : fcells (n :: ns) = fcell n ++ fcells ns := rfl
    rw [List.flatMap_cons, ih, e, h0]
    rfl
/-- Fields that came in as an argument. -/
theorem fields_open {SZ : TypeId → DataW H → Prop} {T : Nat} (hS : SzF T SZ) {b0 : Nat} {r : Reach} {v : Value} {d : DataW H} {p : List MemPlace} (hv : Value.okWide Tryd.prog W r b0 23 v) (h : DataW.Trod enc Tryd.prog W base spare held 23 v d p) (hw : SZ 23 d) :
    ∃ A c fs, v = .slice A fs.length c ∧ FsE W (fun _ => True) (.slice A fs.length c) fs ∧ fs.length * 24 ≤ T := by
  obtain ⟨a, n, c, rfl⟩ := okWide_slice Tryd.underlying23 hv
  obtain ⟨fuel, hf⟩ := h
  obtain ⟨v, fs, vs, hcs, hs, hl, hb, hr⟩ := rowsS_trod 23 46 Tryd.underlying23 2 24 cells_field.2.2 (by decide) SZ hS.rows (fun v x => v = fdv x ∧ ∀ y ∈ x.name, y < 256) ⟨[], 0⟩ field_trod hf hw
  obtain ⟨A, c', e, h1, h2, h3⟩ := hs
  subst e
  simp [Value.cells] at hcs
  obtain ⟨rfl, rfl, rfl⟩ := hcs
  rw [flat_fields vs fs hl (fun i v x e1 e2 => (hr i v x e1 e2).1)] at h3
  refine ⟨_, _, fs, rfl, ⟨_, _, rfl, h1, h2, fun f hf => ?_, h3⟩, hb⟩
  obtain ⟨i, hi⟩ := List.getElem?_of_mem hf
  have hlt := (List.getElem?_eq_some_iff.1 hi).1
  exact (hr i (vs[i]'(by omega)) f (List.getElem?_eq_getElem (by omega)) hi).2
end
/-- The variable that the rows list. -/
def laidList : List (String × DataW Unit) := [("chatelaine/types.operations", Rows.laid_chatelaine_types_operations)]
def opNums (e : Tq.Entry) : List Int := [e.1, e.2.1, e.2.2.1, e.2.2.2]
theorem opCells_nums (e : Tq.Entry) : opCells e = (opNums e).map fun z => Value.int .i64 z := rfl
theorem ops_data : (Rows.laid_chatelaine_types_operations : DataW Unit) = .agg (Tq.table.map fun e => .agg ((opNums e).map fun z => .lit (.int .i64 z))) := by kernel_rfl
set_option maxRecDepth 100000 in
theorem fields_op : ∃ fs : Array Field, Tryd.prog.underlying 55 = some (.struct fs) ∧ fs.size = 4 ∧ fs.toList.map (fun f => (f.type, f.offset)) = [(3, 0), (3, 1), (3, 2), (3, 3)] :=
  ⟨_, Tryd.underlying55, by kernel_rfl, by kernel_rfl⟩
theorem cells_op : Tryd.prog.cellsOf 55 = 4 ∧ Tryd.prog.cellsOf 56 = 80 := ⟨by kernel_rfl, by kernel_rfl⟩
theorem flat_four : ∀ (l : List Tq.Entry) (j : Nat), j < l.length * 4 → ∃ e, l[j / 4]? = some e ∧ (l.flatMap opCells)[j]? = (opCells e)[j % 4]?
  | [], j, h => by simp at h
  | e :: r, j, h => by
    by_cases hj : j < 4
    · refine ⟨e, by rw [Nat.div_eq_of_lt hj]; rfl, ?_⟩
      rw [List.flatMap_cons, List.getElem?_append_left (by simpa [opCells] using hj), Nat.mod_eq_of_lt hj]
    · obtain ⟨x, h1, h2⟩ := flat_four r (j - 4) (by simp at h; omega)
      refine ⟨x, ?_, ?_⟩
      · rw [show j / 4 = (j - 4) / 4 + 1 from by omega]
        simpa using h1
      · rw [List.flatMap_cons, List.getElem?_append_right (by simp [opCells]; omega), show j - (opCells e).length = j - 4 from by simp [opCells], h2, show (j - 4) % 4 = j % 4 from by omega]
set_option maxRecDepth 100000 in
theorem held_of {W : World} (h : laidMetH Tryd.prog laidList W) : HeldK W := by
  have h0 : laidMet Tryd.prog laidList W := by
    have e : (laidList.filter fun x => x.2.handleName?.isSome) = [] := by kernel_rfl
    unfold laidMetH at h
    rw [e] at h
    exact h
  obtain ⟨g, t, cs, fuel, p, hg, ht, hv, hd⟩ := Lib.laidMet.reads h0 (n := "chatelaine/types.operations") (d := Rows.laid_chatelaine_types_operations) (List.mem_singleton.2 rfl)
  have hg' : Tryd.prog.globalNamed "chatelaine/types.operations" = some 0 := by kernel_rfl
  obtain rfl := Option.some.inj (hg'.symm.trans hg)
  obtain rfl := Option.some.inj ((show (Tryd.prog.globals[(0 : Nat)]?).map (·.type) = some 56 by kernel_rfl).symm.trans ht)
  unfold HeldK
  rw [hv]
  congr 1
  rw [ops_data] at hd
  obtain ⟨fs, hu, hsz, hfs⟩ := fields_op
  obtain ⟨xs, m, rfl, hx, hl, hxl, hall⟩ := DataW.trod_array Tryd.underlying56 hd
  rw [cells_op.2] at hl
  rw [cells_op.1] at hall
  have hxs : xs.map (·.1) = Tq.table.map fun e => (.agg ((opNums e).map fun z => .lit (.int .i64 z)) : DataW Unit) := by
    have := congrArg Prod.fst hx
    simpa using this.symm
  have hff : ∀ (i : Nat) (f : Field), fs[i]? = some f → Tryd.prog.underlying f.type = some (.int .i64) ∧ f.offset = i ∧ Tryd.prog.cellsOf f.type = 1 := by
    intro i f hf
    have hi : (fs.toList.map fun f => (f.type, f.offset))[i]? = some (f.type, f.offset) := by
      rw [List.getElem?_map, Array.getElem?_toList, hf]
      rfl
    rw [hfs] at hi
    have hlt := (List.getElem?_eq_some_iff.1 hi).1
    simp at hlt
    have : f.type = 3 ∧ f.offset = i := by
      match i, hi with
      | 0, hi => simp at hi; exact ⟨hi.1.symm, hi.2.symm⟩
      | 1, hi => simp at hi; exact ⟨hi.1.symm, hi.2.symm⟩
      | 2, hi => simp at hi; exact ⟨hi.1.symm, hi.2.symm⟩
      | 3, hi => simp at hi; exact ⟨hi.1.symm, hi.2.symm⟩
    rw [this.1]
    exact ⟨Tryd.underlying3, this.2, cells_field.1⟩
  have each : ∀ i e, Tq.table[i]? = some e → ((cs.toList.drop (i * 4)).take 4) = opCells e := by
    intro i e he
    have hi : i < 20 := (List.getElem?_eq_some_iff.1 he).1
    have h1 := hall i hi
    have hxi : xs[i]? = some (xs[i]'(by omega)) := List.getElem?_eq_getElem (by omega)
    rw [hxi] at h1
    have h2 : (xs[i]'(by omega)).1 = .agg ((opNums e).map fun z => .lit (.int .i64 z)) := by
      have h3 : (xs.map (·.1))[i]? = some (xs[i]'(by omega)).1 := by rw [List.getElem?_map, hxi]; rfl
      rw [hxs, List.getElem?_map, he] at h3
      exact (Option.some.inj h3).symm
    rw [opCells_nums]
    exact Lib.ints_of_struct hu hff (by rw [cells_op.1, hsz]) (p := (xs[i]'(by omega)).2) (by rw [h1, ← h2])
  apply Array.toList_inj.1
  show cs.toList = Tq.table.flatMap opCells
  apply List.ext_getElem?
  intro j
  by_cases hj : j < 80
  · obtain ⟨e, h1, h2⟩ := flat_four Tq.table j hj
    rw [h2, ← each _ _ h1, List.getElem?_take, if_pos (Nat.mod_lt _ (by decide)), List.getElem?_drop, show j / 4 * 4 + j % 4 = j from by omega]
  · rw [List.getElem?_eq_none (by omega), List.getElem?_eq_none (by
      have : (Tq.table.flatMap opCells).length = 80 := by decide
      omega)]
/-- A world for the witness: the settled one, the table as it is. -/
noncomputable def laidWorldU (os : Os) : World :=
  { World.holding Tryd.prog os ⟨#[], #[], []⟩ with heap := (World.holding Tryd.prog os ⟨#[], #[], []⟩).heap.modify 0 (relaid opsTab) }
theorem laid_metU (os : Os) (args : Array Value) : laidMet Tryd.prog laidList ((laidWorldU os).forCall (fun _ _ => 0) ⟨#[], args, []⟩).memory :=
  laidMet_of_run' 8 (by kernel_rfl) (by kernel_rfl)
end Go.Proofs.YtgoecghakiihpaaDoor
