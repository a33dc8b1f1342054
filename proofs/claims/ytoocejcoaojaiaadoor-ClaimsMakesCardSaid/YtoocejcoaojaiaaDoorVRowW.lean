/-
  From the rows' reading to what is wanted of claims, and what is asked of Make.
-/
import Derived.Test.YtoocejcoaojaiaaDoorVRow
import Derived.Test.YtoocejcoaojaiaaDoorVHold
namespace Go.Proofs.YtoocejcoaojaiaaDoor
open Go.ChangeShapes Go.WideShapes Go.ChangeAt Go.RowKit

section
variable {H : Type} {enc : TypeId × Value → H} {W : World} {base : Nat} {spare : Nat → Bool} {held : Bool}
theorem text_came {s : ByteArray} {x : DataW H × List MemPlace} {ps : List MemPlace} (z : x = (.lit (.string s.data.toList), ps)) (hw : ∀ n ∈ x.1.weights Tryd.prog 9, n ≤ reachBytes) : TextOk (numsOf s) := by
  have h2 := congrArg Prod.fst z
  have h2 : x.1 = .lit (.string s.data.toList) := h2
  have := hw s.data.toList.length (by rw [h2]; simp [DataW.weights])
  have e : s.data.toList.length = s.size := by rw [Array.length_toList]; rfl
  have := reach_small
  exact ⟨by rw [numsOf_length]; omega, numsOf_lt s⟩
set_option maxRecDepth 100000 in
theorem fields_want : ∃ fs : Array Field, Tryd.prog.underlying 30 = some (.struct fs) ∧ fs.size = 5 ∧ fs.toList.map (fun f => (f.type, f.offset)) = [(9, 0), (9, 1), (9, 2), (3, 3), (3, 4)] :=
  ⟨_, Tryd.underlying30, by kernel_rfl, by kernel_rfl⟩
set_option maxRecDepth 100000 in
/-- A Want that came in as an argument. -/
theorem want_open {b0 : Nat} {r : Reach} {v : Value} {d : DataW H} {p : List MemPlace} (hv : Value.okWide Tryd.prog W r b0 30 v) (h : DataW.Trod enc Tryd.prog W base spare held 30 v d p) (hw : ∀ n ∈ d.weights Tryd.prog 30, n ≤ reachBytes) :
    ∃ q, v = wantv q ∧ WantOk q := by
  obtain ⟨cs, rfl, _⟩ := okWide_struct Tryd.underlying30 hv
  obtain ⟨fuel, hf⟩ := h
  obtain ⟨fs, hu, hsz, hfs⟩ := fields_want
  obtain ⟨xs, m, _, hx, hcl, hxl, hall⟩ := DataW.trod_struct hu hf
  obtain ⟨k1, _, k3, _, _, _⟩ := cells_one
  rw [show Tryd.prog.cellsOf 30 = 5 from by kernel_rfl] at hcl
  rw [hsz] at hxl
  have hfi : ∀ (i : Nat) t o, [(9, 0), (9, 1), (9, 2), (3, 3), (3, 4)][i]? = some (t, o) → ∃ f, fs[i]? = some f ∧ f.type = t ∧ f.offset = o := fun i t o hi => by
    rw [← hfs, List.getElem?_map] at hi
    obtain ⟨f, hf, e⟩ := Option.map_eq_some_iff.1 hi
    rw [Array.getElem?_toList] at hf
    injection e with e1 e2
    exact ⟨f, hf, e1, e2⟩
  obtain ⟨cl, hcs⟩ : ∃ cl, (Value.agg cs).cells.toList = cl := ⟨_, rfl⟩
  rw [hcs] at hcl hall
  have hcs' : cs.toList = cl := hcs
  match xs, hxl, cl, hcl with
  | [x0, x1, x2, x3, x4], _, [v0, v1, v2, v3, v4], _ =>
    have g : ∀ (i : Nat) t o, [(9, 0), (9, 1), (9, 2), (3, 3), (3, 4)][i]? = some (t, o) → DataW.trod enc Tryd.prog W base spare held m t (([v0, v1, v2, v3, v4].drop o).take (Tryd.prog.cellsOf t)) = [x0, x1, x2, x3, x4][i]? := fun i t o hi => by
      obtain ⟨f, h1, h2, h3⟩ := hfi i t o hi
      have := hall i f h1
      rw [h2, h3] at this
      exact this
    have g0 := g 0 _ _ rfl
    have g1 := g 1 _ _ rfl
    have g2 := g 2 _ _ rfl
    have g3 := g 3 _ _ rfl
    have g4 := g 4 _ _ rfl
    rw [k3] at g0 g1 g2
    rw [k1] at g3 g4
    have hd : d = .agg [x0.1, x1.1, x2.1, x3.1, x4.1] := by simpa using congrArg Prod.fst hx
    subst hd
    have e : (DataW.agg [x0.1, x1.1, x2.1, x3.1, x4.1]).weights Tryd.prog 30 = x0.1.weights Tryd.prog 9 ++ (x1.1.weights Tryd.prog 9 ++ (x2.1.weights Tryd.prog 9 ++ (x3.1.weights Tryd.prog 3 ++ (x4.1.weights Tryd.prog 3 ++ [])))) := by
      simp only [DataW.weights, Tryd.underlying30]
      rfl
    rw [e] at hw
    obtain ⟨s0, e0, z0, _⟩ := DataW.trod_string Tryd.underlying9 g0
    obtain ⟨s1, e1, z1, _⟩ := DataW.trod_string Tryd.underlying9 g1
    obtain ⟨s2, e2, z2, _⟩ := DataW.trod_string Tryd.underlying9 g2
    obtain ⟨n3, e3, _, w3⟩ := DataW.trod_int Tryd.underlying3 g3
    obtain ⟨n4, e4, _, w4⟩ := DataW.trod_int Tryd.underlying3 g4
    injection e0 with e0 _
    injection e1 with e1 _
    injection e2 with e2 _
    injection e3 with e3 _
    injection e4 with e4 _
    subst e0 e1 e2 e3 e4
    refine ⟨⟨numsOf s0, numsOf s1, numsOf s2, n3, n4⟩, ?_, text_came z0 (fun n hn => hw n (by simp [hn])), text_came z1 (fun n hn => hw n (by simp [hn])), text_came z2 (fun n hn => hw n (by simp [hn])), wf_i64_of w3, wf_i64_of w4⟩
    unfold wantv
    simp only [strOf_numsOf]
    congr 1
    exact Array.toList_inj.1 hcs'
set_option maxRecDepth 100000 in
theorem fields_wish : ∃ fs : Array Field, Tryd.prog.underlying 35 = some (.struct fs) ∧ fs.size = 3 ∧ fs.toList.map (fun f => (f.type, f.offset)) = [(9, 0), (3, 1), (28, 2)] :=
  ⟨_, Tryd.underlying35, by kernel_rfl, by kernel_rfl⟩
set_option maxRecDepth 100000 in
/-- A Wish that came in as an argument. -/
theorem wish_open {b0 : Nat} {r : Reach} {v : Value} {d : DataW H} {p : List MemPlace} (hv : Value.okWide Tryd.prog W r b0 35 v) (h : DataW.Trod enc Tryd.prog W base spare held 35 v d p) (hw : ∀ n ∈ d.weights Tryd.prog 35, n ≤ reachBytes) :
    ∃ sub life x nv lv, v = wishv sub life x nv lv ∧ TextOk sub ∧ IsJ W (fun _ => True) (jv x.kind x.bool x.int (strOf x.text) nv lv) x := by
  obtain ⟨cs, rfl, _⟩ := okWide_struct Tryd.underlying35 hv
  obtain ⟨fuel, hf⟩ := h
  obtain ⟨fs, hu, hsz, hfs⟩ := fields_wish
  obtain ⟨xs, m, _, hx, hcl, hxl, hall⟩ := DataW.trod_struct hu hf
  obtain ⟨k1, _, k3, _, _, k6⟩ := cells_one
  rw [show Tryd.prog.cellsOf 35 = 8 from by kernel_rfl] at hcl
  rw [hsz] at hxl
  have hfi : ∀ (i : Nat) t o, [(9, 0), (3, 1), (28, 2)][i]? = some (t, o) → ∃ f, fs[i]? = some f ∧ f.type = t ∧ f.offset = o := fun i t o hi => by
    rw [← hfs, List.getElem?_map] at hi
    obtain ⟨f, hf, e⟩ := Option.map_eq_some_iff.1 hi
    rw [Array.getElem?_toList] at hf
    injection e with e1 e2
    exact ⟨f, hf, e1, e2⟩
  obtain ⟨cl, hcs⟩ : ∃ cl, (Value.agg cs).cells.toList = cl := ⟨_, rfl⟩
  rw [hcs] at hcl hall
  have hcs' : cs.toList = cl := hcs
  match xs, hxl, cl, hcl with
  | [x0, x1, x2], _, [v0, v1, v2, v3, v4, v5, v6, v7], _ =>
    have g : ∀ (i : Nat) t o, [(9, 0), (3, 1), (28, 2)][i]? = some (t, o) → DataW.trod enc Tryd.prog W base spare held m t (([v0, v1, v2, v3, v4, v5, v6, v7].drop o).take (Tryd.prog.cellsOf t)) = [x0, x1, x2][i]? := fun i t o hi => by
      obtain ⟨f, h1, h2, h3⟩ := hfi i t o hi
      have := hall i f h1
      rw [h2, h3] at this
      exact this
    have g0 := g 0 _ _ rfl
    have g1 := g 1 _ _ rfl
    have g2 := g 2 _ _ rfl
    rw [k3] at g0
    rw [k1] at g1
    rw [k6] at g2
    have hd : d = .agg [x0.1, x1.1, x2.1] := by simpa using congrArg Prod.fst hx
    subst hd
    have e : (DataW.agg [x0.1, x1.1, x2.1]).weights Tryd.prog 35 = x0.1.weights Tryd.prog 9 ++ (x1.1.weights Tryd.prog 3 ++ (x2.1.weights Tryd.prog 28 ++ [])) := by
      simp only [DataW.weights, Tryd.underlying35]
      rfl
    rw [e] at hw
    obtain ⟨s0, e0, z0, _⟩ := DataW.trod_string Tryd.underlying9 g0
    obtain ⟨n1, e1, _, w1⟩ := DataW.trod_int Tryd.underlying3 g1
    obtain ⟨u, x, hu, _, hJ⟩ := json_trod _ _ x2.1 x2.2 g2 (fun n hn => hw n (by simp [hn]))
    obtain ⟨A1, c1, A2, c2, rfl⟩ := hJ.form
    injection e0 with e0 _
    injection e1 with e1 _
    have hu : [Value.int .i64 x.kind, .bool x.bool, .int .i64 x.int, .string (strOf x.text), .slice A1 x.names.length c1, .slice A2 x.list.length c2] = [v2, v3, v4, v5, v6, v7] := hu
    injection hu with f1 hu
    injection hu with f2 hu
    injection hu with f3 hu
    injection hu with f4 hu
    injection hu with f5 hu
    injection hu with f6 _
    subst e0 e1 f1 f2 f3 f4 f5 f6
    refine ⟨numsOf s0, n1, x, _, _, ?_, text_came z0 (fun n hn => hw n (by simp [hn])), hJ⟩
    unfold wishv
    simp only [strOf_numsOf]
    congr 1
    exact Array.toList_inj.1 hcs'
end
end Go.Proofs.YtoocejcoaojaiaaDoor
