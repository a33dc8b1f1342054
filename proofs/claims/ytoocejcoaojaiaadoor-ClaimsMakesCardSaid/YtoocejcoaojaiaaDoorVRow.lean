/-
  From the rows' reading of values to what the walks ask; what the listed variables hold; a world for the witness (as stage 5's, without the sentinels).
-/
import Derived.Test.YtoocejcoaojaiaaDoorCards
import Derived.Test.YtoocejcoaojaiaaDoorTie
import Derived.Test.YtoocejcoaojaiaaDoorQS
import Derived.Test.YtoocejcoaojaiaaDoorQD
import Derived.ProofKit
import Derived.OpenShut
import Derived.SizedLaws
import Derived.Deep.DeepHandedRow
import Derived.Deep.Slices
import Derived.Lib.LaidTab
import Derived.Lib.LaidU8T
import Derived.Lib.SmallJoins
import Derived.Stop.LaidErr
import Derived.Stop.ErrReads
namespace Go.Proofs.YtoocejcoaojaiaaDoor
open Go.ChangeShapes Go.WideShapes Go.ChangeAt Go.RowKit

theorem own : ownKnob Tryd.prog.godebug = none := by kernel_rfl
theorem laidOut : laidOutB Tryd.prog = true := by kernel_rfl
theorem bytes_text : Tryd.prog.bytesOf 9 = 16 := by kernel_rfl
theorem bytes_json : Tryd.prog.bytesOf 28 = 88 := by kernel_rfl

/-- What a bound on the bulk of all that is read says of one value. -/
theorem bulk_pos {H : Type} (d : DataW H) : 0 < Rows.uptoBulk d := by
  cases d with
  | lit l => cases l <;> simp [Rows.uptoBulk]
  | _ => simp [Rows.uptoBulk]
theorem bulk_count {H : Type} (l : List (DataW H)) : l.length ≤ Rows.uptoBulkAll l := by
  induction l with
  | nil => exact Nat.zero_le _
  | cons d r ih => have := bulk_pos d; simp only [Rows.uptoBulkAll, List.length_cons]; omega
theorem bulk_mem {H : Type} {d : DataW H} {l : List (DataW H)} (h : d ∈ l) : Rows.uptoBulk d ≤ Rows.uptoBulkAll l := by
  induction l with
  | nil => cases h
  | cons x r ih =>
    simp only [Rows.uptoBulkAll]
    rcases List.mem_cons.1 h with rfl | h'
    · omega
    · have := ih h'; omega
theorem bulk_of {H : Type} {d : DataW H} {l : List (DataW H)} (hk : Rows.uptoSmall H l = true) (h : d ∈ l) : Rows.uptoBulk d ≤ 1048576 :=
  Nat.le_trans (bulk_mem h) (of_decide_eq_true hk)
theorem bulk_slice {H : Type} {es sp : List (DataW H)} {n : Nat} (h : Rows.uptoBulk (.slice es sp) ≤ n) : es.length + sp.length ≤ n := by
  have h1 := bulk_count es
  have h2 := bulk_count sp
  simp only [Rows.uptoBulk] at h
  omega
theorem bulk_text {H : Type} {s : ByteArray} {n : Nat} (h : Rows.uptoBulk (DataW.lit (H := H) (.string s.data.toList)) ≤ n) : s.size ≤ n := by
  simp only [Rows.uptoBulk] at h
  have e : s.data.toList.length = s.size := by rw [Array.length_toList]; rfl
  omega


/-- The two tables of the library's that the rows list, as cells. -/
def firstCells : Array Value := (Go.Pinned.utf8FirstZ.map fun (n : Nat) => Value.int .u8 (n : Int)).toArray
def rangeCells : Array Value := ([128, 191, 160, 191, 128, 159, 144, 191, 128, 143, 0, 0, 0, 0, 0, 0, 0, 0, 0, 0, 0, 0, 0, 0, 0, 0, 0, 0, 0, 0, 0, 0].map fun (n : Nat) => Value.int .u8 (n : Int)).toArray
/-- A block with other cells. -/
def relaid (cs : Array Value) : Obj → Obj
  | .cells _ t frozen => .cells cs t frozen
  | o => o
/-- The variables that the rows list. -/
def laidList : List (String × DataW Unit) := [("math/bits.deBruijn32tab", Rows.laid_math_bits_deBruijn32tab), ("math/bits.deBruijn64tab", Rows.laid_math_bits_deBruijn64tab), ("internal/strconv.uint64pow10", Rows.laid_internal_strconv_uint64pow10), ("unicode/utf8.acceptRanges", Rows.laid_unicode_utf8_acceptRanges), ("unicode/utf8.first", Rows.laid_unicode_utf8_first)]
theorem laid_plain {W : World} (h : laidMetH Tryd.prog laidList W) : laidMet Tryd.prog laidList W := by
  have e : (laidList.filter fun x => x.2.handleName?.isSome) = [] := by kernel_rfl
  unfold laidMetH at h
  rw [e] at h
  exact h
theorem pow_data {H : Type} : (Rows.laid_internal_strconv_uint64pow10 : DataW H) = Lib.tabData .u64 Lib.pow10Tab := by
  unfold Rows.laid_internal_strconv_uint64pow10 Lib.tabData Lib.pow10Tab
  rfl
set_option maxRecDepth 100000 in
theorem first_data : (Rows.laid_unicode_utf8_first : DataW Unit) = Lib.firstData := by
  have h : (Go.Pinned.utf8FirstZ.map fun (n : Nat) => (n : Int)) = Lib.firstTab := by kernel_rfl
  unfold Lib.firstData Lib.tabData
  rw [← h]
  rfl
theorem accept_data : (Rows.laid_unicode_utf8_acceptRanges : DataW Unit) = Lib.acceptData := by kernel_rfl
theorem u8_extra : U8Extra Tryd.prog lays196_ren := ⟨by kernel_rfl, by kernel_rfl, by kernel_rfl, by kernel_rfl, by kernel_rfl, by kernel_rfl, by kernel_rfl⟩
set_option maxRecDepth 100000 in
theorem held_of {W : World} (h : laidMetH Tryd.prog laidList W) : Held W := by
  have h0 := laid_plain h
  have h2 : laidMet Tryd.prog (("internal/strconv.uint64pow10", Lib.tabData .u64 Lib.pow10Tab) :: laidList.drop 3) W := by
    have := h0.tail.tail
    rw [← pow_data]
    exact this
  refine ⟨Lib.tabIs_of_head (g := 2) (t := 96) (e := 90) (n := 20) (by kernel_rfl) (by kernel_rfl) (by kernel_rfl) (by kernel_rfl) (by kernel_rfl) (by kernel_rfl) h2, trivial, trivial, ?_⟩
  · exact utf8Tabs_of_readsT (ρ := lays196_ren) (U8Types.of196 lays196) u8_extra (Lib.laidMet.reads h0 (by rw [← first_data]; exact List.mem_of_getElem? (i := 4) rfl)) (Lib.laidMet.reads h0 (by rw [← accept_data]; exact List.mem_of_getElem? (i := 3) rfl))

/-! A value that came in. -/
section
variable {H : Type} {enc : TypeId × Value → H} {W : World} {base : Nat} {spare : Nat → Bool} {held : Bool}
theorem weights_mem {e : TypeId} {d : DataW H} {l : List (DataW H)} (h : d ∈ l) : ∀ n ∈ d.weights Tryd.prog e, n ∈ DataW.weightsAll Tryd.prog e l := by
  induction l with
  | nil => cases h
  | cons x r ih =>
    intro n hn
    simp only [DataW.weightsAll, List.mem_append]
    rcases List.mem_cons.1 h with rfl | h'
    · exact .inl hn
    · exact .inr (ih h' n hn)
/-- What the weights of a slice say of its own size, and of its elements. -/
theorem weights_slice {t e : TypeId} (ht : Tryd.prog.underlying t = some (.slice e)) {es sp : List (DataW H)} (h : ∀ n ∈ (DataW.slice es sp).weights Tryd.prog t, n ≤ reachBytes) :
    (es.length + sp.length) * Tryd.prog.bytesOf e ≤ reachBytes ∧ ∀ d ∈ es, ∀ n ∈ d.weights Tryd.prog e, n ≤ reachBytes := by
  simp only [DataW.weights, ht] at h
  exact ⟨h _ (by simp), fun d hd n hn => h n (by simp [weights_mem hd n hn])⟩
theorem reach_small : reachBytes ≤ 140737488355328 := by decide

/-- Texts that came in. -/
theorem texts_trod {fuel : Nat} {cs : List Value} {d : DataW H} {p : List MemPlace} (h : DataW.trod enc Tryd.prog W base spare held fuel 25 cs = some (d, p)) (hw : ∀ n ∈ d.weights Tryd.prog 25, n ≤ reachBytes) :
    ∃ v ns, cs = [v] ∧ SlIs W (fun _ => True) v ns.length (tcells ns) ∧ (∀ p ∈ ns, p.length ≤ 140737488355328 ∧ ∀ y ∈ p, y < 256) ∧ ns.length * 16 ≤ 140737488355328 := by
  rcases DataW.trod_slice Tryd.underlying25 h with ⟨rfl, _⟩ | ⟨a, len, cap, elems, rest, n, _, rfl, hx, _, hl, hm, hlen, hel, _⟩
  · exact ⟨_, [], rfl, SlIs.nil _ _, (fun p hp => nomatch hp), Nat.zero_le _⟩
  · have hd : d = .slice (elems.map (·.1)) (rest.map (·.1)) := by simpa using congrArg Prod.fst hx
    subst hd
    obtain ⟨w1, w2⟩ := weights_slice Tryd.underlying25 hw
    rw [bytes_text] at w1
    simp only [List.length_map] at w1
    have each : ∀ i, i < len → ∃ s : ByteArray, W.cell? (a.add i) = some (.string s) ∧ s.size ≤ 140737488355328 := by
      intro i hi
      have he := hel i hi
      rw [show Tryd.prog.cellsOf 9 = 1 from by kernel_rfl, Nat.mul_one] at he
      have hei : elems[i]? = some (elems[i]'(by omega)) := List.getElem?_eq_getElem (by omega)
      rw [hei, Option.bind_eq_some_iff] at he
      obtain ⟨c1, hc, ht⟩ := he
      obtain ⟨s, rfl, hs, _⟩ := DataW.trod_string Tryd.underlying9 ht
      obtain ⟨_, _, hcell⟩ := World.cells?_some hc
      refine ⟨s, ?_, ?_⟩
      · have := hcell 0 (by omega)
        simpa [Addr.add] using this
      · have := w2 (elems[i]'(by omega)).1 (List.mem_map.2 ⟨_, List.getElem_mem (by omega), rfl⟩) s.data.toList.length (by rw [hs]; simp [DataW.weights])
        have e : s.data.toList.length = s.size := by rw [Array.length_toList]; rfl
        have := reach_small
        omega
    obtain ⟨S, hS⟩ : ∃ S : Nat → ByteArray, ∀ i, i < len → W.cell? (a.add i) = some (.string (S i)) ∧ (S i).size ≤ 140737488355328 :=
      ⟨fun i => if h : i < len then Classical.choose (each i h) else ByteArray.empty, fun i hi => by simp only [dif_pos hi]; exact Classical.choose_spec (each i hi)⟩
    have hr := reach_small
    have hnl : ((List.range len).map fun i => numsOf (S i)).length = len := by simp
    refine ⟨_, (List.range len).map fun i => numsOf (S i), rfl, ?_, ?_, by rw [hnl]; omega⟩
    · rw [hnl]
      refine ⟨some a, cap, rfl, hl, by unfold maxLen at hm; omega, fun h0 => ?_⟩
      obtain ⟨b, off, spot⟩ := a
      have hspot : spot = none := by
        have := World.cell?_spot (hS 0 h0).1
        simpa [Addr.add] using this
      subst hspot
      have h00 := (hS 0 h0).1
      rw [Addr.add_lit] at h00
      refine ⟨b, off, rfl, trivial, World.block_lt_of_cell? _ _ h00, fun j x hj => ?_⟩
      have hj2 : j < len := by
        have := (List.getElem?_eq_some_iff.1 hj).1
        rw [tcells_length, hnl] at this
        exact this
      have hc := (hS j hj2).1
      rw [Addr.add_lit] at hc
      rw [hc, ← hj]
      simp [tcells, hj2, strOf_numsOf]
    · intro q hq
      obtain ⟨i, hi, rfl⟩ := List.mem_map.1 hq
      exact ⟨by rw [numsOf_length]; exact (hS i (List.mem_range.1 hi)).2, numsOf_lt _⟩

theorem wf_i64_of {k : Int} (h : (Lit.int .i64 k).wf = true) : -9223372036854775808 ≤ k ∧ k ≤ 9223372036854775807 := by
  simp only [Lit.wf, Bool.and_eq_true, decide_eq_true_eq] at h
  have e1 : IntKind.min .i64 = -9223372036854775808 := by decide
  have e2 : IntKind.max .i64 = 9223372036854775807 := by decide
  rw [e1, e2] at h
  exact h
set_option maxRecDepth 100000 in
theorem fields_json : ∃ fs : Array Field, Tryd.prog.underlying 28 = some (.struct fs) ∧ fs.size = 6 ∧ fs.toList.map (fun f => (f.type, f.offset)) = [(3, 0), (4, 1), (3, 2), (9, 3), (25, 4), (26, 5)] :=
  ⟨_, Tryd.underlying28, by kernel_rfl, by kernel_rfl⟩
theorem cells_one : Tryd.prog.cellsOf 3 = 1 ∧ Tryd.prog.cellsOf 4 = 1 ∧ Tryd.prog.cellsOf 9 = 1 ∧ Tryd.prog.cellsOf 25 = 1 ∧ Tryd.prog.cellsOf 26 = 1 ∧ Tryd.prog.cellsOf 28 = 6 := by
  refine ⟨?_, ?_, ?_, ?_, ?_, ?_⟩ <;> kernel_rfl
set_option maxRecDepth 100000 in
/-- A struct's six readings. -/
theorem six_trod {fuel : Nat} {cs : List Value} {d : DataW H} {p : List MemPlace} (h : DataW.trod enc Tryd.prog W base spare held fuel 28 cs = some (d, p)) :
    ∃ m v0 v1 v2 v3 v4 v5 y0 y1 y2 y3 y4 y5, fuel = m + 1 ∧ cs = [v0, v1, v2, v3, v4, v5] ∧ d = .agg [y0, y1, y2, y3, y4, y5] ∧
      (∃ p, DataW.trod enc Tryd.prog W base spare held m 3 [v0] = some (y0, p)) ∧ (∃ p, DataW.trod enc Tryd.prog W base spare held m 4 [v1] = some (y1, p)) ∧ (∃ p, DataW.trod enc Tryd.prog W base spare held m 3 [v2] = some (y2, p)) ∧
      (∃ p, DataW.trod enc Tryd.prog W base spare held m 9 [v3] = some (y3, p)) ∧ (∃ p, DataW.trod enc Tryd.prog W base spare held m 25 [v4] = some (y4, p)) ∧ (∃ p, DataW.trod enc Tryd.prog W base spare held m 26 [v5] = some (y5, p)) := by
  obtain ⟨fs, hu, hsz, hfs⟩ := fields_json
  obtain ⟨xs, m, hf, hx, hcl, hxl, hall⟩ := DataW.trod_struct hu h
  obtain ⟨k1, k2, k3, k4, k5, k6⟩ := cells_one
  rw [k6] at hcl
  rw [hsz] at hxl
  have hfi : ∀ (i : Nat) t o, [(3, 0), (4, 1), (3, 2), (9, 3), (25, 4), (26, 5)][i]? = some (t, o) → ∃ f, fs[i]? = some f ∧ f.type = t ∧ f.offset = o := fun i t o hi => by
    rw [← hfs, List.getElem?_map] at hi
    obtain ⟨f, hf, e⟩ := Option.map_eq_some_iff.1 hi
    rw [Array.getElem?_toList] at hf
    injection e with e1 e2
    exact ⟨f, hf, e1, e2⟩
  match xs, hxl, cs, hcl with
  | [x0, x1, x2, x3, x4, x5], _, [v0, v1, v2, v3, v4, v5], _ =>
    have g : ∀ (i : Nat) t o, [(3, 0), (4, 1), (3, 2), (9, 3), (25, 4), (26, 5)][i]? = some (t, o) → DataW.trod enc Tryd.prog W base spare held m t (([v0, v1, v2, v3, v4, v5].drop o).take (Tryd.prog.cellsOf t)) = [x0, x1, x2, x3, x4, x5][i]? := fun i t o hi => by
      obtain ⟨f, h1, h2, h3⟩ := hfi i t o hi
      have := hall i f h1
      rw [h2, h3] at this
      exact this
    have g0 := g 0 _ _ rfl
    have g1 := g 1 _ _ rfl
    have g2 := g 2 _ _ rfl
    have g3 := g 3 _ _ rfl
    have g4 := g 4 _ _ rfl
    have g5 := g 5 _ _ rfl
    rw [k1] at g0 g2
    rw [k2] at g1
    rw [k3] at g3
    rw [k4] at g4
    rw [k5] at g5
    have hd : d = .agg [x0.1, x1.1, x2.1, x3.1, x4.1, x5.1] := by simpa using congrArg Prod.fst hx
    exact ⟨m, v0, v1, v2, v3, v4, v5, x0.1, x1.1, x2.1, x3.1, x4.1, x5.1, hf, rfl, hd, ⟨x0.2, g0⟩, ⟨x1.2, g1⟩, ⟨x2.2, g2⟩, ⟨x3.2, g3⟩, ⟨x4.2, g4⟩, ⟨x5.2, g5⟩⟩
set_option maxRecDepth 100000 in
theorem weights_six {y0 y1 y2 y3 y4 y5 : DataW H} (h : ∀ n ∈ (DataW.agg [y0, y1, y2, y3, y4, y5]).weights Tryd.prog 28, n ≤ reachBytes) :
    (∀ n ∈ y3.weights Tryd.prog 9, n ≤ reachBytes) ∧ (∀ n ∈ y4.weights Tryd.prog 25, n ≤ reachBytes) ∧ (∀ n ∈ y5.weights Tryd.prog 26, n ≤ reachBytes) := by
  have e : (DataW.agg [y0, y1, y2, y3, y4, y5]).weights Tryd.prog 28 = y0.weights Tryd.prog 3 ++ (y1.weights Tryd.prog 4 ++ (y2.weights Tryd.prog 3 ++ (y3.weights Tryd.prog 9 ++ (y4.weights Tryd.prog 25 ++ (y5.weights Tryd.prog 26 ++ []))))) := by
    simp only [DataW.weights, Tryd.underlying28]
    rfl
  rw [e] at h
  exact ⟨fun n hn => h n (by simp [hn]), fun n hn => h n (by simp [hn]), fun n hn => h n (by simp [hn])⟩
set_option maxRecDepth 100000 in
/-- A value that came in, at any depth. -/
theorem json_trod : ∀ (fuel : Nat) (cs : List Value) (d : DataW H) (p : List MemPlace), DataW.trod enc Tryd.prog W base spare held fuel 28 cs = some (d, p) → (∀ n ∈ d.weights Tryd.prog 28, n ≤ reachBytes) →
    ∃ v x, jcells v = cs ∧ (∃ a, v = .agg a) ∧ IsJ W (fun _ => True) v x := by
  intro fuel
  induction fuel using Nat.strongRecOn with
  | _ fuel ih =>
    intro cs d p h hw
    obtain ⟨m, v0, v1, v2, v3, v4, v5, y0, y1, y2, y3, y4, y5, rfl, rfl, rfl, ⟨_, g0⟩, ⟨_, g1⟩, ⟨_, g2⟩, ⟨_, g3⟩, ⟨_, g4⟩, ⟨_, g5⟩⟩ := six_trod h
    obtain ⟨w3, w4, w5⟩ := weights_six hw
    obtain ⟨k, e0, _, hk⟩ := DataW.trod_int Tryd.underlying3 g0
    obtain ⟨b, e1, _⟩ := DataW.trod_bool Tryd.underlying4 g1
    obtain ⟨n, e2, _, hn⟩ := DataW.trod_int Tryd.underlying3 g2
    obtain ⟨s, e3, x3, _⟩ := DataW.trod_string Tryd.underlying9 g3
    obtain ⟨nv, ns, e4, hS, hns, hnl⟩ := texts_trod g4 w4
    injection e0 with e0 _
    injection e1 with e1 _
    injection e2 with e2 _
    injection e3 with e3 _
    injection e4 with e4 _
    subst e0 e1 e2 e3 e4
    have hk' := wf_i64_of hk
    have hn' := wf_i64_of hn
    have hs : s.size ≤ 140737488355328 := by
      injection x3 with x3 _
      have := w3 s.data.toList.length (by rw [x3]; simp [DataW.weights])
      have e : s.data.toList.length = s.size := by rw [Array.length_toList]; rfl
      have := reach_small
      omega
    have hT : (numsOf s).length ≤ 140737488355328 ∧ ∀ y ∈ numsOf s, y < 256 := ⟨by rw [numsOf_length]; exact hs, numsOf_lt s⟩
    have hr := reach_small
    rw [← strOf_numsOf s]
    rcases DataW.trod_slice Tryd.underlying26 g5 with ⟨e5, _⟩ | ⟨a, len, cap, elems, rest, m', hm', e5, hx, _, hl, hm, hlen, hel, _⟩
    · injection e5 with e5 _
      subst e5
      exact ⟨jv k b n (strOf (numsOf s)) v4 (.slice none 0 0), .mk k b n (numsOf s) ns [], rfl, ⟨_, rfl⟩, .mk (vs := []) hk' hn' hT hS hns hnl (SlIs.nil _ _) rfl (Nat.zero_le _) (fun i v x h => by simp at h)⟩
    · injection e5 with e5 _
      subst e5
      have hd5 : y5 = .slice (elems.map (·.1)) (rest.map (·.1)) := by simpa using congrArg Prod.fst hx
      subst hd5
      obtain ⟨w51, w52⟩ := weights_slice Tryd.underlying26 w5
      rw [bytes_json] at w51
      simp only [List.length_map] at w51
      have each : ∀ i, i < len → ∃ q : Value × Jq.J, (∀ j x, (jcells q.1)[j]? = some x → W.cell? (a.add (i * 6 + j)) = some x) ∧ (jcells q.1).length = 6 ∧ IsJ W (fun _ => True) q.1 q.2 := by
        intro i hi
        have he := hel i hi
        rw [cells_one.2.2.2.2.2] at he
        have hei : elems[i]? = some (elems[i]'(by omega)) := List.getElem?_eq_getElem (by omega)
        rw [hei, Option.bind_eq_some_iff] at he
        obtain ⟨c1, hc, ht⟩ := he
        obtain ⟨v, x, hv, _, hJ⟩ := ih m' (by omega) c1 (elems[i]'(by omega)).1 (elems[i]'(by omega)).2 ht (w52 _ (List.mem_map.2 ⟨_, List.getElem_mem (by omega), rfl⟩))
        obtain ⟨_, hcl, hcell⟩ := World.cells?_some hc
        refine ⟨(v, x), fun j y hj => ?_, by rw [hv, hcl], hJ⟩
        have hj6 : j < 6 := by
          have := (List.getElem?_eq_some_iff.1 hj).1
          rw [hv, hcl] at this
          exact this
        have := hcell j hj6
        rw [Deep.add_add] at this
        rw [this, ← hv]
        exact hj
      have inh : Inhabited (Value × Jq.J) := ⟨(.nilIface, .mk 0 false 0 [] [] [])⟩
      obtain ⟨Q, hQ⟩ := Deep.choose_lt each
      have hvl : ((List.range len).map fun i => (Q i).1).length = len := by simp
      have hll : ((List.range len).map fun i => (Q i).2).length = len := by simp
      have hget : ∀ i, i < len → ((List.range len).map fun i => (Q i).1)[i]? = some (Q i).1 := fun i hi => by simp [hi]
      have hget2 : ∀ i, i < len → ((List.range len).map fun i => (Q i).2)[i]? = some (Q i).2 := fun i hi => by simp [hi]
      have h6 : ∀ v ∈ (List.range len).map fun i => (Q i).1, (jcells v).length = 6 := fun v hv => by
        obtain ⟨i, hi, rfl⟩ := List.mem_map.1 hv
        exact (hQ i (List.mem_range.1 hi)).2.1
      refine ⟨jv k b n (strOf (numsOf s)) v4 (.slice (some a) len cap), .mk k b n (numsOf s) ns ((List.range len).map fun i => (Q i).2), rfl, ⟨_, rfl⟩, .mk (vs := (List.range len).map fun i => (Q i).1) hk' hn' hT hS hns hnl ?_ (by rw [hvl, hll]) (by rw [hll]; omega) ?_⟩
      · rw [hll]
        refine ⟨some a, cap, rfl, hl, by unfold maxLen at hm; omega, fun h0 => ?_⟩
        obtain ⟨bb, off, spot⟩ := a
        have hc0 : ∃ x, W.cell? ((⟨bb, off, spot⟩ : Addr).add (0 * 6 + 0)) = some x := by
          have hlen6 := (hQ 0 h0).2.1
          exact ⟨_, (hQ 0 h0).1 0 _ (List.getElem?_eq_getElem (by omega))⟩
        obtain ⟨x0, hx0⟩ := hc0
        have hspot : spot = none := by
          have := World.cell?_spot hx0
          simpa [Addr.add] using this
        subst hspot
        rw [Addr.add_lit] at hx0
        refine ⟨bb, off, rfl, trivial, World.block_lt_of_cell? _ _ hx0, fun j x hj => ?_⟩
        have hflat : (((List.range len).map fun i => (Q i).1).flatMap jcells).length = len * 6 := by
          rw [List.length_flatMap]
          have : ((List.range len).map fun i => (Q i).1).map (fun v => (jcells v).length) = List.replicate len 6 := by
            apply List.ext_getElem
            · simp
            · intro i h1 h2
              simp at h1
              simp [(hQ i h1).2.1]
          rw [this]
          simp
        have hj2 : j < len * 6 := by
          have := (List.getElem?_eq_some_iff.1 hj).1
          rw [hflat] at this
          exact this
        have hq : j / 6 < len := by omega
        have hfa := flat_at _ h6 (j / 6) (j % 6) _ (hget _ hq) (by omega)
        rw [show j / 6 * 6 + j % 6 = j from by omega, hj] at hfa
        have := (hQ (j / 6) hq).1 (j % 6) x hfa.symm
        rw [show j / 6 * 6 + j % 6 = j from by omega, Addr.add_lit] at this
        exact this
      · intro i v x e1 e2
        have hi : i < len := by
          have := (List.getElem?_eq_some_iff.1 e1).1
          rw [hvl] at this
          exact this
        rw [hget i hi] at e1
        rw [hget2 i hi] at e2
        injection e1 with e1
        injection e2 with e2
        subst e1 e2
        exact (hQ i hi).2.2
set_option maxRecDepth 100000 in
/-- A value that came in as an argument. -/
theorem json_open {b0 : Nat} {r : Reach} {v : Value} {d : DataW H} {p : List MemPlace} (hv : Value.okWide Tryd.prog W r b0 28 v) (h : DataW.Trod enc Tryd.prog W base spare held 28 v d p) (hw : ∀ n ∈ d.weights Tryd.prog 28, n ≤ reachBytes) :
    ∃ x, IsJ W (fun _ => True) v x := by
  obtain ⟨cs, rfl, _⟩ := okWide_struct Tryd.underlying28 hv
  obtain ⟨fuel, hf⟩ := h
  obtain ⟨u, x, hu, ⟨a, rfl⟩, hJ⟩ := json_trod fuel _ _ _ hf hw
  have : a = cs := Array.toList_inj.1 hu
  rw [← this]
  exact ⟨x, hJ⟩
end
/-- The tables as the program's text lays them. -/
def powCells : Array Value := (Lib.pow10Tab.map fun z => Value.int .u64 z).toArray
def bruijn32 : Array Value := ([0, 1, 28, 2, 29, 14, 24, 3, 30, 22, 20, 15, 25, 17, 4, 8, 31, 27, 13, 23, 21, 19, 16, 7, 26, 12, 18, 6, 11, 5, 10, 9].map fun (n : Nat) => Value.int .u8 (n : Int)).toArray
def bruijn64 : Array Value := ([0, 1, 56, 2, 57, 49, 28, 3, 61, 58, 42, 50, 38, 29, 17, 4, 62, 47, 59, 36, 45, 43, 51, 22, 53, 39, 33, 30, 24, 18, 12, 5, 63, 55, 48, 27, 60, 41, 37, 16, 46, 35, 44, 21, 52, 32, 23, 11, 54, 26, 40, 15, 34, 20, 31, 10, 25, 14, 19, 9, 13, 8, 7, 6].map fun (n : Nat) => Value.int .u8 (n : Int)).toArray
/-- A world for the witness: the settled one, the tables as they are. -/
noncomputable def laidWorldU (os : Os) : World :=
  { World.holding Tryd.prog os ⟨#[], #[], []⟩ with
    heap := (((((World.holding Tryd.prog os ⟨#[], #[], []⟩).heap.modify 0 (relaid firstCells)).modify 1 (relaid rangeCells)).modify 2 (relaid powCells)).modify 3 (relaid bruijn32)).modify 4 (relaid bruijn64) }
theorem laid_metU (os : Os) (args : Array Value) : laidMet Tryd.prog laidList ((laidWorldU os).forCall (fun _ _ => 0) ⟨#[], args, []⟩).memory :=
  laidMet_of_run' 8 (by kernel_rfl) (by kernel_rfl)
end Go.Proofs.YtoocejcoaojaiaaDoor
