/-
  M07: VRow KRowB KRowF, side by side.
-/
import Derived.Test.YtnbaajdcakjlmaaDoorCards
import Derived.Test.YtnbaajdcakjlmaaDoorTie
import Derived.Test.YtnbaajdcakjlmaaDoorQS
import Derived.Test.YtnbaajdcakjlmaaDoorQD
import Derived.ProofKit
import Derived.OpenShut
import Derived.SizedLaws
import Derived.Deep.DeepHandedRow
import Derived.Deep.Slices
import Derived.Lib.LaidTab
import Derived.Lib.LaidU8T
import Derived.Lib.SmallJoins
import Derived.Stop.LaidErr
import Derived.Stop.ErrReads
import Derived.Test.YtnbaajdcakjlmaaDoorG21
import Derived.Lib.LaidU8
import Derived.Test.YtnbaajdcakjlmaaDoorM03

/-
  From the rows' reading of values to what the walks ask; what the listed variables hold; a world for the witness (as stage 5's, without the sentinels).
-/
namespace Go.Proofs.YtnbaajdcakjlmaaDoor
open Go.ChangeShapes Go.WideShapes Go.ChangeAt Go.RowKit
set_option maxRecDepth 100000 in
theorem own : ownKnob Tryd.prog.godebug = none := by kernel_rfl
set_option maxRecDepth 100000 in
theorem laidOut : laidOutB Tryd.prog = true := by kernel_rfl
set_option maxRecDepth 100000 in
theorem bytes_text : Tryd.prog.bytesOf 9 = 16 := by kernel_rfl
set_option maxRecDepth 100000 in
theorem bytes_json : Tryd.prog.bytesOf 27 = 88 := by kernel_rfl

/-- What a bound on the bulk of all that is read says of one value. -/
theorem bulk_pos {H : Type} (d : DataW H) : 0 < Rows.uptoBulk d := by
  cases d with
  | lit l => cases l <;> simp [Rows.uptoBulk]
  | _ => simp [Rows.uptoBulk]
theorem bulk_count {H : Type} (l : List (DataW H)) : l.length ≤ Rows.uptoBulkAll l := by
  induction l with
  | nil => exact Nat.zero_le _
  | cons d r ih => have := bulk_pos d; simp only [Rows.uptoBulkAll, List.length_cons]; omega
theorem bulk_mem {H : Type} {d : DataW H} {l : List (DataW H)} (h : d ∈ l) : Rows.uptoBulk d ≤ Rows.uptoBulkAll l := by
  induction l with
  | nil => cases h
  | cons x r ih =>
    simp only [Rows.uptoBulkAll]
    rcases List.mem_cons.1 h with rfl | h'
    · omega
    · have := ih h'; omega
theorem bulk_of {H : Type} {d : DataW H} {l : List (DataW H)} (hk : Rows.uptoSmall H l = true) (h : d ∈ l) : Rows.uptoBulk d ≤ 1048576 :=
  Nat.le_trans (bulk_mem h) (of_decide_eq_true hk)
theorem bulk_slice {H : Type} {es sp : List (DataW H)} {n : Nat} (h : Rows.uptoBulk (.slice es sp) ≤ n) : es.length + sp.length ≤ n := by
  have h1 := bulk_count es
  have h2 := bulk_count sp
  simp only [Rows.uptoBulk] at h
  omega
theorem bulk_text {H : Type} {s : ByteArray} {n : Nat} (h : Rows.uptoBulk (DataW.lit (H := H) (.string s.data.toList)) ≤ n) : s.size ≤ n := by
  simp only [Rows.uptoBulk] at h
  have e : s.data.toList.length = s.size := by rw [Array.length_toList]; rfl
  omega


/-- The two tables of the library's that the rows list, as cells. -/
def firstCells : Array Value := (Go.Pinned.utf8FirstZ.map fun (n : Nat) => Value.int .u8 (n : Int)).toArray
def rangeCells : Array Value := ([128, 191, 160, 191, 128, 159, 144, 191, 128, 143, 0, 0, 0, 0, 0, 0, 0, 0, 0, 0, 0, 0, 0, 0, 0, 0, 0, 0, 0, 0, 0, 0].map fun (n : Nat) => Value.int .u8 (n : Int)).toArray
/-- A block with other cells. -/
def relaid (cs : Array Value) : Obj → Obj
  | .cells _ t frozen => .cells cs t frozen
  | o => o
/-- The variables that the rows list. -/
def laidList : List (String × DataW Unit) := [("math/bits.deBruijn32tab", Rows.laid_math_bits_deBruijn32tab), ("math/bits.deBruijn64tab", Rows.laid_math_bits_deBruijn64tab), ("internal/strconv.uint64pow10", Rows.laid_internal_strconv_uint64pow10), ("unicode/utf8.acceptRanges", Rows.laid_unicode_utf8_acceptRanges), ("unicode/utf8.first", Rows.laid_unicode_utf8_first)]
set_option maxRecDepth 100000 in
theorem laid_plain {W : World} (h : laidMetH Tryd.prog laidList W) : laidMet Tryd.prog laidList W := by
  have e : (laidList.filter fun x => x.2.handleName?.isSome) = [] := by kernel_rfl
  unfold laidMetH at h
  rw [e] at h
  exact h
theorem pow_data {H : Type} : (Rows.laid_internal_strconv_uint64pow10 : DataW H) = Lib.tabData .u64 Lib.pow10Tab := by
  unfold Rows.laid_internal_strconv_uint64pow10 Lib.tabData Lib.pow10Tab
  rfl
set_option maxRecDepth 100000 in
theorem first_data : (Rows.laid_unicode_utf8_first : DataW Unit) = Lib.firstData := by
  have h : (Go.Pinned.utf8FirstZ.map fun (n : Nat) => (n : Int)) = Lib.firstTab := by kernel_rfl
  unfold Lib.firstData Lib.tabData
  rw [← h]
  rfl
set_option maxRecDepth 100000 in
theorem accept_data : (Rows.laid_unicode_utf8_acceptRanges : DataW Unit) = Lib.acceptData := by kernel_rfl
set_option maxRecDepth 100000 in
theorem u8_extra : U8Extra Tryd.prog lays196_ren := ⟨by kernel_rfl, by kernel_rfl, by kernel_rfl, by kernel_rfl, by kernel_rfl, by kernel_rfl, by kernel_rfl⟩
set_option maxRecDepth 100000 in
theorem held_of {W : World} (h : laidMetH Tryd.prog laidList W) : Held W := by
  have h0 := laid_plain h
  have h2 : laidMet Tryd.prog (("internal/strconv.uint64pow10", Lib.tabData .u64 Lib.pow10Tab) :: laidList.drop 3) W := by
    have := h0.tail.tail
    rw [← pow_data]
    exact this
  refine ⟨Lib.tabIs_of_head (g := 3) (t := 118) (e := 112) (n := 20) (by kernel_rfl) (by kernel_rfl) (by kernel_rfl) (by kernel_rfl) (by kernel_rfl) (by kernel_rfl) h2, trivial, trivial, ?_⟩
  · exact utf8Tabs_of_readsT (ρ := lays196_ren) (U8Types.of196 lays196) u8_extra (Lib.laidMet.reads h0 (by rw [← first_data]; exact List.mem_of_getElem? (i := 4) rfl)) (Lib.laidMet.reads h0 (by rw [← accept_data]; exact List.mem_of_getElem? (i := 3) rfl))

/-! A value that came in. -/
section
variable {H : Type} {enc : TypeId × Value → H} {W : World} {base : Nat} {spare : Nat → Bool} {held : Bool}
theorem weights_mem {e : TypeId} {d : DataW H} {l : List (DataW H)} (h : d ∈ l) : ∀ n ∈ d.weights Tryd.prog e, n ∈ DataW.weightsAll Tryd.prog e l := by
  induction l with
  | nil => cases h
  | cons x r ih =>
    intro n hn
    simp only [DataW.weightsAll, List.mem_append]
    rcases List.mem_cons.1 h with rfl | h'
    · exact .inl hn
    · exact .inr (ih h' n hn)
/-- What the weights of a slice say of its own size, and of its elements. -/
theorem weights_slice {t e : TypeId} (ht : Tryd.prog.underlying t = some (.slice e)) {es sp : List (DataW H)} (h : ∀ n ∈ (DataW.slice es sp).weights Tryd.prog t, n ≤ reachBytes) :
    (es.length + sp.length) * Tryd.prog.bytesOf e ≤ reachBytes ∧ ∀ d ∈ es, ∀ n ∈ d.weights Tryd.prog e, n ≤ reachBytes := by
  simp only [DataW.weights, ht] at h
  exact ⟨h _ (by simp), fun d hd n hn => h n (by simp [weights_mem hd n hn])⟩
theorem reach_small : reachBytes ≤ 140737488355328 := by decide

set_option maxRecDepth 100000 in
/-- Texts that came in. -/
theorem texts_trod {fuel : Nat} {cs : List Value} {d : DataW H} {p : List MemPlace} (h : DataW.trod enc Tryd.prog W base spare held fuel 24 cs = some (d, p)) (hw : ∀ n ∈ d.weights Tryd.prog 24, n ≤ reachBytes) :
    ∃ v ns, cs = [v] ∧ SlIs W (fun _ => True) v ns.length (tcells ns) ∧ (∀ p ∈ ns, p.length ≤ 140737488355328 ∧ ∀ y ∈ p, y < 256) ∧ ns.length * 16 ≤ 140737488355328 := by
  rcases DataW.trod_slice Tryd.underlying24 h with ⟨rfl, _⟩ | ⟨a, len, cap, elems, rest, n, _, rfl, hx, _, hl, hm, hlen, hel, _⟩
  · exact ⟨_, [], rfl, SlIs.nil _ _, (fun p hp => nomatch hp), Nat.zero_le _⟩
  · have hd : d = .slice (elems.map (·.1)) (rest.map (·.1)) := by simpa using congrArg Prod.fst hx
    subst hd
    obtain ⟨w1, w2⟩ := weights_slice Tryd.underlying24 hw
    rw [bytes_text] at w1
    simp only [List.length_map] at w1
    have each : ∀ i, i < len → ∃ s : ByteArray, W.cell? (a.add i) = some (.string s) ∧ s.size ≤ 140737488355328 := by
      intro i hi
      have he := hel i hi
      rw [show Tryd.prog.cellsOf 9 = 1 from by kernel_rfl, Nat.mul_one] at he
      have hei : elems[i]? = some (elems[i]'(by omega)) := List.getElem?_eq_getElem (by omega)
      rw [hei, Option.bind_eq_some_iff] at he
      obtain ⟨c1, hc, ht⟩ := he
      obtain ⟨s, rfl, hs, _⟩ := DataW.trod_string Tryd.underlying9 ht
      obtain ⟨_, _, hcell⟩ := World.cells?_some hc
      refine ⟨s, ?_, ?_⟩
      · have := hcell 0 (by omega)
        simpa [Addr.add] using this
      · have := w2 (elems[i]'(by omega)).1 (List.mem_map.2 ⟨_, List.getElem_mem (by omega), rfl⟩) s.data.toList.length (by rw [hs]; simp [DataW.weights])
        have e : s.data.toList.length = s.size := by rw [Array.length_toList]; rfl
        have := reach_small
        omega
    obtain ⟨S, hS⟩ : ∃ S : Nat → ByteArray, ∀ i, i < len → W.cell? (a.add i) = some (.string (S i)) ∧ (S i).size ≤ 140737488355328 :=
      ⟨fun i => if h : i < len then Classical.choose (each i h) else ByteArray.empty, fun i hi => by simp only [dif_pos hi]; exact Classical.choose_spec (each i hi)⟩
    have hr := reach_small
    have hnl : ((List.range len).map fun i => numsOf (S i)).length = len := by simp
    refine ⟨_, (List.range len).map fun i => numsOf (S i), rfl, ?_, ?_, by rw [hnl]; omega⟩
    · rw [hnl]
      refine ⟨some a, cap, rfl, hl, by unfold maxLen at hm; omega, fun h0 => ?_⟩
      obtain ⟨b, off, spot⟩ := a
      have hspot : spot = none := by
        have := World.cell?_spot (hS 0 h0).1
        simpa [Addr.add] using this
      subst hspot
      have h00 := (hS 0 h0).1
      rw [Addr.add_lit] at h00
      refine ⟨b, off, rfl, trivial, World.block_lt_of_cell? _ _ h00, fun j x hj => ?_⟩
      have hj2 : j < len := by
        have := (List.getElem?_eq_some_iff.1 hj).1
        rw [tcells_length, hnl] at this
        exact this
      have hc := (hS j hj2).1
      rw [Addr.add_lit] at hc
      rw [hc, ← hj]
      simp [tcells, hj2, strOf_numsOf]
    · intro q hq
      obtain ⟨i, hi, rfl⟩ := List.mem_map.1 hq
      exact ⟨by rw [numsOf_length]; exact (hS i (List.mem_range.1 hi)).2, numsOf_lt _⟩

theorem wf_i64_of {k : Int} (h : (Lit.int .i64 k).wf = true) : -9223372036854775808 ≤ k ∧ k ≤ 9223372036854775807 := by
  simp only [Lit.wf, Bool.and_eq_true, decide_eq_true_eq] at h
  have e1 : IntKind.min .i64 = -9223372036854775808 := by decide
  have e2 : IntKind.max .i64 = 9223372036854775807 := by decide
  rw [e1, e2] at h
  exact h
set_option maxRecDepth 100000 in
theorem fields_json : ∃ fs : Array Field, Tryd.prog.underlying 27 = some (.struct fs) ∧ fs.size = 6 ∧ fs.toList.map (fun f => (f.type, f.offset)) = [(3, 0), (4, 1), (3, 2), (9, 3), (24, 4), (25, 5)] :=
  ⟨_, Tryd.underlying27, by kernel_rfl, by kernel_rfl⟩
set_option maxRecDepth 100000 in
theorem cells_one : Tryd.prog.cellsOf 3 = 1 ∧ Tryd.prog.cellsOf 4 = 1 ∧ Tryd.prog.cellsOf 9 = 1 ∧ Tryd.prog.cellsOf 24 = 1 ∧ Tryd.prog.cellsOf 25 = 1 ∧ Tryd.prog.cellsOf 27 = 6 := by
  refine ⟨?_, ?_, ?_, ?_, ?_, ?_⟩ <;> kernel_rfl
set_option maxRecDepth 100000 in
/-- A struct's six readings. -/
theorem six_trod {fuel : Nat} {cs : List Value} {d : DataW H} {p : List MemPlace} (h : DataW.trod enc Tryd.prog W base spare held fuel 27 cs = some (d, p)) :
    ∃ m v0 v1 v2 v3 v4 v5 y0 y1 y2 y3 y4 y5, fuel = m + 1 ∧ cs = [v0, v1, v2, v3, v4, v5] ∧ d = .agg [y0, y1, y2, y3, y4, y5] ∧
      (∃ p, DataW.trod enc Tryd.prog W base spare held m 3 [v0] = some (y0, p)) ∧ (∃ p, DataW.trod enc Tryd.prog W base spare held m 4 [v1] = some (y1, p)) ∧ (∃ p, DataW.trod enc Tryd.prog W base spare held m 3 [v2] = some (y2, p)) ∧
      (∃ p, DataW.trod enc Tryd.prog W base spare held m 9 [v3] = some (y3, p)) ∧ (∃ p, DataW.trod enc Tryd.prog W base spare held m 24 [v4] = some (y4, p)) ∧ (∃ p, DataW.trod enc Tryd.prog W base spare held m 25 [v5] = some (y5, p)) := by
  obtain ⟨fs, hu, hsz, hfs⟩ := fields_json
  obtain ⟨xs, m, hf, hx, hcl, hxl, hall⟩ := DataW.trod_struct hu h
  obtain ⟨k1, k2, k3, k4, k5, k6⟩ := cells_one
  rw [k6] at hcl
  rw [hsz] at hxl
  have hfi : ∀ (i : Nat) t o, [(3, 0), (4, 1), (3, 2), (9, 3), (24, 4), (25, 5)][i]? = some (t, o) → ∃ f, fs[i]? = some f ∧ f.type = t ∧ f.offset = o := fun i t o hi => by
    rw [← hfs, List.getElem?_map] at hi
    obtain ⟨f, hf, e⟩ := Option.map_eq_some_iff.1 hi
    rw [Array.getElem?_toList] at hf
    injection e with e1 e2
    exact ⟨f, hf, e1, e2⟩
  match xs, hxl, cs, hcl with
  | [x0, x1, x2, x3, x4, x5], _, [v0, v1, v2, v3, v4, v5], _ =>
    have g : ∀ (i : Nat) t o, [(3, 0), (4, 1), (3, 2), (9, 3), (24, 4), (25, 5)][i]? = some (t, o) → DataW.trod enc Tryd.prog W base spare held m t (([v0, v1, v2, v3, v4, v5].drop o).take (Tryd.prog.cellsOf t)) = [x0, x1, x2, x3, x4, x5][i]? := fun i t o hi => by
      obtain ⟨f, h1, h2, h3⟩ := hfi i t o hi
      have := hall i f h1
      rw [h2, h3] at this
      exact this
    have g0 := g 0 _ _ rfl
    have g1 := g 1 _ _ rfl
    have g2 := g 2 _ _ rfl
    have g3 := g 3 _ _ rfl
    have g4 := g 4 _ _ rfl
    have g5 := g 5 _ _ rfl
    rw [k1] at g0 g2
    rw [k2] at g1
    rw [k3] at g3
    rw [k4] at g4
    rw [k5] at g5
    have hd : d = .agg [x0.1, x1.1, x2.1, x3.1, x4.1, x5.1] := by simpa using congrArg Prod.fst hx
    exact ⟨m, v0, v1, v2, v3, v4, v5, x0.1, x1.1, x2.1, x3.1, x4.1, x5.1, hf, rfl, hd, ⟨x0.2, g0⟩, ⟨x1.2, g1⟩, ⟨x2.2, g2⟩, ⟨x3.2, g3⟩, ⟨x4.2, g4⟩, ⟨x5.2, g5⟩⟩
set_option maxRecDepth 100000 in
theorem weights_six {y0 y1 y2 y3 y4 y5 : DataW H} (h : ∀ n ∈ (DataW.agg [y0, y1, y2, y3, y4, y5]).weights Tryd.prog 27, n ≤ reachBytes) :
    (∀ n ∈ y3.weights Tryd.prog 9, n ≤ reachBytes) ∧ (∀ n ∈ y4.weights Tryd.prog 24, n ≤ reachBytes) ∧ (∀ n ∈ y5.weights Tryd.prog 25, n ≤ reachBytes) := by
  have e : (DataW.agg [y0, y1, y2, y3, y4, y5]).weights Tryd.prog 27 = y0.weights Tryd.prog 3 ++ (y1.weights Tryd.prog 4 ++ (y2.weights Tryd.prog 3 ++ (y3.weights Tryd.prog 9 ++ (y4.weights Tryd.prog 24 ++ (y5.weights Tryd.prog 25 ++ []))))) := by
    simp only [DataW.weights, Tryd.underlying27]
    rfl
  rw [e] at h
  exact ⟨fun n hn => h n (by simp [hn]), fun n hn => h n (by simp [hn]), fun n hn => h n (by simp [hn])⟩
set_option maxRecDepth 100000 in
/-- A value that came in, at any depth. -/
theorem json_trod : ∀ (fuel : Nat) (cs : List Value) (d : DataW H) (p : List MemPlace), DataW.trod enc Tryd.prog W base spare held fuel 27 cs = some (d, p) → (∀ n ∈ d.weights Tryd.prog 27, n ≤ reachBytes) →
    ∃ v x, jcells v = cs ∧ (∃ a, v = .agg a) ∧ IsJ W (fun _ => True) v x := by
  intro fuel
  induction fuel using Nat.strongRecOn with
  | _ fuel ih =>
    intro cs d p h hw
    obtain ⟨m, v0, v1, v2, v3, v4, v5, y0, y1, y2, y3, y4, y5, rfl, rfl, rfl, ⟨_, g0⟩, ⟨_, g1⟩, ⟨_, g2⟩, ⟨_, g3⟩, ⟨_, g4⟩, ⟨_, g5⟩⟩ := six_trod h
    obtain ⟨w3, w4, w5⟩ := weights_six hw
    obtain ⟨k, e0, _, hk⟩ := DataW.trod_int Tryd.underlying3 g0
    obtain ⟨b, e1, _⟩ := DataW.trod_bool Tryd.underlying4 g1
    obtain ⟨n, e2, _, hn⟩ := DataW.trod_int Tryd.underlying3 g2
    obtain ⟨s, e3, x3, _⟩ := DataW.trod_string Tryd.underlying9 g3
    obtain ⟨nv, ns, e4, hS, hns, hnl⟩ := texts_trod g4 w4
    injection e0 with e0 _
    injection e1 with e1 _
    injection e2 with e2 _
    injection e3 with e3 _
    injection e4 with e4 _
    subst e0 e1 e2 e3 e4
    have hk' := wf_i64_of hk
    have hn' := wf_i64_of hn
    have hs : s.size ≤ 140737488355328 := by
      injection x3 with x3 _
      have := w3 s.data.toList.length (by rw [x3]; simp [DataW.weights])
      have e : s.data.toList.length = s.size := by rw [Array.length_toList]; rfl
      have := reach_small
      omega
    have hT : (numsOf s).length ≤ 140737488355328 ∧ ∀ y ∈ numsOf s, y < 256 := ⟨by rw [numsOf_length]; exact hs, numsOf_lt s⟩
    have hr := reach_small
    rw [← strOf_numsOf s]
    rcases DataW.trod_slice Tryd.underlying25 g5 with ⟨e5, _⟩ | ⟨a, len, cap, elems, rest, m', hm', e5, hx, _, hl, hm, hlen, hel, _⟩
    · injection e5 with e5 _
      subst e5
      exact ⟨jv k b n (strOf (numsOf s)) v4 (.slice none 0 0), .mk k b n (numsOf s) ns [], rfl, ⟨_, rfl⟩, .mk (vs := []) hk' hn' hT hS hns hnl (SlIs.nil _ _) rfl (Nat.zero_le _) (fun i v x h => by simp at h)⟩
    · injection e5 with e5 _
      subst e5
      have hd5 : y5 = .slice (elems.map (·.1)) (rest.map (·.1)) := by simpa using congrArg Prod.fst hx
      subst hd5
      obtain ⟨w51, w52⟩ := weights_slice Tryd.underlying25 w5
      rw [bytes_json] at w51
      simp only [List.length_map] at w51
      have each : ∀ i, i < len → ∃ q : Value × Jq.J, (∀ j x, (jcells q.1)[j]? = some x → W.cell? (a.add (i * 6 + j)) = some x) ∧ (jcells q.1).length = 6 ∧ IsJ W (fun _ => True) q.1 q.2 := by
        intro i hi
        have he := hel i hi
        rw [cells_one.2.2.2.2.2] at he
        have hei : elems[i]? = some (elems[i]'(by omega)) := List.getElem?_eq_getElem (by omega)
        rw [hei, Option.bind_eq_some_iff] at he
        obtain ⟨c1, hc, ht⟩ := he
        obtain ⟨v, x, hv, _, hJ⟩ := ih m' (by omega) c1 (elems[i]'(by omega)).1 (elems[i]'(by omega)).2 ht (w52 _ (List.mem_map.2 ⟨_, List.getElem_mem (by omega), rfl⟩))
        obtain ⟨_, hcl, hcell⟩ := World.cells?_some hc
        refine ⟨(v, x), fun j y hj => ?_, by rw [hv, hcl], hJ⟩
        have hj6 : j < 6 := by
          have := (List.getElem?_eq_some_iff.1 hj).1
          rw [hv, hcl] at this
          exact this
        have := hcell j hj6
        rw [Deep.add_add] at this
        rw [this, ← hv]
        exact hj
      have inh : Inhabited (Value × Jq.J) := ⟨(.nilIface, .mk 0 false 0 [] [] [])⟩
      obtain ⟨Q, hQ⟩ := Deep.choose_lt each
      have hvl : ((List.range len).map fun i => (Q i).1).length = len := by simp
      have hll : ((List.range len).map fun i => (Q i).2).length = len := by simp
      have hget : ∀ i, i < len → ((List.range len).map fun i => (Q i).1)[i]? = some (Q i).1 := fun i hi => by simp [hi]
      have hget2 : ∀ i, i < len → ((List.range len).map fun i => (Q i).2)[i]? = some (Q i).2 := fun i hi => by simp [hi]
      have h6 : ∀ v ∈ (List.range len).map fun i => (Q i).1, (jcells v).length = 6 := fun v hv => by
        obtain ⟨i, hi, rfl⟩ := List.mem_map.1 hv
        exact (hQ i (List.mem_range.1 hi)).2.1
      refine ⟨jv k b n (strOf (numsOf s)) v4 (.slice (some a) len cap), .mk k b n (numsOf s) ns ((List.range len).map fun i => (Q i).2), rfl, ⟨_, rfl⟩, .mk (vs := (List.range len).map fun i => (Q i).1) hk' hn' hT hS hns hnl ?_ (by rw [hvl, hll]) (by rw [hll]; omega) ?_⟩
      · rw [hll]
        refine ⟨some a, cap, rfl, hl, by unfold maxLen at hm; omega, fun h0 => ?_⟩
        obtain ⟨bb, off, spot⟩ := a
        have hc0 : ∃ x, W.cell? ((⟨bb, off, spot⟩ : Addr).add (0 * 6 + 0)) = some x := by
          have hlen6 := (hQ 0 h0).2.1
          exact ⟨_, (hQ 0 h0).1 0 _ (List.getElem?_eq_getElem (by omega))⟩
        obtain ⟨x0, hx0⟩ := hc0
        have hspot : spot = none := by
          have := World.cell?_spot hx0
          simpa [Addr.add] using this
        subst hspot
        rw [Addr.add_lit] at hx0
        refine ⟨bb, off, rfl, trivial, World.block_lt_of_cell? _ _ hx0, fun j x hj => ?_⟩
        have hflat : (((List.range len).map fun i => (Q i).1).flatMap jcells).length = len * 6 := by
          rw [List.length_flatMap]
          have : ((List.range len).map fun i => (Q i).1).map (fun v => (jcells v).length) = List.replicate len 6 := by
            apply List.ext_getElem
            · simp
            · intro i h1 h2
              simp at h1
              simp [(hQ i h1).2.1]
          rw [this]
          simp
        have hj2 : j < len * 6 := by
          have := (List.getElem?_eq_some_iff.1 hj).1
          rw [hflat] at this
          exact this
        have hq : j / 6 < len := by omega
        have hfa := flat_at _ h6 (j / 6) (j % 6) _ (hget _ hq) (by omega)
        rw [show j / 6 * 6 + j % 6 = j from by omega, hj] at hfa
        have := (hQ (j / 6) hq).1 (j % 6) x hfa.symm
        rw [show j / 6 * 6 + j % 6 = j from by omega, Addr.add_lit] at this
        exact this
      · intro i v x e1 e2
        have hi : i < len := by
          have := (List.getElem?_eq_some_iff.1 e1).1
          rw [hvl] at this
          exact this
        rw [hget i hi] at e1
        rw [hget2 i hi] at e2
        injection e1 with e1
        injection e2 with e2
        subst e1 e2
        exact (hQ i hi).2.2
set_option maxRecDepth 100000 in
/-- A value that came in as an argument. -/
theorem json_open {b0 : Nat} {r : Reach} {v : Value} {d : DataW H} {p : List MemPlace} (hv : Value.okWide Tryd.prog W r b0 27 v) (h : DataW.Trod enc Tryd.prog W base spare held 27 v d p) (hw : ∀ n ∈ d.weights Tryd.prog 27, n ≤ reachBytes) :
    ∃ x, IsJ W (fun _ => True) v x := by
  obtain ⟨cs, rfl, _⟩ := okWide_struct Tryd.underlying27 hv
  obtain ⟨fuel, hf⟩ := h
  obtain ⟨u, x, hu, ⟨a, rfl⟩, hJ⟩ := json_trod fuel _ _ _ hf hw
  have : a = cs := Array.toList_inj.1 hu
  rw [← this]
  exact ⟨x, hJ⟩
end
/-- The tables as the program's text lays them. -/
def powCells : Array Value := (Lib.pow10Tab.map fun z => Value.int .u64 z).toArray
def bruijn32 : Array Value := ([0, 1, 28, 2, 29, 14, 24, 3, 30, 22, 20, 15, 25, 17, 4, 8, 31, 27, 13, 23, 21, 19, 16, 7, 26, 12, 18, 6, 11, 5, 10, 9].map fun (n : Nat) => Value.int .u8 (n : Int)).toArray
def bruijn64 : Array Value := ([0, 1, 56, 2, 57, 49, 28, 3, 61, 58, 42, 50, 38, 29, 17, 4, 62, 47, 59, 36, 45, 43, 51, 22, 53, 39, 33, 30, 24, 18, 12, 5, 63, 55, 48, 27, 60, 41, 37, 16, 46, 35, 44, 21, 52, 32, 23, 11, 54, 26, 40, 15, 34, 20, 31, 10, 25, 14, 19, 9, 13, 8, 7, 6].map fun (n : Nat) => Value.int .u8 (n : Int)).toArray
set_option maxRecDepth 100000 in
/-- A world for the witness: the settled one, the tables as they are. -/
noncomputable def laidWorldU (os : Os) : World :=
  { World.holding Tryd.prog os ⟨#[], #[], []⟩ with
    heap := (((((World.holding Tryd.prog os ⟨#[], #[], []⟩).heap.modify 1 (relaid firstCells)).modify 2 (relaid rangeCells)).modify 3 (relaid powCells)).modify 4 (relaid bruijn32)).modify 5 (relaid bruijn64) }
theorem laid_metU (os : Os) (args : Array Value) : laidMet Tryd.prog laidList ((laidWorldU os).forCall (fun _ _ => 0) ⟨#[], args, []⟩).memory :=
  laidMet_of_run' 8 (by kernel_rfl) (by kernel_rfl)
end Go.Proofs.YtnbaajdcakjlmaaDoor

/-
  From the rows' reading to nodes and rules in memory.
-/
namespace Go.Proofs.YtnbaajdcakjlmaaDoor
open Go.ChangeShapes Go.WideShapes Go.ChangeAt Go.RowKit
section
variable {H : Type} {enc : TypeId × Value → H} {W : World} {base : Nat} {spare : Nat → Bool} {held : Bool}
theorem flatk_at (k : Nat) : ∀ (vs : List Value), (∀ v ∈ vs, (jcells v).length = k) → ∀ (i j : Nat) (v : Value), vs[i]? = some v → j < k → (vs.flatMap jcells)[i * k + j]? = (jcells v)[j]?
  | [], _, i, j, v, h, _ => by simp at h
  | a :: r, hl, 0, j, v, h, hj => by
    simp at h
    subst h
    rw [List.flatMap_cons, List.getElem?_append_left (by have := hl a (by simp); omega)]
    simp
  | a :: r, hl, i + 1, j, v, h, hj => by
    have ha := hl a (by simp)
    rw [List.flatMap_cons, List.getElem?_append_right (by rw [ha, Nat.succ_mul]; omega), show (i + 1) * k + j - (jcells a).length = i * k + j from by rw [ha, Nat.succ_mul]; omega]
    exact flatk_at k r (fun v hv => hl v (by simp [hv])) i j v (by simpa using h) hj
set_option maxRecDepth 100000 in
/-- A row of structs that came in, of k cells each. -/
theorem rowsS_trod {α : Type} (t e : TypeId) (ht : Tryd.prog.underlying t = some (.slice e)) (k B : Nat) {M : Nat} (hk : Tryd.prog.cellsOf e = k) (hk0 : 0 < k) (SZ : TypeId → DataW H → Prop) (hsl : ∀ es sp, SZ t (.slice es sp) → es.length * B ≤ M ∧ ∀ d ∈ es, SZ e d) (R : Value → α → Prop) (x0 : α)
    (hel : ∀ (fuel : Nat) (cs : List Value) (d : DataW H) (p : List MemPlace), DataW.trod enc Tryd.prog W base spare held fuel e cs = some (d, p) → SZ e d → ∃ v x, jcells v = cs ∧ R v x)
    {fuel : Nat} {cs : List Value} {d : DataW H} {p : List MemPlace} (h : DataW.trod enc Tryd.prog W base spare held fuel t cs = some (d, p)) (hw : SZ t d) :
    ∃ (v : Value) (l : List α) (vs : List Value), cs = [v] ∧ SlIs W (fun _ => True) v l.length (vs.flatMap jcells) ∧ vs.length = l.length ∧ l.length * B ≤ M ∧ ∀ (i : Nat) v (x : α), vs[i]? = some v → l[i]? = some x → R v x := by
  rcases DataW.trod_slice ht h with ⟨rfl, _⟩ | ⟨a, len, cap, elems, rest, m', hm', rfl, hx, _, hl, hm, hlen, hels, _⟩
  · exact ⟨_, [], [], rfl, SlIs.nil _ _, rfl, by simp, fun i v x e => by simp at e⟩
  have hd5 : d = .slice (elems.map (·.1)) (rest.map (·.1)) := by simpa using congrArg Prod.fst hx
  subst hd5
  obtain ⟨w51, w52⟩ := hsl _ _ hw
  simp only [List.length_map] at w51
  have each : ∀ i, i < len → ∃ q : Value × α, (∀ j x, (jcells q.1)[j]? = some x → W.cell? (a.add (i * k + j)) = some x) ∧ (jcells q.1).length = k ∧ R q.1 q.2 := by
    intro i hi
    have he := hels i hi
    rw [hk] at he
    have hei : elems[i]? = some (elems[i]'(by omega)) := List.getElem?_eq_getElem (by omega)
    rw [hei, Option.bind_eq_some_iff] at he
    obtain ⟨c1, hc, ht⟩ := he
    obtain ⟨v, x, hv, hJ⟩ := hel m' c1 (elems[i]'(by omega)).1 (elems[i]'(by omega)).2 ht (w52 _ (List.mem_map.2 ⟨_, List.getElem_mem (by omega), rfl⟩))
    obtain ⟨_, hcl, hcell⟩ := World.cells?_some hc
    refine ⟨(v, x), fun j y hj => ?_, by rw [hv, hcl], hJ⟩
    have hj6 : j < k := by
      have := (List.getElem?_eq_some_iff.1 hj).1
      rw [hv, hcl] at this
      exact this
    have := hcell j hj6
    rw [Deep.add_add] at this
    rw [this, ← hv]
    exact hj
  have inh : Inhabited (Value × α) := ⟨(.nilIface, x0)⟩
  obtain ⟨Q, hQ⟩ := Deep.choose_lt each
  have hvl : ((List.range len).map fun i => (Q i).1).length = len := by simp
  have hll : ((List.range len).map fun i => (Q i).2).length = len := by simp
  have hget : ∀ i, i < len → ((List.range len).map fun i => (Q i).1)[i]? = some (Q i).1 := fun i hi => by simp [hi]
  have hget2 : ∀ i, i < len → ((List.range len).map fun i => (Q i).2)[i]? = some (Q i).2 := fun i hi => by simp [hi]
  have h6 : ∀ v ∈ (List.range len).map fun i => (Q i).1, (jcells v).length = k := fun v hv => by
    obtain ⟨i, hi, rfl⟩ := List.mem_map.1 hv
    exact (hQ i (List.mem_range.1 hi)).2.1
  have hlb : len * B ≤ M := by rw [← hlen]; exact w51
  refine ⟨.slice (some a) len cap, (List.range len).map fun i => (Q i).2, (List.range len).map fun i => (Q i).1, rfl, ?_, by rw [hvl, hll], by rw [hll]; exact hlb, ?_⟩
  · rw [hll]
    refine ⟨some a, cap, rfl, hl, by unfold maxLen at hm; omega, fun h0 => ?_⟩
    obtain ⟨bb, off, spot⟩ := a
    have hc0 : ∃ x, W.cell? ((⟨bb, off, spot⟩ : Addr).add (0 * k + 0)) = some x := by
      have hlen6 := (hQ 0 h0).2.1
      exact ⟨_, (hQ 0 h0).1 0 _ (List.getElem?_eq_getElem (by omega))⟩
    obtain ⟨x0, hx0⟩ := hc0
    have hspot : spot = none := by
      have := World.cell?_spot hx0
      simpa [Addr.add] using this
    subst hspot
    rw [Addr.add_lit] at hx0
    refine ⟨bb, off, rfl, trivial, World.block_lt_of_cell? _ _ hx0, fun j x hj => ?_⟩
    have hflat : (((List.range len).map fun i => (Q i).1).flatMap jcells).length = len * k := by
      rw [List.length_flatMap]
      have : ((List.range len).map fun i => (Q i).1).map (fun v => (jcells v).length) = List.replicate len k := by
        apply List.ext_getElem
        · simp
        · intro i h1 h2
          simp at h1
          simp [(hQ i h1).2.1]
      rw [this]
      simp
    have hj2 : j < len * k := by
      have := (List.getElem?_eq_some_iff.1 hj).1
      rw [hflat] at this
      exact this
    have hq : j / k < len := Nat.div_lt_of_lt_mul (by rw [Nat.mul_comm]; exact hj2)
    have hfa := flatk_at k _ h6 (j / k) (j % k) _ (hget _ hq) (Nat.mod_lt _ hk0)
    have hjk : j / k * k + j % k = j := by rw [Nat.mul_comm]; exact Nat.div_add_mod j k
    rw [hjk, hj] at hfa
    have := (hQ (j / k) hq).1 (j % k) x hfa.symm
    rw [hjk, Addr.add_lit] at this
    exact this
  · intro i v x e1 e2
    have hi : i < len := by
      have := (List.getElem?_eq_some_iff.1 e1).1
      rw [hvl] at this
      exact this
    rw [hget i hi] at e1
    rw [hget2 i hi] at e2
    injection e1 with e1
    injection e2 with e2
    subst e1 e2
    exact (hQ i hi).2.2
/-- What is known of the sizes of what came in. -/
structure SzOk (T : Nat) (SZ : TypeId → DataW H → Prop) : Prop where
  nodes : ∀ es sp, SZ 22 (.slice es sp) → es.length * 48 ≤ 140737488355328 ∧ ∀ d ∈ es, SZ 44 d
  rules : ∀ es sp, SZ 39 (.slice es sp) → es.length * 64 ≤ 140737488355328 ∧ ∀ d ∈ es, SZ 42 d
  node : ∀ a b c d e, SZ 44 (.agg [a, b, c, d, e]) → SZ 9 e
  rule : ∀ a b c, SZ 42 (.agg [a, b, c]) → SZ 9 a ∧ SZ 22 b ∧ SZ 22 c
  text : ∀ l, SZ 9 (.lit (.string l)) → l.length ≤ T
set_option maxRecDepth 100000 in
theorem cells_node : Tryd.prog.cellsOf 3 = 1 ∧ Tryd.prog.cellsOf 9 = 1 ∧ Tryd.prog.cellsOf 22 = 1 ∧ Tryd.prog.cellsOf 44 = 5 ∧ Tryd.prog.cellsOf 42 = 3 := by
  refine ⟨?_, ?_, ?_, ?_, ?_⟩ <;> kernel_rfl
set_option maxRecDepth 100000 in
theorem bytes_node : Tryd.prog.bytesOf 44 = 48 ∧ Tryd.prog.bytesOf 42 = 64 := by
  refine ⟨?_, ?_⟩ <;> kernel_rfl
def szW (t : TypeId) (d : DataW H) : Prop := ∀ n ∈ d.weights Tryd.prog t, n ≤ reachBytes
set_option maxRecDepth 100000 in
theorem szW_ok : SzOk (H := H) 140737488355328 szW where
  nodes := fun es sp h => by
    obtain ⟨h1, h2⟩ := weights_slice Tryd.underlying22 h
    rw [bytes_node.1] at h1
    have := reach_small
    exact ⟨by have h3 : es.length * 48 ≤ (es.length + sp.length) * 48 := Nat.mul_le_mul_right _ (Nat.le_add_right _ _); omega, h2⟩
  rules := fun es sp h => by
    obtain ⟨h1, h2⟩ := weights_slice Tryd.underlying39 h
    rw [bytes_node.2] at h1
    have := reach_small
    exact ⟨by have h3 : es.length * 64 ≤ (es.length + sp.length) * 64 := Nat.mul_le_mul_right _ (Nat.le_add_right _ _); omega, h2⟩
  node := fun a b c d e h => by
    have w : (DataW.agg [a, b, c, d, e]).weights Tryd.prog 44 = a.weights Tryd.prog 3 ++ (b.weights Tryd.prog 3 ++ (c.weights Tryd.prog 3 ++ (d.weights Tryd.prog 3 ++ (e.weights Tryd.prog 9 ++ [])))) := by
      simp only [DataW.weights, Tryd.underlying44]
      rfl
    unfold szW at h ⊢
    rw [w] at h
    exact fun n hn => h n (by simp [hn])
  rule := fun a b c h => by
    have w : (DataW.agg [a, b, c]).weights Tryd.prog 42 = a.weights Tryd.prog 9 ++ (b.weights Tryd.prog 22 ++ (c.weights Tryd.prog 22 ++ [])) := by
      simp only [DataW.weights, Tryd.underlying42]
      rfl
    unfold szW at h ⊢
    rw [w] at h
    exact ⟨fun n hn => h n (by simp [hn]), fun n hn => h n (by simp [hn]), fun n hn => h n (by simp [hn])⟩
  text := fun l h => by
    have := h l.length (by simp [DataW.weights])
    have := reach_small
    omega
def szB (_ : TypeId) (d : DataW H) : Prop := Rows.uptoBulk d ≤ 1048576
theorem bulk_parts {ds : List (DataW H)} (h : Rows.uptoBulk (.agg ds) ≤ 1048576) {d : DataW H} (hd : d ∈ ds) : Rows.uptoBulk d ≤ 1048576 := by
  have := bulk_mem hd
  simp only [Rows.uptoBulk] at h
  omega
theorem bulk_row {es sp : List (DataW H)} (h : Rows.uptoBulk (.slice es sp) ≤ 1048576) : es.length ≤ 1048576 ∧ ∀ d ∈ es, Rows.uptoBulk d ≤ 1048576 := by
  refine ⟨by have := bulk_slice h; omega, fun d hd => ?_⟩
  have := bulk_mem hd
  simp only [Rows.uptoBulk] at h
  omega
theorem szB_ok : SzOk (H := H) 1048576 szB where
  nodes := fun es sp h => ⟨by have := (bulk_row h).1; omega, (bulk_row h).2⟩
  rules := fun es sp h => ⟨by have := (bulk_row h).1; omega, (bulk_row h).2⟩
  node := fun a b c d e h => bulk_parts h (by simp)
  rule := fun a b c h => ⟨bulk_parts h (by simp), bulk_parts h (by simp), bulk_parts h (by simp)⟩
  text := fun l h => by
    unfold szB at h
    simp only [Rows.uptoBulk] at h
    omega
/-- What is known of a node that came in. -/
def NodeB (T : Nat) (n : Zq.Nd) : Prop := (-9223372036854775808 ≤ n.int ∧ n.int ≤ 9223372036854775807) ∧ (-9223372036854775808 ≤ n.a ∧ n.a ≤ 9223372036854775807) ∧ (-9223372036854775808 ≤ n.b ∧ n.b ≤ 9223372036854775807) ∧ n.text.length ≤ T ∧ ∀ x ∈ n.text, x < 256
def NodesIn (W : World) (T : Nat) (v : Value) (ns : List Zq.Nd) : Prop := NsE W (fun _ => True) v ns ∧ ns.length * 48 ≤ 140737488355328 ∧ ∀ n ∈ ns, NodeB T n
def RuleC (T : Nat) (r : Zq.Rl) : Prop := r.name.length ≤ T ∧ (r.expr.length * 48 ≤ 140737488355328 ∧ r.cond.length * 48 ≤ 140737488355328) ∧ (∀ n ∈ r.expr, NodeB T n) ∧ (∀ n ∈ r.cond, NodeB T n)
def RulesIn (W : World) (T : Nat) (v : Value) (rs : List Zq.Rl) : Prop := RsE W (fun _ => True) v rs ∧ rs.length * 64 ≤ 140737488355328 ∧ ∀ r ∈ rs, RuleC T r
theorem text_of {SZ : TypeId → DataW H → Prop} {T : Nat} (hS : SzOk T SZ) {s : ByteArray} {x : DataW H × List MemPlace} {ps : List MemPlace} (z : x = (.lit (.string s.data.toList), ps)) (h : SZ 9 x.1) : (numsOf s).length ≤ T := by
  have h2 : x.1 = .lit (.string s.data.toList) := congrArg Prod.fst z
  rw [h2] at h
  have := hS.text _ h
  have e : s.data.toList.length = s.size := by rw [Array.length_toList]; rfl
  rw [numsOf_length]
  omega
set_option maxRecDepth 100000 in
theorem fields_node : ∃ fs : Array Field, Tryd.prog.underlying 44 = some (.struct fs) ∧ fs.size = 5 ∧ fs.toList.map (fun f => (f.type, f.offset)) = [(3, 0), (3, 1), (3, 2), (3, 3), (9, 4)] :=
  ⟨_, Tryd.underlying44, by kernel_rfl, by kernel_rfl⟩
set_option maxRecDepth 100000 in
theorem fields_rule : ∃ fs : Array Field, Tryd.prog.underlying 42 = some (.struct fs) ∧ fs.size = 3 ∧ fs.toList.map (fun f => (f.type, f.offset)) = [(9, 0), (22, 1), (22, 2)] :=
  ⟨_, Tryd.underlying42, by kernel_rfl, by kernel_rfl⟩
set_option maxRecDepth 100000 in
theorem node_trod {SZ : TypeId → DataW H → Prop} {T : Nat} (hS : SzOk T SZ) (fuel : Nat) (cs : List Value) (d : DataW H) (p : List MemPlace) (hf : DataW.trod enc Tryd.prog W base spare held fuel 44 cs = some (d, p)) (hw : SZ 44 d) :
    ∃ v x, jcells v = cs ∧ (v = ndv x ∧ NodeB T x) := by
  obtain ⟨fs, hu, hsz, hfs⟩ := fields_node
  obtain ⟨xs, m, _, hx, hcl, hxl, hall⟩ := DataW.trod_struct hu hf
  obtain ⟨k1, k2, _, k4, _⟩ := cells_node
  rw [k4] at hcl
  rw [hsz] at hxl
  have hfi : ∀ (i : Nat) t o, [(3, 0), (3, 1), (3, 2), (3, 3), (9, 4)][i]? = some (t, o) → ∃ f, fs[i]? = some f ∧ f.type = t ∧ f.offset = o := fun i t o hi => by
    rw [← hfs, List.getElem?_map] at hi
    obtain ⟨f, hf, e⟩ := Option.map_eq_some_iff.1 hi
    rw [Array.getElem?_toList] at hf
    injection e with e1 e2
    exact ⟨f, hf, e1, e2⟩
  match xs, hxl, cs, hcl with
  | [x0, x1, x2, x3, x4], _, [v0, v1, v2, v3, v4], _ =>
    have g : ∀ (i : Nat) t o, [(3, 0), (3, 1), (3, 2), (3, 3), (9, 4)][i]? = some (t, o) → DataW.trod enc Tryd.prog W base spare held m t (([v0, v1, v2, v3, v4].drop o).take (Tryd.prog.cellsOf t)) = [x0, x1, x2, x3, x4][i]? := fun i t o hi => by
      obtain ⟨f, h1, h2, h3⟩ := hfi i t o hi
      have := hall i f h1
      rw [h2, h3] at this
      exact this
    have g0 := g 0 _ _ rfl
    have g1 := g 1 _ _ rfl
    have g2 := g 2 _ _ rfl
    have g3 := g 3 _ _ rfl
    have g4 := g 4 _ _ rfl
    rw [k1] at g0 g1 g2 g3
    rw [k2] at g4
    have hd : d = .agg [x0.1, x1.1, x2.1, x3.1, x4.1] := by simpa using congrArg Prod.fst hx
    subst hd
    obtain ⟨o, e0, _, _⟩ := DataW.trod_int Tryd.underlying3 g0
    obtain ⟨i, e1, _, hi⟩ := DataW.trod_int Tryd.underlying3 g1
    obtain ⟨a, e2, _, ha⟩ := DataW.trod_int Tryd.underlying3 g2
    obtain ⟨b, e3, _, hb⟩ := DataW.trod_int Tryd.underlying3 g3
    obtain ⟨s, e4, z4, _⟩ := DataW.trod_string Tryd.underlying9 g4
    have hT := text_of hS z4 (hS.node _ _ _ _ _ hw)
    injection e0 with e0 _
    injection e1 with e1 _
    injection e2 with e2 _
    injection e3 with e3 _
    injection e4 with e4 _
    subst e0 e1 e2 e3 e4
    refine ⟨ndv ⟨o, i, a, b, numsOf s⟩, ⟨o, i, a, b, numsOf s⟩, ?_, rfl, wf_i64_of hi, wf_i64_of ha, wf_i64_of hb, hT, numsOf_lt s⟩
    simp only [jcells, strOf_numsOf]
theorem flat_nodes : ∀ (vs : List Value) (ns : List Zq.Nd), vs.length = ns.length → (∀ (i : Nat) v x, vs[i]? = some v → ns[i]? = some x → v = ndv x) → vs.flatMap jcells = ncells ns
  | [], [], _, _ => rfl
  | v :: vs, n :: ns, hl, h => by
    have h0 := h 0 v n rfl rfl
    have ih := flat_nodes vs ns (by simpa using hl) (fun i v x e1 e2 => h (i + 1) v x (by simpa using e1) (by simpa using e2))
    have e : ncells (n :: ns) = ncell n ++ ncells ns := rfl
    rw [List.flatMap_cons, ih, e, h0]
    rfl
/-- Nodes that came in. -/
theorem nodes_trod {SZ : TypeId → DataW H → Prop} {T : Nat} (hS : SzOk T SZ) {fuel : Nat} {cs : List Value} {d : DataW H} {p : List MemPlace} (h : DataW.trod enc Tryd.prog W base spare held fuel 22 cs = some (d, p)) (hw : SZ 22 d) :
    ∃ v ns, cs = [v] ∧ NodesIn W T v ns := by
  obtain ⟨v, ns, vs, hcs, hs, hl, hb, hr⟩ := rowsS_trod 22 44 Tryd.underlying22 5 48 cells_node.2.2.2.1 (by decide) SZ hS.nodes (fun v x => v = ndv x ∧ NodeB T x) ⟨0, 0, 0, 0, []⟩ (fun fuel cs d p h1 h2 => node_trod hS fuel cs d p h1 h2) h hw
  obtain ⟨A, c, e, h1, h2, h3⟩ := hs
  have hN : ∀ n ∈ ns, NodeB T n := fun n hn => by
    obtain ⟨i, hi⟩ := List.getElem?_of_mem hn
    have hlt := (List.getElem?_eq_some_iff.1 hi).1
    exact (hr i (vs[i]'(by omega)) n (List.getElem?_eq_getElem (by omega)) hi).2
  rw [flat_nodes vs ns hl (fun i v x e1 e2 => (hr i v x e1 e2).1)] at h3
  exact ⟨v, ns, hcs, ⟨A, c, e, h1, h2, fun n hn => (hN n hn).2.2.2.2, h3⟩, hb, hN⟩
/-- What is known of a rule that came in, at its cells. -/
def RuleIn (W : World) (T : Nat) (v : Value) (r : Zq.Rl) : Prop := ∃ v1 v2, v = .agg #[.string (strOf r.name), v1, v2] ∧ (∀ x ∈ r.name, x < 256) ∧ NsE W (fun _ => True) v1 r.expr ∧ NsE W (fun _ => True) v2 r.cond ∧ RuleC T r
set_option maxRecDepth 100000 in
theorem rule_trod {SZ : TypeId → DataW H → Prop} {T : Nat} (hS : SzOk T SZ) (fuel : Nat) (cs : List Value) (d : DataW H) (p : List MemPlace) (hf : DataW.trod enc Tryd.prog W base spare held fuel 42 cs = some (d, p)) (hw : SZ 42 d) :
    ∃ v x, jcells v = cs ∧ RuleIn W T v x := by
  obtain ⟨fs, hu, hsz, hfs⟩ := fields_rule
  obtain ⟨xs, m, _, hx, hcl, hxl, hall⟩ := DataW.trod_struct hu hf
  obtain ⟨_, k2, k3, _, k5⟩ := cells_node
  rw [k5] at hcl
  rw [hsz] at hxl
  have hfi : ∀ (i : Nat) t o, [(9, 0), (22, 1), (22, 2)][i]? = some (t, o) → ∃ f, fs[i]? = some f ∧ f.type = t ∧ f.offset = o := fun i t o hi => by
    rw [← hfs, List.getElem?_map] at hi
    obtain ⟨f, hf, e⟩ := Option.map_eq_some_iff.1 hi
    rw [Array.getElem?_toList] at hf
    injection e with e1 e2
    exact ⟨f, hf, e1, e2⟩
  match xs, hxl, cs, hcl with
  | [x0, x1, x2], _, [v0, v1, v2], _ =>
    have g : ∀ (i : Nat) t o, [(9, 0), (22, 1), (22, 2)][i]? = some (t, o) → DataW.trod enc Tryd.prog W base spare held m t (([v0, v1, v2].drop o).take (Tryd.prog.cellsOf t)) = [x0, x1, x2][i]? := fun i t o hi => by
      obtain ⟨f, h1, h2, h3⟩ := hfi i t o hi
      have := hall i f h1
      rw [h2, h3] at this
      exact this
    have g0 := g 0 _ _ rfl
    have g1 := g 1 _ _ rfl
    have g2 := g 2 _ _ rfl
    rw [k2] at g0
    rw [k3] at g1 g2
    have hd : d = .agg [x0.1, x1.1, x2.1] := by simpa using congrArg Prod.fst hx
    subst hd
    obtain ⟨w0, w1, w2⟩ := hS.rule _ _ _ hw
    obtain ⟨s, e0, z0, _⟩ := DataW.trod_string Tryd.underlying9 g0
    have g1' : DataW.trod enc Tryd.prog W base spare held m 22 [v1] = some (x1.1, x1.2) := g1
    have g2' : DataW.trod enc Tryd.prog W base spare held m 22 [v2] = some (x2.1, x2.2) := g2
    obtain ⟨u1, n1, e1, i1, l1, b1⟩ := nodes_trod hS g1' w1
    obtain ⟨u2, n2, e2, i2, l2, b2⟩ := nodes_trod hS g2' w2
    have hT := text_of hS z0 w0
    injection e0 with e0 _
    injection e1 with e1 _
    injection e2 with e2 _
    subst e0 e1 e2
    refine ⟨.agg #[.string (strOf (numsOf s)), v1, v2], ⟨numsOf s, n1, n2⟩, ?_, v1, v2, rfl, numsOf_lt s, i1, i2, hT, ⟨l1, l2⟩, b1, b2⟩
    simp only [jcells, strOf_numsOf]
theorem flat_rules : ∀ (vs : List Value) (us : List (List Nat × Value × Value)), vs.length = us.length → (∀ (i : Nat) v u, vs[i]? = some v → us[i]? = some u → v = rlV u) → vs.flatMap jcells = rcells3 us
  | [], [], _, _ => rfl
  | v :: vs, n :: ns, hl, h => by
    have h0 := h 0 v n rfl rfl
    have ih := flat_rules vs ns (by simpa using hl) (fun i v x e1 e2 => h (i + 1) v x (by simpa using e1) (by simpa using e2))
    have e : rcells3 (n :: ns) = rcell n ++ rcells3 ns := rfl
    rw [List.flatMap_cons, ih, e, h0]
    rfl
/-- Rules that came in. -/
theorem rules_trod {SZ : TypeId → DataW H → Prop} {T : Nat} (hS : SzOk T SZ) {fuel : Nat} {cs : List Value} {d : DataW H} {p : List MemPlace} (h : DataW.trod enc Tryd.prog W base spare held fuel 39 cs = some (d, p)) (hw : SZ 39 d) :
    ∃ v rs, cs = [v] ∧ RulesIn W T v rs := by
  obtain ⟨v, rs, vs, hcs, hs, hl, hb, hr⟩ := rowsS_trod 39 42 Tryd.underlying39 3 64 cells_node.2.2.2.2 (by decide) SZ hS.rules (RuleIn W T) ⟨[], [], []⟩ (fun fuel cs d p h1 h2 => rule_trod hS fuel cs d p h1 h2) h hw
  obtain ⟨A, c, e, h1, h2, h3⟩ := hs
  have hR : ∀ r ∈ rs, RuleC T r := fun r hr' => by
    obtain ⟨i, hi⟩ := List.getElem?_of_mem hr'
    have hlt := (List.getElem?_eq_some_iff.1 hi).1
    obtain ⟨_, _, _, _, _, _, h⟩ := hr i (vs[i]'(by omega)) r (List.getElem?_eq_getElem (by omega)) hi
    exact h
  have each : ∀ i, i < rs.length → ∃ u : List Nat × Value × Value, (∀ v, vs[i]? = some v → v = rlV u) ∧ ∀ r, rs[i]? = some r → RlE W (fun _ => True) u r := by
    intro i hi
    have hv : vs[i]? = some (vs[i]'(by omega)) := List.getElem?_eq_getElem (by omega)
    have hx : rs[i]? = some rs[i] := List.getElem?_eq_getElem hi
    obtain ⟨v1, v2, he, hn, n1, n2, _⟩ := hr i _ _ hv hx
    refine ⟨(rs[i].name, v1, v2), fun v e => ?_, fun r e => ?_⟩
    · rw [hv] at e
      injection e with e
      rw [← e, he]
    · rw [hx] at e
      injection e with e
      rw [← e]
      exact ⟨rfl, hn, n1, n2⟩
  have inh : Inhabited (List Nat × Value × Value) := ⟨([], .nilIface, .nilIface)⟩
  obtain ⟨Q, hQ⟩ := Deep.choose_lt each
  have hus : ((List.range rs.length).map Q).length = rs.length := by simp
  have hget : ∀ (i : Nat) u, ((List.range rs.length).map Q)[i]? = some u → i < rs.length ∧ u = Q i := fun i u e => by
    have hi := (List.getElem?_eq_some_iff.1 e).1
    rw [hus] at hi
    refine ⟨hi, ?_⟩
    simp [hi] at e
    exact e.symm
  rw [flat_rules vs ((List.range rs.length).map Q) (by rw [hus, hl]) (fun i v u e1 e2 => by
    obtain ⟨hi, rfl⟩ := hget i u e2
    exact (hQ i hi).1 v e1)] at h3
  exact ⟨v, rs, hcs, ⟨A, c, e, h1, h2, _, hus, fun i u r e1 e2 => by
    obtain ⟨hi, rfl⟩ := hget i u e1
    exact (hQ i hi).2 r e2, h3⟩, hb, hR⟩
set_option maxRecDepth 100000 in
/-- Rules that came in as an argument. -/
theorem rules_open {SZ : TypeId → DataW H → Prop} {T : Nat} (hS : SzOk T SZ) {b0 : Nat} {r : Reach} {v : Value} {d : DataW H} {p : List MemPlace} (hv : Value.okWide Tryd.prog W r b0 39 v) (h : DataW.Trod enc Tryd.prog W base spare held 39 v d p) (hw : SZ 39 d) :
    ∃ A c rs, v = .slice A rs.length c ∧ RulesIn W T (.slice A rs.length c) rs := by
  obtain ⟨a, n, c, rfl⟩ := okWide_slice Tryd.underlying39 hv
  obtain ⟨fuel, hf⟩ := h
  obtain ⟨u, rs, e, hR⟩ := rules_trod hS hf hw
  obtain ⟨A, c', rfl⟩ := hR.1.form
  simp [Value.cells] at e
  obtain ⟨rfl, rfl, rfl⟩ := e
  exact ⟨_, _, rs, rfl, hR⟩
set_option maxRecDepth 100000 in
/-- Nodes that came in as an argument. -/
theorem nodes_open {SZ : TypeId → DataW H → Prop} {T : Nat} (hS : SzOk T SZ) {b0 : Nat} {r : Reach} {v : Value} {d : DataW H} {p : List MemPlace} (hv : Value.okWide Tryd.prog W r b0 22 v) (h : DataW.Trod enc Tryd.prog W base spare held 22 v d p) (hw : SZ 22 d) :
    ∃ A c ns, v = .slice A ns.length c ∧ NodesIn W T (.slice A ns.length c) ns := by
  obtain ⟨a, n, c, rfl⟩ := okWide_slice Tryd.underlying22 hv
  obtain ⟨fuel, hf⟩ := h
  obtain ⟨u, ns, e, hR⟩ := nodes_trod hS hf hw
  obtain ⟨A, c', rfl⟩ := hR.1.form
  simp [Value.cells] at e
  obtain ⟨rfl, rfl, rfl⟩ := e
  exact ⟨_, _, ns, rfl, hR⟩
end
end Go.Proofs.YtnbaajdcakjlmaaDoor

/-
  From the rows' reading to fields.
-/
namespace Go.Proofs.YtnbaajdcakjlmaaDoor
open Go.ChangeShapes Go.WideShapes Go.ChangeAt Go.RowKit

section
variable {H : Type} {enc : TypeId × Value → H} {W : World} {base : Nat} {spare : Nat → Bool} {held : Bool}
/-- What is known of the sizes of fields that came in. -/
structure SzF (T : Nat) (SZ : TypeId → DataW H → Prop) : Prop where
  rows : ∀ es sp, SZ 23 (.slice es sp) → es.length * 24 ≤ T ∧ ∀ d ∈ es, SZ 33 d
set_option maxRecDepth 100000 in
theorem cells_field : Tryd.prog.cellsOf 3 = 1 ∧ Tryd.prog.cellsOf 9 = 1 ∧ Tryd.prog.cellsOf 33 = 2 := by
  refine ⟨?_, ?_, ?_⟩ <;> kernel_rfl
set_option maxRecDepth 100000 in
theorem bytes_field : Tryd.prog.bytesOf 33 = 24 := by kernel_rfl
theorem szW_f : SzF (H := H) 140737488355328 szW where
  rows := fun es sp h => by
    obtain ⟨h1, h2⟩ := weights_slice Tryd.underlying23 h
    rw [bytes_field] at h1
    have := reach_small
    exact ⟨by have h3 : es.length * 24 ≤ (es.length + sp.length) * 24 := Nat.mul_le_mul_right _ (Nat.le_add_right _ _); omega, h2⟩
theorem szB_f : SzF (H := H) 25165824 szB where
  rows := fun es sp h => ⟨by have := (bulk_row h).1; omega, (bulk_row h).2⟩
set_option maxRecDepth 100000 in
theorem fields_field : ∃ fs : Array Field, Tryd.prog.underlying 33 = some (.struct fs) ∧ fs.size = 2 ∧ fs.toList.map (fun f => (f.type, f.offset)) = [(9, 0), (3, 1)] :=
  ⟨_, Tryd.underlying33, by kernel_rfl, by kernel_rfl⟩
set_option maxRecDepth 100000 in
theorem field_trod {SZ : TypeId → DataW H → Prop} (fuel : Nat) (cs : List Value) (d : DataW H) (p : List MemPlace) (hf : DataW.trod enc Tryd.prog W base spare held fuel 33 cs = some (d, p)) (_ : SZ 33 d) :
    ∃ v x, jcells v = cs ∧ (v = fdv x ∧ ∀ y ∈ x.name, y < 256) := by
  obtain ⟨fs, hu, hsz, hfs⟩ := fields_field
  obtain ⟨xs, m, _, hx, hcl, hxl, hall⟩ := DataW.trod_struct hu hf
  obtain ⟨k1, k2, k3⟩ := cells_field
  rw [k3] at hcl
  rw [hsz] at hxl
  have hfi : ∀ (i : Nat) t o, [(9, 0), (3, 1)][i]? = some (t, o) → ∃ f, fs[i]? = some f ∧ f.type = t ∧ f.offset = o := fun i t o hi => by
    rw [← hfs, List.getElem?_map] at hi
    obtain ⟨f, hf, e⟩ := Option.map_eq_some_iff.1 hi
    rw [Array.getElem?_toList] at hf
    injection e with e1 e2
    exact ⟨f, hf, e1, e2⟩
  match xs, hxl, cs, hcl with
  | [x0, x1], _, [v0, v1], _ =>
    have g : ∀ (i : Nat) t o, [(9, 0), (3, 1)][i]? = some (t, o) → DataW.trod enc Tryd.prog W base spare held m t (([v0, v1].drop o).take (Tryd.prog.cellsOf t)) = [x0, x1][i]? := fun i t o hi => by
      obtain ⟨f, h1, h2, h3⟩ := hfi i t o hi
      have := hall i f h1
      rw [h2, h3] at this
      exact this
    have g0 := g 0 _ _ rfl
    have g1 := g 1 _ _ rfl
    rw [k2] at g0
    rw [k1] at g1
    obtain ⟨s, e0, _, _⟩ := DataW.trod_string Tryd.underlying9 g0
    obtain ⟨i, e1, _, _⟩ := DataW.trod_int Tryd.underlying3 g1
    injection e0 with e0 _
    injection e1 with e1 _
    subst e0 e1
    refine ⟨fdv ⟨numsOf s, i⟩, ⟨numsOf s, i⟩, ?_, rfl, numsOf_lt s⟩
    simp only [jcells, strOf_numsOf]
theorem flat_fields : ∀ (vs : List Value) (ns : List Tq.Fd), vs.length = ns.length → (∀ (i : Nat) v x, vs[i]? = some v → ns[i]? = some x → v = fdv x) → vs.flatMap jcells = fcells ns
  | [], [], _, _ => rfl
  | v :: vs, n :: ns, hl, h => by
    have h0 := h 0 v n rfl rfl
    have ih := flat_fields vs ns (by simpa using hl) (fun i v x e1 e2 => h (i + 1) v x (by simpa using e1) (by simpa using e2))
    have e : fcells (n :: ns) = fcell n ++ fcells ns := rfl
    rw [List.flatMap_cons, ih, e, h0]
    rfl
set_option maxRecDepth 100000 in
/-- Fields that came in as an argument. -/
theorem fields_open {SZ : TypeId → DataW H → Prop} {T : Nat} (hS : SzF T SZ) {b0 : Nat} {r : Reach} {v : Value} {d : DataW H} {p : List MemPlace} (hv : Value.okWide Tryd.prog W r b0 23 v) (h : DataW.Trod enc Tryd.prog W base spare held 23 v d p) (hw : SZ 23 d) :
    ∃ A c fs, v = .slice A fs.length c ∧ FsE W (fun _ => True) (.slice A fs.length c) fs ∧ fs.length * 24 ≤ T := by
  obtain ⟨a, n, c, rfl⟩ := okWide_slice Tryd.underlying23 hv
  obtain ⟨fuel, hf⟩ := h
  obtain ⟨v, fs, vs, hcs, hs, hl, hb, hr⟩ := rowsS_trod 23 33 Tryd.underlying23 2 24 cells_field.2.2 (by decide) SZ hS.rows (fun v x => v = fdv x ∧ ∀ y ∈ x.name, y < 256) ⟨[], 0⟩ field_trod hf hw
  obtain ⟨A, c', e, h1, h2, h3⟩ := hs
  subst e
  simp [Value.cells] at hcs
  obtain ⟨rfl, rfl, rfl⟩ := hcs
  rw [flat_fields vs fs hl (fun i v x e1 e2 => (hr i v x e1 e2).1)] at h3
  refine ⟨_, _, fs, rfl, ⟨_, _, rfl, h1, h2, fun f hf => ?_, h3⟩, hb⟩
  obtain ⟨i, hi⟩ := List.getElem?_of_mem hf
  have hlt := (List.getElem?_eq_some_iff.1 hi).1
  exact (hr i (vs[i]'(by omega)) f (List.getElem?_eq_getElem (by omega)) hi).2
end
end Go.Proofs.YtnbaajdcakjlmaaDoor
