/-
  From the rows' reading of values, tokens and bytes to what the walks ask; what the listed variables hold; a world for the witness (as stage 5's, with the digest's table).
-/
import Derived.Test.YtgojpcoaahcbeaaGreatDoorCards
import Derived.Test.YtgojpcoaahcbeaaGreatDoorTie
import Derived.Test.YtgojpcoaahcbeaaGreatDoorQS
import Derived.Test.YtgojpcoaahcbeaaGreatDoorQD
import Derived.Test.YtgojpcoaahcbeaaGreatDoorWPB
import Derived.ProofKit
import Derived.OpenShut
import Derived.SizedLaws
import Derived.Deep.DeepHandedRow
import Derived.Deep.Slices
import Derived.Lib.LaidTab
import Derived.Lib.LaidU8T
import Derived.Lib.SmallJoins
import Derived.Stop.LaidErr
import Derived.Stop.ErrReads
namespace Go.Proofs.YtgojpcoaahcbeaaGreatDoor
open Go.ChangeShapes Go.WideShapes Go.ChangeAt Go.RowKit

theorem own : ownKnob Tryz.prog.godebug = none := by kernel_rfl
theorem laidOut : laidOutB Tryz.prog = true := by kernel_rfl
theorem bytes_text : Tryz.prog.bytesOf 9 = 16 := by kernel_rfl
theorem bytes_json : Tryz.prog.bytesOf 25 = 88 := by kernel_rfl

/-- What a bound on the bulk of all that is read says of one value. -/
theorem bulk_pos {H : Type} (d : DataW H) : 0 < Rows.uptoBulk d := by
  cases d with
  | lit l => cases l <;> simp [Rows.uptoBulk]
  | _ => simp [Rows.uptoBulk]
theorem bulk_count {H : Type} (l : List (DataW H)) : l.length ≤ Rows.uptoBulkAll l := by
  induction l with
  | nil => exact Nat.zero_le _
  | cons d r ih => have := bulk_pos d; simp only [Rows.uptoBulkAll, List.length_cons]; omega
theorem bulk_mem {H : Type} {d : DataW H} {l : List (DataW H)} (h : d ∈ l) : Rows.uptoBulk d ≤ Rows.uptoBulkAll l := by
  induction l with
  | nil => cases h
  | cons x r ih =>
    simp only [Rows.uptoBulkAll]
    rcases List.mem_cons.1 h with rfl | h'
    · omega
    · have := ih h'; omega
theorem bulk_of {H : Type} {d : DataW H} {l : List (DataW H)} (hk : Rows.uptoSmall H l = true) (h : d ∈ l) : Rows.uptoBulk d ≤ 1048576 :=
  Nat.le_trans (bulk_mem h) (of_decide_eq_true hk)
theorem bulk_slice {H : Type} {es sp : List (DataW H)} {n : Nat} (h : Rows.uptoBulk (.slice es sp) ≤ n) : es.length + sp.length ≤ n := by
  have h1 := bulk_count es
  have h2 := bulk_count sp
  simp only [Rows.uptoBulk] at h
  omega
theorem bulk_text {H : Type} {s : ByteArray} {n : Nat} (h : Rows.uptoBulk (DataW.lit (H := H) (.string s.data.toList)) ≤ n) : s.size ≤ n := by
  simp only [Rows.uptoBulk] at h
  have e : s.data.toList.length = s.size := by rw [Array.length_toList]; rfl
  omega


/-- The two tables of the library's that the rows list, as cells. -/
def firstCells : Array Value := (Go.Pinned.utf8FirstZ.map fun (n : Nat) => Value.int .u8 (n : Int)).toArray
def rangeCells : Array Value := ([128, 191, 160, 191, 128, 159, 144, 191, 128, 143, 0, 0, 0, 0, 0, 0, 0, 0, 0, 0, 0, 0, 0, 0, 0, 0, 0, 0, 0, 0, 0, 0].map fun (n : Nat) => Value.int .u8 (n : Int)).toArray
/-- A block with other cells. -/
def relaid (cs : Array Value) : Obj → Obj
  | .cells _ t frozen => .cells cs t frozen
  | o => o
/-- The variables that the rows list. -/
def laidList : List (String × DataW Unit) := [("math/bits.deBruijn32tab", Rows.laid_math_bits_deBruijn32tab), ("math/bits.deBruijn64tab", Rows.laid_math_bits_deBruijn64tab), ("chatelaine/digest.roundWords", Rows.laid_chatelaine_digest_roundWords), ("internal/strconv.uint64pow10", Rows.laid_internal_strconv_uint64pow10), ("unicode/utf8.acceptRanges", Rows.laid_unicode_utf8_acceptRanges), ("strconv.ErrRange", Rows.laid_strconv_ErrRange), ("strconv.ErrSyntax", Rows.laid_strconv_ErrSyntax), ("unicode/utf8.first", Rows.laid_unicode_utf8_first)]
theorem laid_plain {W : World} (h : laidMetH Tryz.prog laidList W) : laidMet Tryz.prog laidList W := by
  have e : (laidList.filter fun x => x.2.handleName?.isSome) = [] := by kernel_rfl
  unfold laidMetH at h
  rw [e] at h
  exact h
theorem star_err : "*" ++ "errors.errorString" = "*errors.errorString" := by decide
theorem row_err (u : TypeId) (h : Tryz.prog.typeName? 3 u = some "*errors.errorString") : u = 204 :=
  typeName_ptr_named (nm := "errors.errorString") (by rw [star_err]; kernel_rfl) (by kernel_rfl) (by decide) u (by rw [star_err]; exact h)
theorem pow_data {H : Type} : (Rows.laid_internal_strconv_uint64pow10 : DataW H) = Lib.tabData .u64 Lib.pow10Tab := by
  unfold Rows.laid_internal_strconv_uint64pow10 Lib.tabData Lib.pow10Tab
  rfl
set_option maxRecDepth 100000 in
theorem first_data : (Rows.laid_unicode_utf8_first : DataW Unit) = Lib.firstData := by
  have h : (Go.Pinned.utf8FirstZ.map fun (n : Nat) => (n : Int)) = Lib.firstTab := by kernel_rfl
  unfold Lib.firstData Lib.tabData
  rw [← h]
  rfl
theorem accept_data : (Rows.laid_unicode_utf8_acceptRanges : DataW Unit) = Lib.acceptData := by kernel_rfl
theorem u8_extra : U8Extra Tryz.prog lays196_ren := ⟨by kernel_rfl, by kernel_rfl, by kernel_rfl, by kernel_rfl, by kernel_rfl, by kernel_rfl, by kernel_rfl⟩
set_option maxRecDepth 100000 in
theorem held_of {W : World} (h : laidMetH Tryz.prog laidList W) : Held W := by
  have h0 := laid_plain h
  have h2 : laidMet Tryz.prog (("internal/strconv.uint64pow10", Lib.tabData .u64 Lib.pow10Tab) :: laidList.drop 4) W := by
    have := h0.tail.tail.tail
    rw [← pow_data]
    exact this
  have h4 : laidMet Tryz.prog (("strconv.ErrRange", Rows.laid_strconv_ErrRange) :: laidList.drop 6) W := h0.tail.tail.tail.tail.tail
  have h5 : laidMet Tryz.prog (("strconv.ErrSyntax", Rows.laid_strconv_ErrSyntax) :: laidList.drop 7) W := h0.tail.tail.tail.tail.tail.tail
  refine ⟨Lib.tabIs_of_head (g := 4) (t := 181) (e := 121) (n := 20) (by kernel_rfl) (by kernel_rfl) (by kernel_rfl) (by kernel_rfl) (by kernel_rfl) (by kernel_rfl) h2, ?_, ?_, ?_⟩
  · obtain ⟨a0, s0, hv0, -, -, -⟩ := laid_sentinel h5 (g := 7) (ti := 170) (by kernel_rfl) (by kernel_rfl) Tryz.underlying170 row_err Tryz.underlying204 Tryz.underlying206 rfl rfl Tryz.underlying9 (by kernel_rfl) (by kernel_rfl)
    exact ⟨_, _, hv0⟩
  · obtain ⟨a0, s0, hv0, -, -, -⟩ := laid_sentinel h4 (g := 8) (ti := 170) (by kernel_rfl) (by kernel_rfl) Tryz.underlying170 row_err Tryz.underlying204 Tryz.underlying206 rfl rfl Tryz.underlying9 (by kernel_rfl) (by kernel_rfl)
    exact ⟨_, _, hv0⟩
  · exact utf8Tabs_of_readsT (ρ := lays196_ren) (U8Types.of196 lays196) u8_extra (Lib.laidMet.reads h0 (by rw [← first_data]; exact List.mem_of_getElem? (i := 7) rfl)) (Lib.laidMet.reads h0 (by rw [← accept_data]; exact List.mem_of_getElem? (i := 4) rfl))

/-- The digest's table. -/
theorem gTab : Tryz.prog.globalNamed "chatelaine/digest.roundWords" = some 1 := by kernel_rfl
theorem gTabType : (Tryz.prog.globals[1]?).map (·.type) = some 141 := by kernel_rfl
theorem cellsTab : Tryz.prog.cellsOf 141 = 64 := by kernel_rfl
theorem cellsWord : Tryz.prog.cellsOf 88 = 1 := by kernel_rfl
def tabNums : List Int := Sha.KL.map fun (n : Nat) => (n : Int)
theorem tab_data {H : Type} : (Rows.laid_chatelaine_digest_roundWords : DataW H) = Lib.tabData .u32 tabNums := by
  unfold Rows.laid_chatelaine_digest_roundWords Lib.tabData tabNums Sha.KL
  rfl
theorem kAt_at : ∀ t, t < 64 → ((Sha.kAt t).toNat : Int) = tabNums.getD t 0 := by decide +kernel
theorem tab_of {W : World} (h : laidMetH Tryz.prog laidList W) : Tab W := fun t ht => by
  have h2 : laidMet Tryz.prog (("chatelaine/digest.roundWords", Lib.tabData .u32 tabNums) :: laidList.drop 3) W := by
    have := (laid_plain h).tail.tail
    rw [← tab_data]
    exact this
  have hT : Lib.TabIs Tryz.prog W "chatelaine/digest.roundWords" .u32 tabNums := Lib.tabIs_of_head gTab gTabType Tryz.underlying141 Tryz.underlying88 cellsWord cellsTab h2
  rw [hT.cell gTab t (by have : tabNums.length = 64 := rfl; omega), kAt_at t ht]

/-! A value that came in. -/
section
variable {H : Type} {enc : TypeId × Value → H} {W : World} {base : Nat} {spare : Nat → Bool} {held : Bool}
theorem weights_mem {e : TypeId} {d : DataW H} {l : List (DataW H)} (h : d ∈ l) : ∀ n ∈ d.weights Tryz.prog e, n ∈ DataW.weightsAll Tryz.prog e l := by
  induction l with
  | nil => cases h
  | cons x r ih =>
    intro n hn
    simp only [DataW.weightsAll, List.mem_append]
    rcases List.mem_cons.1 h with rfl | h'
    · exact .inl hn
    · exact .inr (ih h' n hn)
/-- What the weights of a slice say of its own size, and of its elements. -/
theorem weights_slice {t e : TypeId} (ht : Tryz.prog.underlying t = some (.slice e)) {es sp : List (DataW H)} (h : ∀ n ∈ (DataW.slice es sp).weights Tryz.prog t, n ≤ reachBytes) :
    (es.length + sp.length) * Tryz.prog.bytesOf e ≤ reachBytes ∧ ∀ d ∈ es, ∀ n ∈ d.weights Tryz.prog e, n ≤ reachBytes := by
  simp only [DataW.weights, ht] at h
  exact ⟨h _ (by simp), fun d hd n hn => h n (by simp [weights_mem hd n hn])⟩
theorem reach_small : reachBytes ≤ 140737488355328 := by decide

/-- Texts that came in. -/
theorem texts_trod {fuel : Nat} {cs : List Value} {d : DataW H} {p : List MemPlace} (h : DataW.trod enc Tryz.prog W base spare held fuel 22 cs = some (d, p)) (hw : ∀ n ∈ d.weights Tryz.prog 22, n ≤ reachBytes) :
    ∃ v ns, cs = [v] ∧ SlIs W (fun _ => True) v ns.length (tcells ns) ∧ (∀ p ∈ ns, p.length ≤ 140737488355328 ∧ ∀ y ∈ p, y < 256) ∧ ns.length * 16 ≤ 140737488355328 := by
  rcases DataW.trod_slice Tryz.underlying22 h with ⟨rfl, _⟩ | ⟨a, len, cap, elems, rest, n, _, rfl, hx, _, hl, hm, hlen, hel, _⟩
  · exact ⟨_, [], rfl, SlIs.nil _ _, (fun p hp => nomatch hp), Nat.zero_le _⟩
  · have hd : d = .slice (elems.map (·.1)) (rest.map (·.1)) := by simpa using congrArg Prod.fst hx
    subst hd
    obtain ⟨w1, w2⟩ := weights_slice Tryz.underlying22 hw
    rw [bytes_text] at w1
    simp only [List.length_map] at w1
    have each : ∀ i, i < len → ∃ s : ByteArray, W.cell? (a.add i) = some (.string s) ∧ s.size ≤ 140737488355328 := by
      intro i hi
      have he := hel i hi
      rw [show Tryz.prog.cellsOf 9 = 1 from by kernel_rfl, Nat.mul_one] at he
      have hei : elems[i]? = some (elems[i]'(by omega)) := List.getElem?_eq_getElem (by omega)
      rw [hei, Option.bind_eq_some_iff] at he
      obtain ⟨c1, hc, ht⟩ := he
      obtain ⟨s, rfl, hs, _⟩ := DataW.trod_string Tryz.underlying9 ht
      obtain ⟨_, _, hcell⟩ := World.cells?_some hc
      refine ⟨s, ?_, ?_⟩
      · have := hcell 0 (by omega)
        simpa [Addr.add] using this
      · have := w2 (elems[i]'(by omega)).1 (List.mem_map.2 ⟨_, List.getElem_mem (by omega), rfl⟩) s.data.toList.length (by rw [hs]; simp [DataW.weights])
        have e : s.data.toList.length = s.size := by rw [Array.length_toList]; rfl
        have := reach_small
        omega
    obtain ⟨S, hS⟩ : ∃ S : Nat → ByteArray, ∀ i, i < len → W.cell? (a.add i) = some (.string (S i)) ∧ (S i).size ≤ 140737488355328 :=
      ⟨fun i => if h : i < len then Classical.choose (each i h) else ByteArray.empty, fun i hi => by simp only [dif_pos hi]; exact Classical.choose_spec (each i hi)⟩
    have hr := reach_small
    have hnl : ((List.range len).map fun i => numsOf (S i)).length = len := by simp
    refine ⟨_, (List.range len).map fun i => numsOf (S i), rfl, ?_, ?_, by rw [hnl]; omega⟩
    · rw [hnl]
      refine ⟨some a, cap, rfl, hl, by unfold maxLen at hm; omega, fun h0 => ?_⟩
      obtain ⟨b, off, spot⟩ := a
      have hspot : spot = none := by
        have := World.cell?_spot (hS 0 h0).1
        simpa [Addr.add] using this
      subst hspot
      have h00 := (hS 0 h0).1
      rw [Addr.add_lit] at h00
      refine ⟨b, off, rfl, trivial, World.block_lt_of_cell? _ _ h00, fun j x hj => ?_⟩
      have hj2 : j < len := by
        have := (List.getElem?_eq_some_iff.1 hj).1
        rw [tcells_length, hnl] at this
        exact this
      have hc := (hS j hj2).1
      rw [Addr.add_lit] at hc
      rw [hc, ← hj]
      simp [tcells, hj2, strOf_numsOf]
    · intro q hq
      obtain ⟨i, hi, rfl⟩ := List.mem_map.1 hq
      exact ⟨by rw [numsOf_length]; exact (hS i (List.mem_range.1 hi)).2, numsOf_lt _⟩

theorem wf_i64_of {k : Int} (h : (Lit.int .i64 k).wf = true) : -9223372036854775808 ≤ k ∧ k ≤ 9223372036854775807 := by
  simp only [Lit.wf, Bool.and_eq_true, decide_eq_true_eq] at h
  have e1 : IntKind.min .i64 = -9223372036854775808 := by decide
  have e2 : IntKind.max .i64 = 9223372036854775807 := by decide
  rw [e1, e2] at h
  exact h
set_option maxRecDepth 100000 in
theorem fields_json : ∃ fs : Array Field, Tryz.prog.underlying 25 = some (.struct fs) ∧ fs.size = 6 ∧ fs.toList.map (fun f => (f.type, f.offset)) = [(3, 0), (4, 1), (3, 2), (9, 3), (22, 4), (23, 5)] :=
  ⟨_, Tryz.underlying25, by kernel_rfl, by kernel_rfl⟩
theorem cells_one : Tryz.prog.cellsOf 3 = 1 ∧ Tryz.prog.cellsOf 4 = 1 ∧ Tryz.prog.cellsOf 9 = 1 ∧ Tryz.prog.cellsOf 22 = 1 ∧ Tryz.prog.cellsOf 23 = 1 ∧ Tryz.prog.cellsOf 25 = 6 := by
  refine ⟨?_, ?_, ?_, ?_, ?_, ?_⟩ <;> kernel_rfl
set_option maxRecDepth 100000 in
/-- A struct's six readings. -/
theorem six_trod {fuel : Nat} {cs : List Value} {d : DataW H} {p : List MemPlace} (h : DataW.trod enc Tryz.prog W base spare held fuel 25 cs = some (d, p)) :
    ∃ m v0 v1 v2 v3 v4 v5 y0 y1 y2 y3 y4 y5, fuel = m + 1 ∧ cs = [v0, v1, v2, v3, v4, v5] ∧ d = .agg [y0, y1, y2, y3, y4, y5] ∧
      (∃ p, DataW.trod enc Tryz.prog W base spare held m 3 [v0] = some (y0, p)) ∧ (∃ p, DataW.trod enc Tryz.prog W base spare held m 4 [v1] = some (y1, p)) ∧ (∃ p, DataW.trod enc Tryz.prog W base spare held m 3 [v2] = some (y2, p)) ∧
      (∃ p, DataW.trod enc Tryz.prog W base spare held m 9 [v3] = some (y3, p)) ∧ (∃ p, DataW.trod enc Tryz.prog W base spare held m 22 [v4] = some (y4, p)) ∧ (∃ p, DataW.trod enc Tryz.prog W base spare held m 23 [v5] = some (y5, p)) := by
  obtain ⟨fs, hu, hsz, hfs⟩ := fields_json
  obtain ⟨xs, m, hf, hx, hcl, hxl, hall⟩ := DataW.trod_struct hu h
  obtain ⟨k1, k2, k3, k4, k5, k6⟩ := cells_one
  rw [k6] at hcl
  rw [hsz] at hxl
  have hfi : ∀ (i : Nat) t o, [(3, 0), (4, 1), (3, 2), (9, 3), (22, 4), (23, 5)][i]? = some (t, o) → ∃ f, fs[i]? = some f ∧ f.type = t ∧ f.offset = o := fun i t o hi => by
    rw [← hfs, List.getElem?_map] at hi
    obtain ⟨f, hf, e⟩ := Option.map_eq_some_iff.1 hi
    rw [Array.getElem?_toList] at hf
    injection e with e1 e2
    exact ⟨f, hf, e1, e2⟩
  match xs, hxl, cs, hcl with
  | [x0, x1, x2, x3, x4, x5], _, [v0, v1, v2, v3, v4, v5], _ =>
    have g : ∀ (i : Nat) t o, [(3, 0), (4, 1), (3, 2), (9, 3), (22, 4), (23, 5)][i]? = some (t, o) → DataW.trod enc Tryz.prog W base spare held m t (([v0, v1, v2, v3, v4, v5].drop o).take (Tryz.prog.cellsOf t)) = [x0, x1, x2, x3, x4, x5][i]? := fun i t o hi => by
      obtain ⟨f, h1, h2, h3⟩ := hfi i t o hi
      have := hall i f h1
      rw [h2, h3] at this
      exact this
    have g0 := g 0 _ _ rfl
    have g1 := g 1 _ _ rfl
    have g2 := g 2 _ _ rfl
    have g3 := g 3 _ _ rfl
    have g4 := g 4 _ _ rfl
    have g5 := g 5 _ _ rfl
    rw [k1] at g0 g2
    rw [k2] at g1
    rw [k3] at g3
    rw [k4] at g4
    rw [k5] at g5
    have hd : d = .agg [x0.1, x1.1, x2.1, x3.1, x4.1, x5.1] := by simpa using congrArg Prod.fst hx
    exact ⟨m, v0, v1, v2, v3, v4, v5, x0.1, x1.1, x2.1, x3.1, x4.1, x5.1, hf, rfl, hd, ⟨x0.2, g0⟩, ⟨x1.2, g1⟩, ⟨x2.2, g2⟩, ⟨x3.2, g3⟩, ⟨x4.2, g4⟩, ⟨x5.2, g5⟩⟩
set_option maxRecDepth 100000 in
theorem weights_six {y0 y1 y2 y3 y4 y5 : DataW H} (h : ∀ n ∈ (DataW.agg [y0, y1, y2, y3, y4, y5]).weights Tryz.prog 25, n ≤ reachBytes) :
    (∀ n ∈ y3.weights Tryz.prog 9, n ≤ reachBytes) ∧ (∀ n ∈ y4.weights Tryz.prog 22, n ≤ reachBytes) ∧ (∀ n ∈ y5.weights Tryz.prog 23, n ≤ reachBytes) := by
  have e : (DataW.agg [y0, y1, y2, y3, y4, y5]).weights Tryz.prog 25 = y0.weights Tryz.prog 3 ++ (y1.weights Tryz.prog 4 ++ (y2.weights Tryz.prog 3 ++ (y3.weights Tryz.prog 9 ++ (y4.weights Tryz.prog 22 ++ (y5.weights Tryz.prog 23 ++ []))))) := by
    simp only [DataW.weights, Tryz.underlying25]
    rfl
  rw [e] at h
  exact ⟨fun n hn => h n (by simp [hn]), fun n hn => h n (by simp [hn]), fun n hn => h n (by simp [hn])⟩
set_option maxRecDepth 100000 in
/-- A value that came in, at any depth. -/
theorem json_trod : ∀ (fuel : Nat) (cs : List Value) (d : DataW H) (p : List MemPlace), DataW.trod enc Tryz.prog W base spare held fuel 25 cs = some (d, p) → (∀ n ∈ d.weights Tryz.prog 25, n ≤ reachBytes) →
    ∃ v x, jcells v = cs ∧ (∃ a, v = .agg a) ∧ IsJ W (fun _ => True) v x := by
  intro fuel
  induction fuel using Nat.strongRecOn with
  | _ fuel ih =>
    intro cs d p h hw
    obtain ⟨m, v0, v1, v2, v3, v4, v5, y0, y1, y2, y3, y4, y5, rfl, rfl, rfl, ⟨_, g0⟩, ⟨_, g1⟩, ⟨_, g2⟩, ⟨_, g3⟩, ⟨_, g4⟩, ⟨_, g5⟩⟩ := six_trod h
    obtain ⟨w3, w4, w5⟩ := weights_six hw
    obtain ⟨k, e0, _, hk⟩ := DataW.trod_int Tryz.underlying3 g0
    obtain ⟨b, e1, _⟩ := DataW.trod_bool Tryz.underlying4 g1
    obtain ⟨n, e2, _, hn⟩ := DataW.trod_int Tryz.underlying3 g2
    obtain ⟨s, e3, x3, _⟩ := DataW.trod_string Tryz.underlying9 g3
    obtain ⟨nv, ns, e4, hS, hns, hnl⟩ := texts_trod g4 w4
    injection e0 with e0 _
    injection e1 with e1 _
    injection e2 with e2 _
    injection e3 with e3 _
    injection e4 with e4 _
    subst e0 e1 e2 e3 e4
    have hk' := wf_i64_of hk
    have hn' := wf_i64_of hn
    have hs : s.size ≤ 140737488355328 := by
      injection x3 with x3 _
      have := w3 s.data.toList.length (by rw [x3]; simp [DataW.weights])
      have e : s.data.toList.length = s.size := by rw [Array.length_toList]; rfl
      have := reach_small
      omega
    have hT : (numsOf s).length ≤ 140737488355328 ∧ ∀ y ∈ numsOf s, y < 256 := ⟨by rw [numsOf_length]; exact hs, numsOf_lt s⟩
    have hr := reach_small
    rw [← strOf_numsOf s]
    rcases DataW.trod_slice Tryz.underlying23 g5 with ⟨e5, _⟩ | ⟨a, len, cap, elems, rest, m', hm', e5, hx, _, hl, hm, hlen, hel, _⟩
    · injection e5 with e5 _
      subst e5
      exact ⟨jv k b n (strOf (numsOf s)) v4 (.slice none 0 0), .mk k b n (numsOf s) ns [], rfl, ⟨_, rfl⟩, .mk (vs := []) hk' hn' hT hS hns hnl (SlIs.nil _ _) rfl (Nat.zero_le _) (fun i v x h => by simp at h)⟩
    · injection e5 with e5 _
      subst e5
      have hd5 : y5 = .slice (elems.map (·.1)) (rest.map (·.1)) := by simpa using congrArg Prod.fst hx
      subst hd5
      obtain ⟨w51, w52⟩ := weights_slice Tryz.underlying23 w5
      rw [bytes_json] at w51
      simp only [List.length_map] at w51
      have each : ∀ i, i < len → ∃ q : Value × Jq.J, (∀ j x, (jcells q.1)[j]? = some x → W.cell? (a.add (i * 6 + j)) = some x) ∧ (jcells q.1).length = 6 ∧ IsJ W (fun _ => True) q.1 q.2 := by
        intro i hi
        have he := hel i hi
        rw [cells_one.2.2.2.2.2] at he
        have hei : elems[i]? = some (elems[i]'(by omega)) := List.getElem?_eq_getElem (by omega)
        rw [hei, Option.bind_eq_some_iff] at he
        obtain ⟨c1, hc, ht⟩ := he
        obtain ⟨v, x, hv, _, hJ⟩ := ih m' (by omega) c1 (elems[i]'(by omega)).1 (elems[i]'(by omega)).2 ht (w52 _ (List.mem_map.2 ⟨_, List.getElem_mem (by omega), rfl⟩))
        obtain ⟨_, hcl, hcell⟩ := World.cells?_some hc
        refine ⟨(v, x), fun j y hj => ?_, by rw [hv, hcl], hJ⟩
        have hj6 : j < 6 := by
          have := (List.getElem?_eq_some_iff.1 hj).1
          rw [hv, hcl] at this
          exact this
        have := hcell j hj6
        rw [Deep.add_add] at this
        rw [this, ← hv]
        exact hj
      have inh : Inhabited (Value × Jq.J) := ⟨(.nilIface, .mk 0 false 0 [] [] [])⟩
      obtain ⟨Q, hQ⟩ := Deep.choose_lt each
      have hvl : ((List.range len).map fun i => (Q i).1).length = len := by simp
      have hll : ((List.range len).map fun i => (Q i).2).length = len := by simp
      have hget : ∀ i, i < len → ((List.range len).map fun i => (Q i).1)[i]? = some (Q i).1 := fun i hi => by simp [hi]
      have hget2 : ∀ i, i < len → ((List.range len).map fun i => (Q i).2)[i]? = some (Q i).2 := fun i hi => by simp [hi]
      have h6 : ∀ v ∈ (List.range len).map fun i => (Q i).1, (jcells v).length = 6 := fun v hv => by
        obtain ⟨i, hi, rfl⟩ := List.mem_map.1 hv
        exact (hQ i (List.mem_range.1 hi)).2.1
      refine ⟨jv k b n (strOf (numsOf s)) v4 (.slice (some a) len cap), .mk k b n (numsOf s) ns ((List.range len).map fun i => (Q i).2), rfl, ⟨_, rfl⟩, .mk (vs := (List.range len).map fun i => (Q i).1) hk' hn' hT hS hns hnl ?_ (by rw [hvl, hll]) (by rw [hll]; omega) ?_⟩
      · rw [hll]
        refine ⟨some a, cap, rfl, hl, by unfold maxLen at hm; omega, fun h0 => ?_⟩
        obtain ⟨bb, off, spot⟩ := a
        have hc0 : ∃ x, W.cell? ((⟨bb, off, spot⟩ : Addr).add (0 * 6 + 0)) = some x := by
          have hlen6 := (hQ 0 h0).2.1
          exact ⟨_, (hQ 0 h0).1 0 _ (List.getElem?_eq_getElem (by omega))⟩
        obtain ⟨x0, hx0⟩ := hc0
        have hspot : spot = none := by
          have := World.cell?_spot hx0
          simpa [Addr.add] using this
        subst hspot
        rw [Addr.add_lit] at hx0
        refine ⟨bb, off, rfl, trivial, World.block_lt_of_cell? _ _ hx0, fun j x hj => ?_⟩
        have hflat : (((List.range len).map fun i => (Q i).1).flatMap jcells).length = len * 6 := by
          rw [List.length_flatMap]
          have : ((List.range len).map fun i => (Q i).1).map (fun v => (jcells v).length) = List.replicate len 6 := by
            apply List.ext_getElem
            · simp
            · intro i h1 h2
              simp at h1
              simp [(hQ i h1).2.1]
          rw [this]
          simp
        have hj2 : j < len * 6 := by
          have := (List.getElem?_eq_some_iff.1 hj).1
          rw [hflat] at this
          exact this
        have hq : j / 6 < len := by omega
        have hfa := flat_at _ h6 (j / 6) (j % 6) _ (hget _ hq) (by omega)
        rw [show j / 6 * 6 + j % 6 = j from by omega, hj] at hfa
        have := (hQ (j / 6) hq).1 (j % 6) x hfa.symm
        rw [show j / 6 * 6 + j % 6 = j from by omega, Addr.add_lit] at this
        exact this
      · intro i v x e1 e2
        have hi : i < len := by
          have := (List.getElem?_eq_some_iff.1 e1).1
          rw [hvl] at this
          exact this
        rw [hget i hi] at e1
        rw [hget2 i hi] at e2
        injection e1 with e1
        injection e2 with e2
        subst e1 e2
        exact (hQ i hi).2.2
set_option maxRecDepth 100000 in
/-- A value that came in as an argument. -/
theorem json_open {b0 : Nat} {r : Reach} {v : Value} {d : DataW H} {p : List MemPlace} (hv : Value.okWide Tryz.prog W r b0 25 v) (h : DataW.Trod enc Tryz.prog W base spare held 25 v d p) (hw : ∀ n ∈ d.weights Tryz.prog 25, n ≤ reachBytes) :
    ∃ x, IsJ W (fun _ => True) v x := by
  obtain ⟨cs, rfl, _⟩ := okWide_struct Tryz.underlying25 hv
  obtain ⟨fuel, hf⟩ := h
  obtain ⟨u, x, hu, ⟨a, rfl⟩, hJ⟩ := json_trod fuel _ _ _ hf hw
  have : a = cs := Array.toList_inj.1 hu
  rw [← this]
  exact ⟨x, hJ⟩
theorem bytes_u8 : Tryz.prog.bytesOf 5 = 1 := by kernel_rfl
theorem reach_less : reachBytes ≤ 140737488353000 := by decide
def bytesOf (len : Nat) (zs : List Int) : List Nat := (zs.take len).map Int.toNat
/-- Bytes that came in. -/
theorem bytes_trod {fuel : Nat} {cs : List Value} {d : DataW H} {p : List MemPlace} (h : DataW.trod enc Tryz.prog W base spare held fuel 26 cs = some (d, p)) (hw : ∀ n ∈ d.weights Tryz.prog 26, n ≤ reachBytes) :
    ∃ A c q, cs = [.slice A q.length c] ∧ ArgIs W A c q ∧ q.length ≤ 140737488353000 := by
  rcases open_ints Tryz.underlying26 Tryz.underlying5 (by kernel_rfl) h with ⟨rfl, _⟩ | ⟨x, len, cap, zs, rfl, _, hl, hm, hz, hx, hcell, hwz⟩
  · exact ⟨none, 0, [], rfl, ⟨Nat.le_refl _, by omega, (fun _ h => nomatch h), fun h => absurd h (Nat.lt_irrefl _)⟩, Nat.zero_le _⟩
  · have hd : d = .slice (lits .u8 (zs.take len)) (lits .u8 (zs.drop len)) := by simpa using congrArg Prod.fst hx
    subst hd
    obtain ⟨w1, _⟩ := weights_slice Tryz.underlying26 hw
    rw [bytes_u8] at w1
    have hz' : len ≤ zs.length := by
      have h1 := hz
      split at h1 <;> omega
    simp only [lits, List.length_map, List.length_take, List.length_drop] at w1
    have hrs := reach_less
    have hlen : (bytesOf len zs).length = len := by simp [bytesOf]; omega
    have h256 : ∀ y ∈ bytesOf len zs, y < 256 := fun y hy => by
      obtain ⟨n, hn, rfl⟩ := List.mem_map.1 hy
      have := bounds_u8 (hwz n (List.mem_of_mem_take hn))
      omega
    unfold maxLen at hm
    refine ⟨some x, cap, bytesOf len zs, by rw [hlen], ⟨by rw [hlen]; exact hl, hm, h256, fun h0 => ?_⟩, by omega⟩
    obtain ⟨b, off, rfl, hc⟩ := ints_at hcell (by omega)
    refine ⟨b, off, rfl, block_lt_of_cell (hc 0 (by omega)), fun j y hj => ⟨h256 y (List.mem_of_getElem? hj), ?_⟩⟩
    simp only [bytesOf, List.getElem?_map, Option.map_eq_some_iff] at hj
    obtain ⟨n, hn, rfl⟩ := hj
    have hj' : zs[j]? = some n := by
      rw [List.getElem?_take] at hn
      split at hn
      · exact hn
      · cases hn
    have hlt : j < zs.length := (List.getElem?_eq_some_iff.1 hj').1
    have hb := bounds_u8 (hwz n (List.mem_of_getElem? hj'))
    rw [hc j hlt, List.getD_eq_getElem?_getD, hj']
    simp only [Option.getD_some]
    rw [Int.toNat_of_nonneg hb.1]
set_option maxRecDepth 100000 in
theorem bytes_open {b0 : Nat} {r : Reach} {v : Value} {d : DataW H} {p : List MemPlace} (hv : Value.okWide Tryz.prog W r b0 26 v) (h : DataW.Trod enc Tryz.prog W base spare held 26 v d p) (hw : ∀ n ∈ d.weights Tryz.prog 26, n ≤ reachBytes) :
    ∃ A c q, v = .slice A q.length c ∧ ArgIs W A c q ∧ q.length ≤ 140737488353000 := by
  obtain ⟨a, n, c, rfl⟩ := okWide_slice Tryz.underlying26 hv
  obtain ⟨fuel, hf⟩ := h
  obtain ⟨A, c', q, e, hA, hl⟩ := bytes_trod hf hw
  simp [Value.cells] at e
  obtain ⟨rfl, rfl, rfl⟩ := e
  exact ⟨_, _, q, rfl, hA, hl⟩
set_option maxRecDepth 100000 in
theorem fields_token : ∃ fs : Array Field, Tryz.prog.underlying 34 = some (.struct fs) ∧ fs.size = 4 ∧ fs.toList.map (fun f => (f.type, f.offset)) = [(9, 0), (25, 1), (9, 7), (26, 8)] :=
  ⟨_, Tryz.underlying34, by kernel_rfl, by kernel_rfl⟩
set_option maxRecDepth 100000 in
/-- A token that came in. -/
theorem token_open {b0 : Nat} {r : Reach} {v : Value} {d : DataW H} {p : List MemPlace} (hv : Value.okWide Tryz.prog W r b0 34 v) (h : DataW.Trod enc Tryz.prog W base spare held 34 v d p) (hw : ∀ n ∈ d.weights Tryz.prog 34, n ≤ reachBytes) :
    ∃ (kid sg : ByteArray) (x : Jq.J) (A1 A2 A : Option Addr) (c1 c2 c : Nat) (q : List Nat), v = tokv kid x.kind x.bool x.int (strOf x.text) (.slice A1 x.names.length c1) (.slice A2 x.list.length c2) sg (.slice A q.length c) ∧ ArgIs W A c q ∧ sg.size ≤ 140737488353000 := by
  obtain ⟨cs, rfl, _⟩ := okWide_struct Tryz.underlying34 hv
  obtain ⟨fuel, hf⟩ := h
  obtain ⟨fs, hu, hsz, hfs⟩ := fields_token
  obtain ⟨xs, m, _, hx, hcl, hxl, hall⟩ := DataW.trod_struct hu hf
  obtain ⟨_, _, k3, _, _, k6⟩ := cells_one
  have k8 : Tryz.prog.cellsOf 26 = 1 := by kernel_rfl
  rw [show Tryz.prog.cellsOf 34 = 9 from by kernel_rfl] at hcl
  rw [hsz] at hxl
  have hfi : ∀ (i : Nat) t o, [(9, 0), (25, 1), (9, 7), (26, 8)][i]? = some (t, o) → ∃ f, fs[i]? = some f ∧ f.type = t ∧ f.offset = o := fun i t o hi => by
    rw [← hfs, List.getElem?_map] at hi
    obtain ⟨f, hf, e⟩ := Option.map_eq_some_iff.1 hi
    rw [Array.getElem?_toList] at hf
    injection e with e1 e2
    exact ⟨f, hf, e1, e2⟩
  obtain ⟨cl, hcs⟩ : ∃ cl, (Value.agg cs).cells.toList = cl := ⟨_, rfl⟩
  rw [hcs] at hcl hall
  have hcs' : cs.toList = cl := hcs
  match xs, hxl, cl, hcl with
  | [x0, x1, x2, x3], _, [v0, v1, v2, v3, v4, v5, v6, v7, v8], _ =>
    have g : ∀ (i : Nat) t o, [(9, 0), (25, 1), (9, 7), (26, 8)][i]? = some (t, o) → DataW.trod enc Tryz.prog W base spare held m t (([v0, v1, v2, v3, v4, v5, v6, v7, v8].drop o).take (Tryz.prog.cellsOf t)) = [x0, x1, x2, x3][i]? := fun i t o hi => by
      obtain ⟨f, h1, h2, h3⟩ := hfi i t o hi
      have := hall i f h1
      rw [h2, h3] at this
      exact this
    have g0 := g 0 _ _ rfl
    have g1 := g 1 _ _ rfl
    have g2 := g 2 _ _ rfl
    have g3 := g 3 _ _ rfl
    rw [k3] at g0 g2
    rw [k6] at g1
    rw [k8] at g3
    have hd : d = .agg [x0.1, x1.1, x2.1, x3.1] := by simpa using congrArg Prod.fst hx
    subst hd
    have e : (DataW.agg [x0.1, x1.1, x2.1, x3.1]).weights Tryz.prog 34 = x0.1.weights Tryz.prog 9 ++ (x1.1.weights Tryz.prog 25 ++ (x2.1.weights Tryz.prog 9 ++ (x3.1.weights Tryz.prog 26 ++ []))) := by
      simp only [DataW.weights, Tryz.underlying34]
      rfl
    rw [e] at hw
    obtain ⟨s0, e0, _, _⟩ := DataW.trod_string Tryz.underlying9 g0
    obtain ⟨s2, e2, z2, _⟩ := DataW.trod_string Tryz.underlying9 g2
    obtain ⟨u, x, hu, _, hJ⟩ := json_trod _ _ x1.1 x1.2 g1 (fun n hn => hw n (by simp [hn]))
    obtain ⟨A, c, q, e3, hA, _⟩ := bytes_trod (d := x3.1) (p := x3.2) g3 (fun n hn => hw n (by simp [hn]))
    obtain ⟨A1, c1, A2, c2, rfl⟩ := hJ.form
    injection e0 with e0 _
    injection e2 with e2 _
    injection e3 with e3 _
    have hu : [Value.int .i64 x.kind, .bool x.bool, .int .i64 x.int, .string (strOf x.text), .slice A1 x.names.length c1, .slice A2 x.list.length c2] = [v1, v2, v3, v4, v5, v6] := hu
    injection hu with f1 hu
    injection hu with f2 hu
    injection hu with f3 hu
    injection hu with f4 hu
    injection hu with f5 hu
    injection hu with f6 _
    subst e0 e2 e3 f1 f2 f3 f4 f5 f6
    have hs : s2.size ≤ 140737488353000 := by
      have h2 := congrArg Prod.fst z2
      have := hw s2.data.toList.length (by
        have h2 : x2.1 = .lit (.string s2.data.toList) := h2
        rw [h2]; simp [DataW.weights])
      have e : s2.data.toList.length = s2.size := by rw [Array.length_toList]; rfl
      have := reach_less
      omega
    refine ⟨s0, s2, x, A1, A2, A, c1, c2, c, q, ?_, hA, hs⟩
    congr 1
    exact Array.toList_inj.1 hcs'
set_option maxRecDepth 100000 in
/-- Two numbers that came in. -/
theorem two_open {b0 : Nat} {r : Reach} {v : Value} {d : DataW H} {p : List MemPlace} (hv : Value.okWide Tryz.prog W r b0 41 v) (h : DataW.Trod enc Tryz.prog W base spare held 41 v d p) :
    ∃ (n0 n1 : Int), v = .agg #[.int .i64 n0, .int .i64 n1] ∧ (-9223372036854775808 ≤ n0 ∧ n0 ≤ 9223372036854775807) ∧ (-9223372036854775808 ≤ n1 ∧ n1 ≤ 9223372036854775807) := by
  simp only [Value.okWide, Tryz.underlying41] at hv
  obtain ⟨cs, rfl, hsz, _⟩ := hv
  rw [show Tryz.prog.cellsOf 41 = 2 by kernel_rfl] at hsz
  obtain ⟨c0, c1, rfl⟩ : ∃ c0 c1, cs = #[c0, c1] := by
    obtain ⟨l⟩ := cs
    match l, hsz with
    | [c0, c1], _ => exact ⟨c0, c1, rfl⟩
  obtain ⟨fuel, hf⟩ := h
  obtain ⟨xs, m, _, hx, _, hxl, hall⟩ := DataW.trod_array Tryz.underlying41 hf
  rw [cells_one.1] at hall
  match xs, hxl with
  | [x0, x1], _ =>
    have g0 := hall 0 (by decide)
    have g1 := hall 1 (by decide)
    obtain ⟨n0, e0, _, w0⟩ := DataW.trod_int Tryz.underlying3 g0
    obtain ⟨n1, e1, _, w1⟩ := DataW.trod_int Tryz.underlying3 g1
    injection e0 with e0 _
    injection e1 with e1 _
    subst e0 e1
    exact ⟨n0, n1, rfl, wf_i64_of w0, wf_i64_of w1⟩
end
/-- The tables and the sentinels as the program's text lays them. -/
abbrev synB : ByteArray := { data := #[105, 110, 118, 97, 108, 105, 100, 32, 115, 121, 110, 116, 97, 120] }
abbrev rngB : ByteArray := { data := #[118, 97, 108, 117, 101, 32, 111, 117, 116, 32, 111, 102, 32, 114, 97, 110, 103, 101] }
def powCells : Array Value := (Lib.pow10Tab.map fun z => Value.int .u64 z).toArray
def bruijn32 : Array Value := ([0, 1, 28, 2, 29, 14, 24, 3, 30, 22, 20, 15, 25, 17, 4, 8, 31, 27, 13, 23, 21, 19, 16, 7, 26, 12, 18, 6, 11, 5, 10, 9].map fun (n : Nat) => Value.int .u8 (n : Int)).toArray
def bruijn64 : Array Value := ([0, 1, 56, 2, 57, 49, 28, 3, 61, 58, 42, 50, 38, 29, 17, 4, 62, 47, 59, 36, 45, 43, 51, 22, 53, 39, 33, 30, 24, 18, 12, 5, 63, 55, 48, 27, 60, 41, 37, 16, 46, 35, 44, 21, 52, 32, 23, 11, 54, 26, 40, 15, 34, 20, 31, 10, 25, 14, 19, 9, 13, 8, 7, 6].map fun (n : Nat) => Value.int .u8 (n : Int)).toArray
/-- So many blocks has the settled world. -/
noncomputable def lowU : Nat := (World.holding Tryz.prog default ⟨#[], #[], []⟩).heap.size
/-- A world for the witness: the settled one with two blocks more, the two errors' texts; the tables and the sentinels as they are. -/
noncomputable def laidWorldU (os : Os) : World :=
  { World.holding Tryz.prog os ⟨#[.cells #[.string synB] 206, .cells #[.string rngB] 206], #[], []⟩ with
    heap := ((((((((World.holding Tryz.prog os ⟨#[.cells #[.string synB] 206, .cells #[.string rngB] 206], #[], []⟩).heap.modify 2 (relaid firstCells)).modify 3 (relaid rangeCells)).modify 4 (relaid powCells)).modify 5 (relaid bruijn32)).modify 6 (relaid bruijn64)).modify 1 (relaid (tabNums.map fun z => Value.int .u32 z).toArray)).modify 7 (relaid #[.iface 204 (.pointer (some ⟨lowU, 0, none⟩))])).modify 8 (relaid #[.iface 204 (.pointer (some ⟨lowU + 1, 0, none⟩))]) }
theorem laid_metU (os : Os) (args : Array Value) : laidMet Tryz.prog laidList ((laidWorldU os).forCall (fun _ _ => 0) ⟨#[], args, []⟩).memory :=
  laidMet_of_run' 8 (by kernel_rfl) (by kernel_rfl)
end Go.Proofs.YtgojpcoaahcbeaaGreatDoor
