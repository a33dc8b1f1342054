/-
  From the rows' reading of arguments to what the walks ask: bytes and elements.
-/
import Derived.Test.YtkjofadabaecfaaTVal
import Derived.ProofKit
import Derived.OpenShut
import Derived.SizedLaws
import Derived.Deep.DeepHandedRow
import Derived.Deep.Slices
import Derived.Lib.LaidTab
namespace Go.Proofs.Ytkjofadabaecfaa
open Go.ChangeShapes Go.WideShapes Go.ChangeAt Go.RowKit

theorem own : ownKnob Try.prog.godebug = none := by kernel_rfl
theorem laidOut : laidOutB Try.prog = true := by kernel_rfl
theorem bytes_u8 : Try.prog.bytesOf 5 = 1 := by kernel_rfl

/-- The bytes of a slice of them that came in. -/
def bytesOf (len : Nat) (zs : List Int) : List Nat := (zs.take len).map Int.toNat
def IsRow (w : World) (a : Option Addr) (len cap : Nat) (zs : List Int) : Prop :=
  (a = none ∧ len = 0 ∧ cap = 0 ∧ zs = []) ∨
  ∃ x, a = some x ∧ len ≤ cap ∧ cap ≤ maxLen ∧ zs.length = cap ∧ (∀ i, i < zs.length → w.cell? (x.add i) = some (.int .u8 (zs.getD i 0))) ∧ ∀ n ∈ zs, (Lit.int .u8 n).wf = true

theorem bytesOf_length {w : World} {a : Option Addr} {len cap : Nat} {zs : List Int} (h : IsRow w a len cap zs) : (bytesOf len zs).length = len := by
  rcases h with ⟨_, rfl, _, rfl⟩ | ⟨_, _, hl, _, hz, _⟩
  · rfl
  · simp [bytesOf]; omega
theorem arg_of {w : World} {a : Option Addr} {len cap : Nat} {zs : List Int} (h : IsRow w a len cap zs) : ArgIs w a cap (bytesOf len zs) := by
  have hlen := bytesOf_length h
  rcases h with ⟨rfl, rfl, rfl, rfl⟩ | ⟨x, rfl, hl, hm, hz, hcell, hwz⟩
  · exact ⟨Nat.le_refl _, by omega, (fun y hy => by simp [bytesOf] at hy), (fun hp => by simp [bytesOf] at hp)⟩
  · unfold maxLen at hm
    refine ⟨by omega, hm, fun y hy => ?_, fun hp => ?_⟩
    · obtain ⟨n, hn, rfl⟩ := List.mem_map.1 hy
      have := bounds_u8 (hwz n (List.mem_of_mem_take hn))
      omega
    · obtain ⟨b, off, rfl, hc⟩ := ints_at hcell (by omega)
      refine ⟨b, off, rfl, block_lt_of_cell (hc 0 (by omega)), fun j y hj => ?_⟩
      simp only [bytesOf, List.getElem?_map, Option.map_eq_some_iff] at hj
      obtain ⟨n, hn, rfl⟩ := hj
      have hj' : zs[j]? = some n := by
        rw [List.getElem?_take] at hn
        split at hn
        · exact hn
        · cases hn
      have hlt : j < zs.length := (List.getElem?_eq_some_iff.1 hj').1
      have hb := bounds_u8 (hwz n (List.mem_of_getElem? hj'))
      refine ⟨by omega, ?_⟩
      rw [hc j hlt, List.getD_eq_getElem?_getD, hj']
      simp only [Option.getD_some]
      rw [Int.toNat_of_nonneg hb.1]

/-- What a bound on the bulk of all that is read says of one value. -/
theorem bulk_pos {H : Type} (d : DataW H) : 0 < Rows.uptoBulk d := by
  cases d with
  | lit l => cases l <;> simp [Rows.uptoBulk]
  | _ => simp [Rows.uptoBulk]
theorem bulk_count {H : Type} (l : List (DataW H)) : l.length ≤ Rows.uptoBulkAll l := by
  induction l with
  | nil => exact Nat.zero_le _
  | cons d r ih => have := bulk_pos d; simp only [Rows.uptoBulkAll, List.length_cons]; omega
theorem bulk_mem {H : Type} {d : DataW H} {l : List (DataW H)} (h : d ∈ l) : Rows.uptoBulk d ≤ Rows.uptoBulkAll l := by
  induction l with
  | nil => cases h
  | cons x r ih =>
    simp only [Rows.uptoBulkAll]
    rcases List.mem_cons.1 h with rfl | h'
    · omega
    · have := ih h'; omega
theorem bulk_of {H : Type} {d : DataW H} {l : List (DataW H)} (hk : Rows.uptoSmall H l = true) (h : d ∈ l) : Rows.uptoBulk d ≤ 1048576 :=
  Nat.le_trans (bulk_mem h) (of_decide_eq_true hk)
theorem bulk_slice {H : Type} {es sp : List (DataW H)} {n : Nat} (h : Rows.uptoBulk (.slice es sp) ≤ n) : es.length + sp.length ≤ n := by
  have h1 := bulk_count es
  have h2 := bulk_count sp
  simp only [Rows.uptoBulk] at h
  omega
theorem bulk_text {H : Type} {s : ByteArray} {n : Nat} (h : Rows.uptoBulk (DataW.lit (H := H) (.string s.data.toList)) ≤ n) : s.size ≤ n := by
  simp only [Rows.uptoBulk] at h
  have e : s.data.toList.length = s.size := by rw [Array.length_toList]; rfl
  omega

/-- A world for the witness: the settled one. -/
noncomputable def plainWorld (os : Os) : World := World.holding Try.prog os ⟨#[], #[], []⟩

theorem bytes_tlv : Try.prog.bytesOf 60 = 56 := by kernel_rfl
/-! An element that came in. -/
section
variable {H : Type} {enc : TypeId × Value → H} {W : World} {base : Nat} {spare : Nat → Bool} {held : Bool}
theorem weights_mem {e : TypeId} {d : DataW H} {l : List (DataW H)} (h : d ∈ l) : ∀ n ∈ d.weights Try.prog e, n ∈ DataW.weightsAll Try.prog e l := by
  induction l with
  | nil => cases h
  | cons x r ih =>
    intro n hn
    simp only [DataW.weightsAll, List.mem_append]
    rcases List.mem_cons.1 h with rfl | h'
    · exact .inl hn
    · exact .inr (ih h' n hn)
/-- What the weights of a slice say of its own size, and of its elements. -/
theorem weights_slice {t e : TypeId} (ht : Try.prog.underlying t = some (.slice e)) {es sp : List (DataW H)} (h : ∀ n ∈ (DataW.slice es sp).weights Try.prog t, n ≤ reachBytes) :
    (es.length + sp.length) * Try.prog.bytesOf e ≤ reachBytes ∧ ∀ d ∈ es, ∀ n ∈ d.weights Try.prog e, n ≤ reachBytes := by
  simp only [DataW.weights, ht] at h
  exact ⟨h _ (by simp), fun d hd n hn => h n (by simp [weights_mem hd n hn])⟩
theorem reach_small : reachBytes ≤ 140737488355328 := by decide


/-- Bytes that came in. -/
theorem bytes_trod {fuel : Nat} {cs : List Value} {d : DataW H} {p : List MemPlace} (h : DataW.trod enc Try.prog W base spare held fuel 24 cs = some (d, p)) (hw : ∀ n ∈ d.weights Try.prog 24, n ≤ reachBytes) :
    ∃ v q, cs = [v] ∧ SlIs W (fun _ => True) v q.length (u8s q) ∧ (q.length ≤ 140737488355328 ∧ ∀ y ∈ q, y < 256) := by
  rcases open_ints Try.underlying24 Try.underlying5 (by kernel_rfl) h with ⟨rfl, _⟩ | ⟨x, len, cap, zs, rfl, _, hl, hm, hz, hx, hcell, hwz⟩
  · exact ⟨_, [], rfl, SlIs.nil _ _, Nat.zero_le _, fun p hp => nomatch hp⟩
  · have hd : d = .slice (lits .u8 (zs.take len)) (lits .u8 (zs.drop len)) := by simpa using congrArg Prod.fst hx
    subst hd
    obtain ⟨w1, _⟩ := weights_slice Try.underlying24 hw
    rw [bytes_u8] at w1
    have hz' : len ≤ zs.length := by
      have h1 := hz
      split at h1 <;> omega
    simp only [lits, List.length_map, List.length_take, List.length_drop] at w1
    have hrs := reach_small
    have hlen : (bytesOf len zs).length = len := by simp [bytesOf]; omega
    have h256 : ∀ y ∈ bytesOf len zs, y < 256 := fun y hy => by
      obtain ⟨n, hn, rfl⟩ := List.mem_map.1 hy
      have := bounds_u8 (hwz n (List.mem_of_mem_take hn))
      omega
    refine ⟨_, bytesOf len zs, rfl, ?_, by omega, h256⟩
    rw [hlen]
    unfold maxLen at hm
    refine ⟨some x, cap, rfl, hl, hm, fun h0 => ?_⟩
    obtain ⟨b, off, rfl, hc⟩ := ints_at hcell (by omega)
    refine ⟨b, off, rfl, trivial, block_lt_of_cell (hc 0 (by omega)), fun j y hj => ?_⟩
    simp only [u8s, bytesOf, List.map_map, List.getElem?_map, Option.map_eq_some_iff, Function.comp] at hj
    obtain ⟨n, hn, rfl⟩ := hj
    have hj' : zs[j]? = some n := by
      rw [List.getElem?_take] at hn
      split at hn
      · exact hn
      · cases hn
    have hlt : j < zs.length := (List.getElem?_eq_some_iff.1 hj').1
    have hb := bounds_u8 (hwz n (List.mem_of_getElem? hj'))
    rw [hc j hlt, List.getD_eq_getElem?_getD, hj']
    simp only [Option.getD_some]
    rw [Int.toNat_of_nonneg hb.1]
set_option maxRecDepth 100000 in
theorem fields_tlv : ∃ fs : Array Field, Try.prog.underlying 60 = some (.struct fs) ∧ fs.size = 3 ∧ fs.toList.map (fun f => (f.type, f.offset)) = [(5, 0), (24, 1), (56, 2)] :=
  ⟨_, Try.underlying60, by kernel_rfl, by kernel_rfl⟩
theorem cells_three : Try.prog.cellsOf 5 = 1 ∧ Try.prog.cellsOf 24 = 1 ∧ Try.prog.cellsOf 56 = 1 ∧ Try.prog.cellsOf 60 = 3 := by
  refine ⟨?_, ?_, ?_, ?_⟩ <;> kernel_rfl
set_option maxRecDepth 100000 in
/-- A struct's three readings. -/
theorem three_trod {fuel : Nat} {cs : List Value} {d : DataW H} {p : List MemPlace} (h : DataW.trod enc Try.prog W base spare held fuel 60 cs = some (d, p)) :
    ∃ m v0 v1 v2 y0 y1 y2, fuel = m + 1 ∧ cs = [v0, v1, v2] ∧ d = .agg [y0, y1, y2] ∧
      (∃ p, DataW.trod enc Try.prog W base spare held m 5 [v0] = some (y0, p)) ∧ (∃ p, DataW.trod enc Try.prog W base spare held m 24 [v1] = some (y1, p)) ∧ (∃ p, DataW.trod enc Try.prog W base spare held m 56 [v2] = some (y2, p)) := by
  obtain ⟨fs, hu, hsz, hfs⟩ := fields_tlv
  obtain ⟨xs, m, hf, hx, hcl, hxl, hall⟩ := DataW.trod_struct hu h
  obtain ⟨k1, k2, k3, k6⟩ := cells_three
  rw [k6] at hcl
  rw [hsz] at hxl
  have hfi : ∀ (i : Nat) t o, [(5, 0), (24, 1), (56, 2)][i]? = some (t, o) → ∃ f, fs[i]? = some f ∧ f.type = t ∧ f.offset = o := fun i t o hi => by
    rw [← hfs, List.getElem?_map] at hi
    obtain ⟨f, hf, e⟩ := Option.map_eq_some_iff.1 hi
    rw [Array.getElem?_toList] at hf
    injection e with e1 e2
    exact ⟨f, hf, e1, e2⟩
  match xs, hxl, cs, hcl with
  | [x0, x1, x2], _, [v0, v1, v2], _ =>
    have g : ∀ (i : Nat) t o, [(5, 0), (24, 1), (56, 2)][i]? = some (t, o) → DataW.trod enc Try.prog W base spare held m t (([v0, v1, v2].drop o).take (Try.prog.cellsOf t)) = [x0, x1, x2][i]? := fun i t o hi => by
      obtain ⟨f, h1, h2, h3⟩ := hfi i t o hi
      have := hall i f h1
      rw [h2, h3] at this
      exact this
    have g0 := g 0 _ _ rfl
    have g1 := g 1 _ _ rfl
    have g2 := g 2 _ _ rfl
    rw [k1] at g0
    rw [k2] at g1
    rw [k3] at g2
    have hd : d = .agg [x0.1, x1.1, x2.1] := by simpa using congrArg Prod.fst hx
    exact ⟨m, v0, v1, v2, x0.1, x1.1, x2.1, hf, rfl, hd, ⟨x0.2, g0⟩, ⟨x1.2, g1⟩, ⟨x2.2, g2⟩⟩
set_option maxRecDepth 100000 in
theorem weights_three {y0 y1 y2 : DataW H} (h : ∀ n ∈ (DataW.agg [y0, y1, y2]).weights Try.prog 60, n ≤ reachBytes) :
    (∀ n ∈ y1.weights Try.prog 24, n ≤ reachBytes) ∧ (∀ n ∈ y2.weights Try.prog 56, n ≤ reachBytes) := by
  have e : (DataW.agg [y0, y1, y2]).weights Try.prog 60 = y0.weights Try.prog 5 ++ (y1.weights Try.prog 24 ++ (y2.weights Try.prog 56 ++ [])) := by
    simp only [DataW.weights, Try.underlying60]
    rfl
  rw [e] at h
  exact ⟨fun n hn => h n (by simp [hn]), fun n hn => h n (by simp [hn])⟩
set_option maxRecDepth 100000 in
/-- An element that came in, at any depth. -/
theorem tlv_trod : ∀ (fuel : Nat) (cs : List Value) (d : DataW H) (p : List MemPlace), DataW.trod enc Try.prog W base spare held fuel 60 cs = some (d, p) → (∀ n ∈ d.weights Try.prog 60, n ≤ reachBytes) →
    ∃ v x, acells v = cs ∧ (∃ a, v = .agg a) ∧ IsT W (fun _ => True) v x := by
  intro fuel
  induction fuel using Nat.strongRecOn with
  | _ fuel ih =>
    intro cs d p h hw
    obtain ⟨m, v0, v1, v2, y0, y1, y2, rfl, rfl, rfl, ⟨_, g0⟩, ⟨_, g1⟩, ⟨_, g2⟩⟩ := three_trod h
    obtain ⟨w1, w2⟩ := weights_three hw
    obtain ⟨k, e0, _, hk⟩ := DataW.trod_int Try.underlying5 g0
    obtain ⟨bv, q, e1, hB, hbt⟩ := bytes_trod g1 w1
    injection e0 with e0 _
    injection e1 with e1 _
    subst e0 e1
    have hk' := bounds_u8 hk
    obtain ⟨a, rfl⟩ : ∃ a : Nat, k = (a : Int) := ⟨k.toNat, by omega⟩
    have ha : a < 256 := by omega
    have hr := reach_small
    rcases DataW.trod_slice Try.underlying56 g2 with ⟨e5, _⟩ | ⟨ad, len, cap, elems, rest, m', hm', e5, hx, _, hl, hm, hlen, hel, _⟩
    · injection e5 with e5 _
      subst e5
      exact ⟨tv a v1 (.slice none 0 0), .mk a q [], rfl, ⟨_, rfl⟩, .mk (vs := []) ha hB hbt (SlIs.nil _ _) rfl (Nat.zero_le _) (fun i v x h => by simp at h)⟩
    · injection e5 with e5 _
      subst e5
      have hd5 : y2 = .slice (elems.map (·.1)) (rest.map (·.1)) := by simpa using congrArg Prod.fst hx
      subst hd5
      obtain ⟨w51, w52⟩ := weights_slice Try.underlying56 w2
      rw [bytes_tlv] at w51
      simp only [List.length_map] at w51
      have each : ∀ i, i < len → ∃ q : Value × Bq.T, (∀ j x, (acells q.1)[j]? = some x → W.cell? (ad.add (i * 3 + j)) = some x) ∧ (acells q.1).length = 3 ∧ IsT W (fun _ => True) q.1 q.2 := by
        intro i hi
        have he := hel i hi
        rw [cells_three.2.2.2] at he
        have hei : elems[i]? = some (elems[i]'(by omega)) := List.getElem?_eq_getElem (by omega)
        rw [hei, Option.bind_eq_some_iff] at he
        obtain ⟨c1, hc, ht⟩ := he
        obtain ⟨v, x, hv, _, hJ⟩ := ih m' (by omega) c1 (elems[i]'(by omega)).1 (elems[i]'(by omega)).2 ht (w52 _ (List.mem_map.2 ⟨_, List.getElem_mem (by omega), rfl⟩))
        obtain ⟨_, hcl, hcell⟩ := World.cells?_some hc
        refine ⟨(v, x), fun j y hj => ?_, by rw [hv, hcl], hJ⟩
        have hj6 : j < 3 := by
          have := (List.getElem?_eq_some_iff.1 hj).1
          rw [hv, hcl] at this
          exact this
        have := hcell j hj6
        rw [Deep.add_add] at this
        rw [this, ← hv]
        exact hj
      have inh : Inhabited (Value × Bq.T) := ⟨(.nilIface, .mk 0 [] [])⟩
      obtain ⟨Q, hQ⟩ := Deep.choose_lt each
      have hvl : ((List.range len).map fun i => (Q i).1).length = len := by simp
      have hll : ((List.range len).map fun i => (Q i).2).length = len := by simp
      have hget : ∀ i, i < len → ((List.range len).map fun i => (Q i).1)[i]? = some (Q i).1 := fun i hi => by simp [hi]
      have hget2 : ∀ i, i < len → ((List.range len).map fun i => (Q i).2)[i]? = some (Q i).2 := fun i hi => by simp [hi]
      have h6 : ∀ v ∈ (List.range len).map fun i => (Q i).1, (acells v).length = 3 := fun v hv => by
        obtain ⟨i, hi, rfl⟩ := List.mem_map.1 hv
        exact (hQ i (List.mem_range.1 hi)).2.1
      refine ⟨tv a v1 (.slice (some ad) len cap), .mk a q ((List.range len).map fun i => (Q i).2), rfl, ⟨_, rfl⟩, .mk (vs := (List.range len).map fun i => (Q i).1) ha hB hbt ?_ (by rw [hvl, hll]) (by rw [hll]; omega) ?_⟩
      · rw [hll]
        refine ⟨some ad, cap, rfl, hl, by unfold maxLen at hm; omega, fun h0 => ?_⟩
        obtain ⟨bb, off, spot⟩ := ad
        have hc0 : ∃ x, W.cell? ((⟨bb, off, spot⟩ : Addr).add (0 * 3 + 0)) = some x := by
          have hlen6 := (hQ 0 h0).2.1
          exact ⟨_, (hQ 0 h0).1 0 _ (List.getElem?_eq_getElem (by omega))⟩
        obtain ⟨x0, hx0⟩ := hc0
        have hspot : spot = none := by
          have := World.cell?_spot hx0
          simpa [Addr.add] using this
        subst hspot
        rw [Addr.add_lit] at hx0
        refine ⟨bb, off, rfl, trivial, World.block_lt_of_cell? _ _ hx0, fun j x hj => ?_⟩
        have hflat : (((List.range len).map fun i => (Q i).1).flatMap acells).length = len * 3 := by
          rw [List.length_flatMap]
          have : ((List.range len).map fun i => (Q i).1).map (fun v => (acells v).length) = List.replicate len 3 := by
            apply List.ext_getElem
            · simp
            · intro i h1 h2
              simp at h1
              simp [(hQ i h1).2.1]
          rw [this]
          simp
        have hj2 : j < len * 3 := by
          have := (List.getElem?_eq_some_iff.1 hj).1
          rw [hflat] at this
          exact this
        have hq : j / 3 < len := by omega
        have hfa := flat_at _ h6 (j / 3) (j % 3) _ (hget _ hq) (by omega)
        rw [show j / 3 * 3 + j % 3 = j from by omega, hj] at hfa
        have := (hQ (j / 3) hq).1 (j % 3) x hfa.symm
        rw [show j / 3 * 3 + j % 3 = j from by omega, Addr.add_lit] at this
        exact this
      · intro i v x e1 e2
        have hi : i < len := by
          have := (List.getElem?_eq_some_iff.1 e1).1
          rw [hvl] at this
          exact this
        rw [hget i hi] at e1
        rw [hget2 i hi] at e2
        injection e1 with e1
        injection e2 with e2
        subst e1 e2
        exact (hQ i hi).2.2
set_option maxRecDepth 100000 in
/-- An element that came in as an argument. -/
theorem tlv_open {b0 : Nat} {r : Reach} {v : Value} {d : DataW H} {p : List MemPlace} (hv : Value.okWide Try.prog W r b0 60 v) (h : DataW.Trod enc Try.prog W base spare held 60 v d p) (hw : ∀ n ∈ d.weights Try.prog 60, n ≤ reachBytes) :
    ∃ x, IsT W (fun _ => True) v x := by
  obtain ⟨cs, rfl, _⟩ := okWide_struct Try.underlying60 hv
  obtain ⟨fuel, hf⟩ := h
  obtain ⟨u, x, hu, ⟨a, rfl⟩, hJ⟩ := tlv_trod fuel _ _ _ hf hw
  have : a = cs := Array.toList_inj.1 hu
  rw [← this]
  exact ⟨x, hJ⟩
end
end Go.Proofs.Ytkjofadabaecfaa
