/-
  Texts that came in, under a bound on their bulk.
-/
import Derived.Test.YtndkangfnojpoaaGreatDoorQK
namespace Go.Proofs.YtndkangfnojpoaaGreatDoor
open Go.ChangeShapes Go.WideShapes Go.ChangeAt Go.RowKit

section
variable {H : Type} {enc : TypeId × Value → H} {W : World} {base : Nat} {spare : Nat → Bool} {held : Bool}
theorem bulk_elem {es sp : List (DataW H)} {n : Nat} (h : Rows.uptoBulk (.slice es sp) ≤ n) {d : DataW H} (hd : d ∈ es) : Rows.uptoBulk d ≤ n := by
  have := bulk_mem hd
  simp only [Rows.uptoBulk] at h
  omega
theorem texts_bulk {fuel : Nat} {cs : List Value} {d : DataW H} {p : List MemPlace} (h : DataW.trod enc Tryz.prog W base spare held fuel 22 cs = some (d, p)) (hw : Rows.uptoBulk d ≤ 1048576) :
    ∃ v ns, cs = [v] ∧ SlIs W (fun _ => True) v ns.length (tcells ns) ∧ (∀ p ∈ ns, p.length ≤ 1048576 ∧ ∀ y ∈ p, y < 256) ∧ ns.length ≤ 1048576 := by
  rcases DataW.trod_slice Tryz.underlying22 h with ⟨rfl, _⟩ | ⟨a, len, cap, elems, rest, n, _, rfl, hx, _, hl, hm, hlen, hel, _⟩
  · exact ⟨_, [], rfl, SlIs.nil _ _, (fun p hp => nomatch hp), Nat.zero_le _⟩
  · have hd : d = .slice (elems.map (·.1)) (rest.map (·.1)) := by simpa using congrArg Prod.fst hx
    subst hd
    have w1 := bulk_slice hw
    simp only [List.length_map] at w1
    have each : ∀ i, i < len → ∃ s : ByteArray, W.cell? (a.add i) = some (.string s) ∧ s.size ≤ 1048576 := by
      intro i hi
      have he := hel i hi
      rw [show Tryz.prog.cellsOf 9 = 1 from by kernel_rfl, Nat.mul_one] at he
      have hei : elems[i]? = some (elems[i]'(by omega)) := List.getElem?_eq_getElem (by omega)
      rw [hei, Option.bind_eq_some_iff] at he
      obtain ⟨c1, hc, ht⟩ := he
      obtain ⟨s, rfl, hs, _⟩ := DataW.trod_string Tryz.underlying9 ht
      obtain ⟨_, _, hcell⟩ := World.cells?_some hc
      refine ⟨s, ?_, ?_⟩
      · have := hcell 0 (by omega)
        simpa [Addr.add] using this
      · have hb := bulk_elem hw (d := (elems[i]'(by omega)).1) (List.mem_map.2 ⟨_, List.getElem_mem (by omega), rfl⟩)
        rw [hs] at hb
        exact bulk_text hb
    obtain ⟨S, hS⟩ : ∃ S : Nat → ByteArray, ∀ i, i < len → W.cell? (a.add i) = some (.string (S i)) ∧ (S i).size ≤ 1048576 :=
      ⟨fun i => if h : i < len then Classical.choose (each i h) else ByteArray.empty, fun i hi => by simp only [dif_pos hi]; exact Classical.choose_spec (each i hi)⟩
    have hnl : ((List.range len).map fun i => numsOf (S i)).length = len := by simp
    refine ⟨_, (List.range len).map fun i => numsOf (S i), rfl, ?_, ?_, by rw [hnl]; omega⟩
    · rw [hnl]
      refine ⟨some a, cap, rfl, hl, by unfold maxLen at hm; omega, fun h0 => ?_⟩
      obtain ⟨b, off, spot⟩ := a
      have hspot : spot = none := by
        have := World.cell?_spot (hS 0 h0).1
        simpa [Addr.add] using this
      subst hspot
      have h00 := (hS 0 h0).1
      rw [Addr.add_lit] at h00
      refine ⟨b, off, rfl, trivial, World.block_lt_of_cell? _ _ h00, fun j x hj => ?_⟩
      have hj2 : j < len := by
        have := (List.getElem?_eq_some_iff.1 hj).1
        rw [tcells_length, hnl] at this
        exact this
      have hc := (hS j hj2).1
      rw [Addr.add_lit] at hc
      rw [hc, ← hj]
      simp [tcells, hj2, strOf_numsOf]
    · intro q hq
      obtain ⟨i, hi, rfl⟩ := List.mem_map.1 hq
      exact ⟨by rw [numsOf_length]; exact (hS i (List.mem_range.1 hi)).2, numsOf_lt _⟩

set_option maxRecDepth 100000 in
theorem texts_open {b0 : Nat} {r : Reach} {v : Value} {d : DataW H} {p : List MemPlace} (hv : Value.okWide Tryz.prog W r b0 22 v) (h : DataW.Trod enc Tryz.prog W base spare held 22 v d p) (hw : Rows.uptoBulk d ≤ 1048576) :
    ∃ ns : List (List Nat), SlIs W (fun _ => True) v ns.length (tcells ns) ∧ (∀ p ∈ ns, p.length ≤ 1048576 ∧ ∀ y ∈ p, y < 256) ∧ ns.length ≤ 1048576 := by
  obtain ⟨a0, len, cap, rfl⟩ := okWide_slice Tryz.underlying22 hv
  obtain ⟨fuel, hf⟩ := h
  obtain ⟨u, ns, hu, h1, h2, h3⟩ := texts_bulk hf hw
  have : Value.slice a0 len cap = u := by
    have hu : [Value.slice a0 len cap] = [u] := hu
    injection hu
  rw [this]
  exact ⟨ns, h1, h2, h3⟩
end
end Go.Proofs.YtndkangfnojpoaaGreatDoor
