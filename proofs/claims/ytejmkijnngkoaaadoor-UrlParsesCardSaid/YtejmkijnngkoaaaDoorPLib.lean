/-
  The library's strings.Split at &, strings.Cut at =, strings.Join with &.
-/
import Derived.Test.YtejmkijnngkoaaaDoorPLay
import Derived.Test.YtejmkijnngkoaaaDoorPUn
import Derived.RegionTactic
namespace Go.Proofs.YtejmkijnngkoaaaDoor
open Go.RowKit

theorem at_none {l : List UInt8} {c : UInt8} (h : Lib.indexByte l c = -1) : ∀ x ∈ l.map (fun u : UInt8 => u.toNat), x ≠ c.toNat := by
  intro x hx
  obtain ⟨u, hu, rfl⟩ := List.mem_map.1 hx
  obtain ⟨k, hk, rfl⟩ := List.getElem_of_mem hu
  intro e
  exact Lib.indexByte_none h k (by rw [List.getElem?_eq_getElem hk, UInt8.toNat_inj.1 e])
theorem at_some {l : List UInt8} {c : UInt8} {i : Nat} (h : Lib.indexByte l c = (i : Int)) : l = l.take i ++ c :: l.drop (i + 1) ∧ ∀ x ∈ (l.take i).map (fun u : UInt8 => u.toNat), x ≠ c.toNat := by
  obtain ⟨h1, h2⟩ := Lib.indexByte_some h
  obtain ⟨hi, he⟩ := List.getElem?_eq_some_iff.1 h1
  refine ⟨?_, ?_⟩
  · conv => lhs; rw [← List.take_append_drop i l, List.drop_eq_getElem_cons hi, he]
  · intro x hx
    obtain ⟨u, hu, rfl⟩ := List.mem_map.1 hx
    obtain ⟨k, hk, rfl⟩ := List.getElem_of_mem hu
    have hk' : k < i := by rw [List.length_take] at hk; omega
    intro e
    refine h2 k hk' ?_
    rw [List.getElem_take] at e
    rw [List.getElem?_eq_getElem (by rw [List.length_take] at hk; omega), UInt8.toNat_inj.1 e]
theorem splitK_parts : ∀ (k : Nat) (l : List UInt8), l.count 38 = k → (Lib.splitK [38] 0 k l).map (fun p => p.map fun u : UInt8 => u.toNat) = Pq.parts (l.map fun u : UInt8 => u.toNat)
  | 0, l, h => by
    have hn : ∀ x ∈ l.map (fun u : UInt8 => u.toNat), x ≠ 38 := by
      intro x hx
      obtain ⟨u, hu, rfl⟩ := List.mem_map.1 hx
      intro e
      have : u = 38 := UInt8.toNat_inj.1 e
      subst this
      exact absurd h (Nat.ne_of_gt (List.count_pos_iff.2 hu))
    rw [Lib.splitK, Pq.parts_free hn]
    rfl
  | k + 1, l, h => by
    rw [Lib.splitK]
    by_cases hm : Lib.index l [38] = -1
    · rw [if_pos (beq_iff_eq.2 hm), Pq.parts_free (at_none (c := 38) (by rw [← Lib.index_one]; exact hm))]
      rfl
    · rw [if_neg (fun e => hm (beq_iff_eq.1 e))]
      obtain ⟨i, hi⟩ : ∃ i : Nat, Lib.indexByte l 38 = (i : Int) := by
        have h1 := Lib.indexByte_ge l 38
        rw [Lib.index_one] at hm
        exact ⟨(Lib.indexByte l 38).toNat, by omega⟩
      obtain ⟨h1, h2⟩ := at_some hi
      rw [Lib.index_one, hi, Int.toNat_natCast, List.map_cons]
      have hc : (l.drop (i + 1)).count 38 = k := by
        have e := congrArg (List.count 38) h1
        rw [List.count_append, List.count_cons_self, List.count_eq_zero_of_not_mem (l := l.take i) (fun hm => h2 38 (List.mem_map.2 ⟨38, hm, rfl⟩) rfl), h] at e
        omega
      have ih := splitK_parts k (l.drop (i + 1)) hc
      have hl1 : ([38] : List UInt8).length = 1 := rfl
      rw [Nat.add_zero, hl1, ih]
      conv => rhs; rw [h1]
      rw [List.map_append, List.map_cons]
      exact (Pq.parts_first h2 _).symm

abbrev ampB : ByteArray := { data := #[38] }
abbrev eqB : ByteArray := { data := #[61] }
theorem split_parts (s : ByteArray) : Lib.splitB ampB 0 (Lib.countB s ampB) s = (Pq.parts (numsOf s)).map strOf := by
  have h := Lib.splitB_data ampB 0 (Lib.countB s ampB) s
  have hc : s.data.toList.count 38 = Lib.countB s ampB := (Lib.count_one 38 s.data.toList).symm
  have h2 := splitK_parts _ s.data.toList hc
  rw [← show (Lib.splitB ampB 0 (Lib.countB s ampB) s).map (·.data.toList) = Lib.splitK [38] 0 (Lib.countB s ampB) s.data.toList from h, List.map_map] at h2
  have h3 : (Lib.splitB ampB 0 (Lib.countB s ampB) s).map numsOf = Pq.parts (numsOf s) := h2
  rw [← h3, List.map_map]
  conv => lhs; rw [← List.map_id (Lib.splitB ampB 0 (Lib.countB s ampB) s)]
  exact List.map_congr_left fun x _ => (strOf_numsOf x).symm

/-- Texts as cells. -/
def tcells (l : List (List Nat)) : List Value := l.map fun p => .string (strOf p)

set_option maxHeartbeats 1000000 in
theorem split_any (s : ByteArray) (w : World) (hs : s.size ≤ 4096) :
    Calls Tryd.prog 35 #[.string s, .string ampB] w fun e w' => e = .returned (.slice (some ⟨w.heap.size, 0, none⟩) (Pq.parts (numsOf s)).length (Pq.parts (numsOf s)).length) ∧ Lies w' w.heap.size 9 (tcells (Pq.parts (numsOf s))) ∧ Below w.heap.size w w' := by
  have h1 : 1 ≤ ampB.size := Nat.le_refl _
  have hle := Lib.countB_le ampB h1 s.size s (Nat.le_refl _)
  have hlen := Lib.splitB_all ampB h1 0 _ s rfl
  have hC := Any.strings_Count_one (P := Tryd.prog) (ρ := lays146_ren) { lays146 with } s 38 w
  have hcount : Lib.countB s ampB = Lib.countByte s.data.toList 38 := Lib.count_one 38 s.data.toList
  have c := Any.strings_genSplit_core (P := Tryd.prog) (ρ := lays146_ren) { lays146 with } (by kernel_rfl) s ampB 0 (-1) (Lib.countB s ampB + 1) w (by omega) h1 (Nat.zero_le _)
    (fun x cs hx => (Any.strings_Index_one (P := Tryd.prog) (ρ := lays146_ren) { lays146 with } x 38 _).mono fun e w' ⟨he, hw⟩ => ⟨by rw [he]; show _ = Ending.returned (.int .i64 (Lib.index x.data.toList [38])); rw [Lib.index_one], hw⟩)
    (hC.mono fun e w' ⟨he, hw⟩ => ⟨by rw [he, hcount], hw⟩) (by decide) (by decide) (by rw [if_pos (by decide)]; omega)
  rw [Nat.add_sub_cancel, hlen] at c
  have e2 : Lib.cellsOf (Lib.splitB ampB 0 (Lib.countB s ampB) s) (Lib.countB s ampB + 1) = ((Lib.splitB ampB 0 (Lib.countB s ampB) s).map Value.string).toArray := by rw [← hlen]; exact Lib.cellsOf_full _
  rw [e2] at c
  rw [split_parts, List.length_map] at hlen
  rw [split_parts, ← hlen, List.map_map] at c
  have c' : Calls Tryd.prog 54 #[.string s, .string ampB, .int .i64 0, .int .i64 (-1)] w fun e w' => e = .returned (.slice (some ⟨w.heap.size, 0, none⟩) (Pq.parts (numsOf s)).length (Pq.parts (numsOf s)).length) ∧ w' = w.alloc (.cells (tcells (Pq.parts (numsOf s))).toArray 9) := c
  clear c e2 hlen hC hcount hle
  go_enter Tryd.func35, Tryd.ntmps35
  go_wp2_with fail
  refine c'.mono ?_
  rintro e w' ⟨rfl, hw⟩
  have hL : Lies w' w.heap.size 9 (tcells (Pq.parts (numsOf s))) := by rw [hw]; exact Lies.made w _ _
  have hb : Below w.heap.size w w' := by rw [hw]; exact (Below.refl _ _).alloc (Nat.le_refl _) _
  clear hw c'
  go_wp2
  go_ret
  exact ⟨rfl, hL, hb⟩

/-- What Cut answers. -/
def CutEnd (S : List Nat) (w : World) (e : Ending) (w' : World) : Prop := ∃ b : Bool, e = .returned (.tuple #[.string (strOf (Pq.front S)), .string (strOf (Pq.behind S)), .bool b]) ∧ Below w.heap.size w w'

theorem nums_to (s : ByteArray) (i : Nat) : numsOf (s.extract 0 i) = (numsOf s).take i := by rw [nums_extract, List.drop_zero]

set_option maxHeartbeats 1000000 in
theorem liteCut_any (s : ByteArray) (w : World) (hs : s.size ≤ 4096) :
    Calls Tryd.prog 33 #[.string s, .string eqB] w fun e w' => CutEnd (numsOf s) w e w' := by
  have hI : ∀ w, Calls Tryd.prog 52 #[.string s, .string eqB] w fun e w' => e = .returned (.int .i64 (Lib.indexByte s.data.toList 61)) ∧ w' = w := fun w => Any.stringslite_Index_one (P := Tryd.prog) (ρ := lays146_ren) { lays146 with } s 61 w
  have hge := Lib.indexByte_ge s.data.toList 61
  by_cases hm : Lib.indexByte s.data.toList 61 = -1
  · obtain ⟨h1, h2⟩ := Pq.front_none (l := numsOf s) (at_none hm)
    rw [hm] at hI
    have H1 := Lib.hid h1
    have H2 := Lib.hid h2
    clear hm hge h1 h2
    go_enter Tryd.func33, Tryd.ntmps33
    go_wp2_with fail
    refine (hI _).mono ?_
    rintro e w' ⟨rfl, rfl⟩
    clear hI
    go_wp2
    go_ret3
    refine ⟨false, ?_, Below.refl _ _⟩
    rw [H1.out, H2.out, strOf_numsOf]
    rfl
  · obtain ⟨i, hi⟩ : ∃ i : Nat, Lib.indexByte s.data.toList 61 = (i : Int) := ⟨(Lib.indexByte s.data.toList 61).toNat, by omega⟩
    obtain ⟨g1, g2⟩ := at_some hi
    have hlt : i < s.size := by
      have := congrArg List.length g1
      rw [List.length_append, List.length_take, List.length_cons, List.length_drop] at this
      have e : s.data.toList.length = s.size := by rw [Array.length_toList]; rfl
      omega
    have hsz : numsOf s = (numsOf s).take i ++ 61 :: (numsOf s).drop (i + 1) := by
      have := congrArg (List.map fun u : UInt8 => u.toNat) g1
      rw [List.map_append, List.map_cons, List.map_take, List.map_drop] at this
      exact this
    obtain ⟨h1, h2⟩ := Pq.front_eq (l := numsOf s) (a := (numsOf s).take i) (r := (numsOf s).drop (i + 1)) (fun x hx => g2 x (by rw [List.map_take]; exact hx)) hsz
    have H1 := Lib.hid h1
    have H2 := Lib.hid h2
    rw [hi] at hI
    clear hm hge h1 h2 hsz g1 g2 hi
    have c1 : (0 : Int) ≤ ↑i := by omega
    have c2 : (↑i : Int) ≤ ↑s.size := by omega
    have c3 : (0 : Int) ≤ ↑i + 1 := by omega
    have c4 : (↑i + 1 : Int) ≤ ↑s.size := by omega
    go_enter Tryd.func33, Tryd.ntmps33
    go_wp2_with fail
    refine (hI _).mono ?_
    rintro e w' ⟨rfl, rfl⟩
    clear hI
    go_wp2
    go_quiet (fail)
    go_wp2
    go_ret3
    refine ⟨true, ?_, ?_⟩
    · rw [H1.out, H2.out, ← nums_to, ← nums_from, strOf_numsOf, strOf_numsOf]
      rfl
    · exact ⟨rfl, rfl, rfl, Nat.le_refl _, fun _ _ => rfl⟩

set_option maxHeartbeats 1000000 in
theorem cut_any (s : ByteArray) (w : World) (hs : s.size ≤ 4096) :
    Calls Tryd.prog 20 #[.string s, .string eqB] w fun e w' => CutEnd (numsOf s) w e w' := by
  have hI := liteCut_any s w hs
  go_enter Tryd.func20, Tryd.ntmps20
  go_wp2_with fail
  refine hI.mono ?_
  rintro e w' ⟨b, rfl, hb⟩
  clear hI
  go_wp2
  go_ret3
  exact ⟨b, rfl, hb⟩

theorem map_inter (f : Nat → UInt8) (l : List (List Nat)) : ([38].intercalate l).map f = [f 38].intercalate (l.map (List.map f)) := by
  induction l with
  | nil => rfl
  | cons a l ih =>
    cases l with
    | nil => simp [List.intercalate]
    | cons b l =>
      simp only [List.intercalate, List.intersperse, List.flatten_cons, List.map_cons, List.map_append] at ih ⊢
      rw [ih]
      rfl
theorem strOf_list (q : List Nat) : (strOf q).data.toList = q.map UInt8.ofNat := by
  simp [strOf, strOfNums, Function.comp_def]
theorem join_print (L : List (List Nat × List Nat)) : ⟨(Lib.join ((L.map fun p => strOf (Pq.pr1 p)).map (·.data.toList)) ampB.data.toList).toArray⟩ = strOf (Pq.print L) := by
  apply ByteArray.ext
  apply Array.toList_inj.1
  rw [strOf_list]
  unfold Pq.print
  rw [map_inter, List.map_map, List.map_map]
  show [38].intercalate _ = _
  congr 1
  exact List.map_congr_left fun p _ => strOf_list _

/-- strings.Join with & of written pairs. -/
theorem join_any (L : List (List Nat × List Nat)) (bk o c : Nat) (w : World) (hcells : ∀ (j : Nat) p, L[j]? = some p → w.cell? ⟨bk, o + j, none⟩ = some (.string (strOf (Pq.pr1 p)))) (hbk : bk < w.heap.size) (hn : L.length ≤ 1048576) (hc : L.length ≤ c) (hlen : (Pq.print L).length ≤ 140737488355328) :
    Calls Tryd.prog 48 #[.slice (some ⟨bk, o, none⟩) L.length c, .string ampB] w fun e w' => e = .returned (.string (strOf (Pq.print L))) ∧ Below w.heap.size w w' := by
  have hl : (L.map fun p => strOf (Pq.pr1 p)).length = L.length := List.length_map ..
  have h := Any.strings_Join (P := Tryd.prog) (ρ := lays156_ren) lays156 Builder_Extra_156 bk o c (L.map fun p => strOf (Pq.pr1 p)) ampB w
    (fun j x hj => by
      rw [List.getElem?_map, Option.map_eq_some_iff] at hj
      obtain ⟨p, hp, rfl⟩ := hj
      exact hcells j p hp) hbk (by rw [hl]; omega) (by rw [hl]; exact hc)
    (by
      have := congrArg ByteArray.size (join_print L)
      rw [strOf_size] at this
      have e : ∀ l : List UInt8, (ByteArray.mk l.toArray).size = l.length := fun l => by simp [ByteArray.size]
      rw [e] at this
      omega)
  rw [join_print, hl] at h
  exact h
end Go.Proofs.YtejmkijnngkoaaaDoor
