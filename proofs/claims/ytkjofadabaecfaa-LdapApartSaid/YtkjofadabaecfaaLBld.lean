/-
  A strings.Builder of the call's own: a byte written, the text read.
-/
import Derived.Test.YtkjofadabaecfaaLLay
import Derived.Test.YtkjofadabaecfaaTMem
namespace Go.Proofs.Ytkjofadabaecfaa
open Go.RowKit

/-- A builder of the call's own that holds these bytes. -/
abbrev Bld (B b : Nat) (q : List Nat) (w : World) : Prop := Lib.IsBuilder 66 5 B b (u8s q) w
theorem builder_info : ∃ j, Try.prog.info? 66 = some j ∧ j.size = 2 := by
  obtain ⟨j, h1, h2⟩ := Option.map_eq_some_iff.1 (show (Try.prog.info? 66).map (·.size) = some 2 by kernel_rfl)
  exact ⟨j, h1, h2⟩
theorem builder_lies : liesAt Try.prog Try.prog.depth 66 (2 / Try.prog.cellsOf 66) 0 66 1 = true := by kernel_rfl

set_option maxHeartbeats 1000000 in
set_option maxRecDepth 100000 in
theorem copyCheck_used (b : Nat) (w : World) (h0 : w.cell? ⟨b, 0, none⟩ = some (.pointer (some ⟨b, 0, none⟩))) :
    Calls Try.prog 46 #[.pointer (some ⟨b, 0, none⟩)] w fun e w' => e = .returned (.tuple #[]) ∧ w = w' := by
  obtain ⟨j, hj, _⟩ := builder_info
  go_enter Try.func46, Try.ntmps46
  go_wp2
  rw [Lib.run_neq_ptr_same w _ Try.underlying64 hj]
  go_wp2
  go_end0
  exact ⟨rfl, rfl⟩
set_option maxHeartbeats 1000000 in
set_option maxRecDepth 100000 in
theorem copyCheck_fresh (b : Nat) (w : World) (h0 : w.cell? ⟨b, 0, none⟩ = some (.pointer none)) (hsh : w.shape? b = some (66, 2)) (hfz : w.frozen? ⟨b, 0, none⟩ = false) :
    Calls Try.prog 46 #[.pointer (some ⟨b, 0, none⟩)] w fun e w' => e = .returned (.tuple #[]) ∧ w.setCell ⟨b, 0, none⟩ (.pointer (some ⟨b, 0, none⟩)) = w' := by
  obtain ⟨j, hj, hjs⟩ := builder_info
  go_enter Try.func46, Try.ntmps46
  go_wp2
  rw [Lib.run_to_unsafe w ⟨b, 0, none⟩ Try.underlying64 Try.underlying94 hj (by rw [hjs]; decide) hsh (Nat.zero_lt_succ 1)]
  simp only [Result.andThen]
  rw [Oper.upon_value]
  go_wp2
  rw [run_callFunc_extern Try.func56 (by kernel_rfl) (by kernel_rfl) (by kernel_rfl) (e := Extern.AbiNoEscape.same) (by kernel_rfl), Lib.run_noEscape]
  simp only [Result.andThen]
  rw [Oper.upon_value]
  go_wp2
  rw [Lib.run_from_unsafe w ⟨b, 0, none⟩ Try.underlying94 Try.underlying64 hj hsh builder_lies]
  simp only [Result.andThen]
  rw [Oper.upon_value]
  go_wp2
  go_end0
  exact ⟨rfl, rfl⟩
theorem copyCheck_any (B b : Nat) (q : List Nat) (w : World) (h : Bld B b q w) :
    Calls Try.prog 46 #[.pointer (some ⟨b, 0, none⟩)] w fun e w' => e = .returned (.tuple #[]) ∧ Lib.BuilderAt 66 5 B b (.pointer (some ⟨b, 0, none⟩)) (u8s q) w' ∧ Below B w w' := by
  rcases h with h | h
  · refine (copyCheck_fresh b w h.cell0 h.shape h.frozen0).mono ?_
    rintro e w' ⟨rfl, rfl⟩
    exact ⟨rfl, h.used _, (Below.refl B w).setCell (p := ⟨b, 0, none⟩) h.1 _⟩
  · refine (copyCheck_used b w h.cell0).mono ?_
    rintro e w' ⟨rfl, rfl⟩
    exact ⟨rfl, h, Below.refl B _⟩

set_option maxHeartbeats 1000000 in
set_option maxRecDepth 100000 in
theorem writeByte_any (B b : Nat) (q : List Nat) (c : Nat) (w : World) (h : Bld B b q w) (hlen : q.length ≤ 1000) (hB : B ≤ w.heap.size) :
    Calls Try.prog 34 #[.pointer (some ⟨b, 0, none⟩), .int .u8 (c : Int)] w fun e w' => e = .returned .nilIface ∧ Bld B b (q ++ [c]) w' ∧ Below B w w' := by
  have hC := copyCheck_any B b q w h
  clear h
  go_enter Try.func34, Try.ntmps34
  go_wp2_with fail
  refine hC.mono ?_
  rintro e w1 ⟨rfl, ⟨hBb, v, hbk, hown, hne⟩, hb1⟩
  clear hC
  rw [u8s_length] at hown
  obtain ⟨A, k, rfl⟩ := own_slice hown
  have hlt : b < w1.heap.size := (Array.getElem?_eq_some_iff.1 hbk).1
  have hs := hb1.size
  have c1 : w1.cell? ⟨b, 1, none⟩ = some (.slice A q.length k) := by rw [Lib.cell_of_heap hbk]; rfl
  have HBK := Lib.hid hbk
  have HOWN := Lib.hid hown
  have HNE := Lib.hid hne
  have HB1 := Lib.hid hb1
  clear hbk hown hne hb1
  repeat ((fail_if_success (with_reducible show wpList _ _ _ (⟨some 14, _, _, _, _, _⟩ :: _) _ _)); first | go_values | go_skip | go_guarded | go_step | go_upon | go_back | go_simp)
  have hlt2 : b < (w1.alloc (.cells #[.int .u8 (c : Int)] 5)).heap.size := by simp; omega
  have hbk2 : (w1.alloc (.cells #[.int .u8 (c : Int)] 5)).heap[b]? = some (.cells #[.pointer (some ⟨b, 0, none⟩), .slice A q.length k] 66 (0, 0)) := (Below.heap_alloc w1 _ b hlt).trans HBK.out
  have hcell := new_cells w1 #[.int .u8 (c : Int)] 5
  have hown2 := HOWN.out.alloc (.cells #[.int .u8 (c : Int)] 5)
  have hb2 : Below B w (w1.alloc (.cells #[.int .u8 (c : Int)] 5)) := HB1.out.alloc (by omega) _
  have hB2 : B ≤ (w1.alloc (.cells #[.int .u8 (c : Int)] 5)).heap.size := by simp; omega
  with_reducible refine append_row rfl (.tmp 11) (.tmp 13) 24 5 (.int .u8 0) 1 1 ?s0 Try.underlying24 infoByte rfl (by decide) B _ q.length (u8s q) ⟨w1.heap.size, 0, none⟩ 1 1 [.int .u8 (c : Int)] hown2 rfl ?s1 ?s2 ?s3 ?s4 ?s5 ?s6 hB2 ?_
  case s0 => rfl
  case s1 => exact fun j u hj => hcell j u hj
  case s2 => intro u hu; simp at hu; subst hu; rfl
  case s3 => rfl
  case s4 => rfl
  case s5 => omega
  case s6 => omega
  intro v2 w2 hown3 hgr
  have hbk3 : w2.heap[b]? = some (.cells #[.pointer (some ⟨b, 0, none⟩), .slice A q.length k] 66 (0, 0)) := (hgr.block b hlt2 (fun e => HNE.out e.symm)).trans hbk2
  have hown4 : w2.ownsRow B 5 1 v2 (u8s (q ++ [c])).length (u8s (q ++ [c])) := by
    rw [u8s_length, List.length_append, u8s_append]
    exact hown3
  have HQ : Hid (Bld B b (q ++ [c]) (w2.setCell ⟨b, 1, none⟩ v2) ∧ Below B w (w2.setCell ⟨b, 1, none⟩ v2)) :=
    ⟨.inr (Lib.BuilderAt.put hBb hbk3 hown4 (by decide)), (hb2.grown hgr hB2 (fun k hk => own_ge HOWN.out k hk)).setCell (p := ⟨b, 1, none⟩) hBb _⟩
  have d1 : w2.cell? ⟨b, 1, none⟩ = some (.slice A q.length k) := by rw [Lib.cell_of_heap hbk3]; rfl
  have f1 : w2.frozen? ⟨b, 1, none⟩ = false := Lib.frozen_of_heap hbk3 1
  obtain ⟨g, cap, rfl⟩ := own_form hown3 (by omega)
  clear hown3 hown4 hgr hbk3 hbk2 hcell hown2 hb2 hB2 hlt2
  go_frame
  go_wp2
  go_ret
  exact ⟨rfl, HQ.out⟩
theorem string_any (B b : Nat) (q : List Nat) (w : World) (h : Bld B b q w) (hq : ∀ x ∈ q, x < 256) (hB : B ≤ w.heap.size) :
    Calls Try.prog 35 #[.pointer (some ⟨b, 0, none⟩)] w fun e w' => e = .returned (.string (strOf q)) ∧ Below B w w' := by
  have e1 : u8s q = Lib.byteCells (q.map fun x => x.toUInt8) := by
    simp only [u8s, Lib.byteCells, List.map_map]
    apply List.map_congr_left
    intro x hx
    have := hq x hx
    simp [Nat.mod_eq_of_lt this]
  have e2 : strOf q = ⟨(q.map fun x => x.toUInt8).toArray⟩ := by
    simp only [strOf, strOfNums, List.map_map]
    congr 2
  have h1 : Lib.IsBuilder 66 5 B b (Lib.byteCells (q.map fun x => x.toUInt8)) w := by rw [← e1]; exact h
  rw [e2]
  exact Any.Builder_String_any lays169 Builder_Extra_169 B b _ w h1 hB
end Go.Proofs.Ytkjofadabaecfaa
