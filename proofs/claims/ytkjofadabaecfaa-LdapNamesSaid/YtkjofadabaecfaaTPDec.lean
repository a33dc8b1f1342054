/-
  The program's Decode.
-/
import Derived.Test.YtkjofadabaecfaaTPElem
namespace Go.Proofs.Ytkjofadabaecfaa
open Go.RowKit

set_option maxHeartbeats 1000000 in
set_option maxRecDepth 100000 in
theorem decode_any (q : List Nat) (A : Option Addr) (c : Nat) (w : World) (hq : ArgIs w A c q) :
    Calls Try.prog 40 #[.slice A q.length c] w (DecEnd (Bq.decode q) w) := by
  obtain ⟨RES, eRES⟩ : ∃ RES, Bq.decode q = RES := ⟨_, rfl⟩
  rw [eRES]
  unfold Bq.decode at eRES
  obtain ⟨W0, eW0⟩ : ∃ W0, W0 = (w.alloc (.cells zero3.toArray 60)).alloc (.cells #[.int .i64 0, .slice A q.length c] 87) := ⟨_, rfl⟩
  have hb0 : Below w.heap.size w W0 := by rw [eW0]; exact ((Below.refl _ _).alloc (Nat.le_refl _) _).alloc (by simp) _
  have hl0 : Lies W0 w.heap.size 60 zero3 := by rw [eW0]; exact (Lies.new_ rfl).alloc _
  have hr0 : Lies W0 (w.heap.size + 1) 87 [.int .i64 0, .slice A q.length c] := by rw [eW0]; exact Lies.new_ (by simp)
  have hrd : Rd w (w.heap.size + 1) 0 q W0 := ⟨hb0, by omega, by omega, A, c, hr0, hq⟩
  have hE := elem_all 16 w (w.heap.size + 1) 0 q W0 rfl hrd
  obtain ⟨N, eN⟩ : ∃ N, q.length = N := ⟨_, rfl⟩
  rw [eN] at eRES eW0 ⊢
  rw [eW0] at hE
  have HRES := Lib.hid eRES
  have HW0 := Lib.hid eW0
  have HB0 := Lib.hid hb0
  have HL0 := Lib.hid hl0
  have HN := Lib.hid eN
  clear eRES eN eW0 hb0 hl0 hq hr0 hrd
  go_enter Try.func40, Try.ntmps40
  go_wp2_with fail
  refine hE.mono ?_
  intro e w1 hh
  rw [← HW0.out] at hh
  clear hE
  obtain ⟨hg1, hh⟩ := hh.cases
  have hl1 := HL0.out.grown hg1 (fun e => by injection e with e; omega)
  have hb1 : Below w.heap.size w w1 := HB0.out.trans (gb_down hg1 HB0.out.size (by omega))
  have hlt : w.heap.size < w1.heap.size := hl1.lt
  rcases hh with ⟨t, n, A1, c1, A2, c2, hr, rfl, hJ, hrd⟩ | ⟨m, hr, hm, rfl⟩
  rotate_left
  · have hd : ((m : Int) == 0) = false := by rw [beq_eq_false_iff_ne]; omega
    have hRR : RES = .error m := by rw [← HRES.out, hr]
    have HL1 := Lib.hid hl1
    have HB1 := Lib.hid hb1
    have HRR := Lib.hid hRR
    have HM := Lib.hid hm
    clear hg1 hl1 hb1 hr hRR hm
    repeat ((fail_if_success (with_reducible show wpList _ _ _ (⟨some 14, _, _, _, _, _⟩ :: _) _ _)); first | go_values | go_skip | go_guarded | go_step | go_upon | go_back | go_simp)
    generalize hW2 : World.alloc w1 _ = W2
    have hl2 : Lies W2 w.heap.size 60 zero3 := by rw [← hW2]; exact HL1.out.alloc _
    have hb2 : Below w.heap.size w W2 := by rw [← hW2]; exact below_alloc HB1.out _
    have hv2 : Lies W2 w1.heap.size 60 zero3 := by rw [← hW2]; exact Lies.new_ rfl
    have HE : Hid (DecEnd RES w (.returned (.tuple #[tv 0 nilS nilS, .int .i64 (m : Int)])) (put3 W2 w.heap.size (.int .u8 0) nilS nilS)) := dec_no (n := m) HRR.out rfl HM.out hb2
    have HZ := Lib.hid (Lies.put3 (a := .int .u8 0) (b := nilS) (c := nilS) hl2)
    obtain ⟨⟨z0, z1, z2⟩, f0, f1, f2⟩ := hl2.three
    obtain ⟨⟨y0, y1, y2⟩, _⟩ := hv2.three
    clear hW2 hl2 hb2 hv2
    go_wp2
    refine bodyPost_ret (v := .tuple #[tv 0 nilS nilS, .int .i64 (m : Int)]) ?_ rfl ?_
    · have hz := HZ.out
      unfold put3 at hz
      generalize World.setCell (World.setCell (World.setCell W2 _ _) _ _) _ _ = w9 at hz ⊢
      obtain ⟨⟨z0, z1, z2⟩, _⟩ := hz.three
      simp [results, Try.results40, go_sem, z0, z1, z2]
    · exact HE.out
  obtain ⟨A9, c9, hlr, _⟩ := hrd.box
  have hlen : (q.drop n).length = N - n := by rw [List.length_drop, HN.out]
  rw [hlen] at hlr
  have hRR : RES = if n < N then .error 60 else .ok t := by rw [← HRES.out, hr]
  have HRR := Lib.hid hRR
  have HL1 := Lib.hid hl1
  have HB1 := Lib.hid hb1
  have HJ := Lib.hid hJ
  have HLR := Lib.hid hlr
  have hlt2 : w.heap.size + 1 < w1.heap.size := hlr.lt
  obtain ⟨M, eM⟩ : ∃ M, N - n = M := ⟨_, rfl⟩
  have HM : Hid (n < N ↔ 0 < M) := by unfold Hid; omega
  rw [eM] at HLR
  clear hg1 hl1 hb1 hr hRR hJ hrd hlr hlen eM
  repeat ((fail_if_success (with_reducible show wpList _ _ _ (⟨some 14, _, _, _, _, _⟩ :: _) _ _)); first | go_values | go_skip | go_guarded | go_step | go_upon | go_back | go_simp)
  generalize hW2 : World.alloc w1 _ = W2
  have hl2 : Lies W2 w.heap.size 60 zero3 := by rw [← hW2]; exact HL1.out.alloc _
  have hr2 : Lies W2 (w.heap.size + 1) 87 [.int .i64 ((0 : Nat) : Int), .slice A9 M c9] := by rw [← hW2]; exact HLR.out.alloc _
  have hv2 : Lies W2 w1.heap.size 60 [.int .u8 (t.tag : Int), .slice A1 t.bytes.length c1, .slice A2 t.list.length c2] := by rw [← hW2]; exact Lies.new_ rfl
  have hb2 : Below w.heap.size w W2 := by rw [← hW2]; exact below_alloc HB1.out _
  have hJ2 := HJ.out.on (w' := W2) (by rw [← hW2]; exact (Below.refl _ _).alloc (Nat.le_refl _) _)
  obtain ⟨⟨z0, z1, z2⟩, f0, f1, f2⟩ := hl2.three
  obtain ⟨⟨y0, y1, y2⟩, _⟩ := hv2.three
  have x1 := hr2.cell 1
  simp only [List.getElem?_cons_zero, List.getElem?_cons_succ] at x1
  have hC0 : w.heap.size < W0.heap.size := HL0.out.lt
  by_cases hM : 0 < M
  · have HE : Hid (DecEnd RES w (.returned (.tuple #[tv 0 nilS nilS, .int .i64 60])) (put3 W2 w.heap.size (.int .u8 0) nilS nilS)) := dec_no (n := 60) (by rw [HRR.out, if_pos (HM.out.2 hM)]) rfl (by decide) hb2
    have HZ := Lib.hid (Lies.put3 (a := .int .u8 0) (b := nilS) (c := nilS) hl2)
    clear hW2 hl2 hb2 hv2 hJ2 hr2
    go_wp2
    refine bodyPost_ret (v := .tuple #[tv 0 nilS nilS, .int .i64 60]) ?_ rfl ?_
    · have hz := HZ.out
      unfold put3 at hz
      generalize World.setCell (World.setCell (World.setCell W2 _ _) _ _) _ _ = w9 at hz ⊢
      obtain ⟨⟨z0, z1, z2⟩, _⟩ := hz.three
      simp [results, Try.results40, go_sem, z0, z1, z2]
    · exact HE.out
  · have HE : Hid (DecEnd RES w (.returned (.tuple #[tv t.tag (.slice A1 t.bytes.length c1) (.slice A2 t.list.length c2), .int .i64 0])) (put3 W2 w.heap.size (.int .u8 (t.tag : Int)) (.slice A1 t.bytes.length c1) (.slice A2 t.list.length c2))) := dec_yes (by rw [HRR.out, if_neg (fun h => hM (HM.out.1 h))]) hJ2 hC0 hb2
    have HZ := Lib.hid (Lies.put3 (a := .int .u8 (t.tag : Int)) (b := .slice A1 t.bytes.length c1) (c := .slice A2 t.list.length c2) hl2)
    obtain rfl : M = 0 := by omega
    clear hW2 hl2 hb2 hv2 hJ2 hr2 hM
    go_wp2
    refine bodyPost_ret (v := .tuple #[tv t.tag (.slice A1 t.bytes.length c1) (.slice A2 t.list.length c2), .int .i64 0]) ?_ rfl ?_
    · have hz := HZ.out
      unfold put3 at hz
      generalize World.setCell (World.setCell (World.setCell W2 _ _) _ _) _ _ = w9 at hz ⊢
      obtain ⟨⟨z0, z1, z2⟩, _⟩ := hz.three
      simp [results, Try.results40, go_sem, z0, z1, z2]
    · exact HE.out
end Go.Proofs.Ytkjofadabaecfaa
