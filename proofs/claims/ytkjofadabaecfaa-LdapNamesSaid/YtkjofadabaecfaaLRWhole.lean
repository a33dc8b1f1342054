/-
  The document's whole: the message around a part.
-/
import Derived.Test.YtkjofadabaecfaaLRPart
namespace Go.Proofs.Ytkjofadabaecfaa
open Go.RowKit

set_option maxHeartbeats 1000000 in
set_option maxRecDepth 100000 in
theorem wholeMsg_any (n : Int) (q : List Nat) (A : Option Addr) (c g : Nat) (w : World) (hg : g < 256) (hq : ArgIs w A c q) :
    Calls Try.prog 24 #[.int .i64 n, .slice A q.length c, .int .u8 (g : Int)] w (PutEnd (Bq.wholeR n q g) w) := by
  obtain ⟨RES, eRES⟩ : ∃ RES, Bq.wholeR n q g = RES := ⟨_, rfl⟩
  obtain ⟨N, eN⟩ : ∃ N, q.length = N := ⟨_, rfl⟩
  rw [eRES]
  unfold Bq.wholeR at eRES
  have HRES := Lib.hid eRES
  have hW := refWhole_any n w
  have HQ := Lib.hid hq
  have HN := Lib.hid eN
  rw [eN]
  have hNc : N ≤ 9223372036854775807 := by rw [← eN]; exact Nat.le_trans hq.1 hq.2.1
  obtain ⟨Z, eZ⟩ : ∃ Z, Bq.whole n = Z := ⟨_, rfl⟩
  have HZ := Lib.hid eZ
  have hZ4 : Z.length ≤ 4 := by rw [← eZ]; exact whole_len n
  rw [eZ] at hW
  clear hq eN eRES eZ
  go_enter Try.func24, Try.ntmps24
  go_wp2_with fail
  refine hW.mono ?_
  rintro e w1 ⟨A1, c1, rfl, hq1, hb1⟩
  clear hW
  by_cases hout : Z = [] ∨ 65535 < N
  · have HE : Hid (PutEnd RES w (.returned (.tuple #[nilS, .int .i64 70])) w1) := PutEnd.none (by
      rw [← HRES.out, HZ.out, HN.out, if_pos hout]) hb1
    have hdd : ((Z.length : Int) == 0) = true ∨ (((Z.length : Int) == 0) = false ∧ decide ((65535 : Int) < (N : Int)) = true) := by
      by_cases h : Z = []
      · exact .inl (by rw [h]; rfl)
      · refine .inr ⟨?_, decide_eq_true (by have := hout.resolve_left h; omega)⟩
        rw [beq_eq_false_iff_ne]
        intro e
        exact h (List.eq_nil_of_length_eq_zero (by omega))
    clear hout hq1 hb1 hZ4
    rcases hdd with d1 | ⟨d1, d2⟩
    all_goals
      go_wp2
      go_ret2
      exact HE.out
  have hne : Z ≠ [] := fun h => hout (.inl h)
  have hN : N ≤ 65535 := by omega
  have d1 : ((Z.length : Int) == 0) = false := by
    rw [beq_eq_false_iff_ne]
    intro e
    exact hne (List.eq_nil_of_length_eq_zero (by omega))
  have d2 : decide ((65535 : Int) < (N : Int)) = false := decide_eq_false (by omega)
  have HOUT := Lib.hid hout
  have hP := part_any 2 Z A1 c1 w1 (by decide) hq1 (by omega)
  have HB1 := Lib.hid hb1
  clear hout hne hq1 hb1
  go_wp2_with fail
  refine hP.mono ?_
  rintro e w2 ⟨A2, c2, rfl, hown2, h2, hb2⟩
  clear hP
  have hbw2 := below_more HB1.out hb2
  have hP := part_any g q A c w2 hg (HQ.out.on hbw2) (by rw [HN.out]; exact hN)
  rw [HN.out] at hP
  have HO2 := Lib.hid hown2
  have H2 := Lib.hid h2
  have HB2 := Lib.hid hb2
  clear hown2 h2 hb2
  go_wp2_with fail
  refine hP.mono ?_
  rintro e w3 ⟨A3, c3, rfl, hown3, h3, hb3⟩
  clear hP
  have hown2 := own_below HO2.out hb3
  have hq3 := (own_arg hown3 h3).2
  have hb13 := below_more HB2.out hb3
  have hs3 : w1.heap.size ≤ w3.heap.size := hb13.size
  have hl2 := (Bq.part_len 2 Z).2
  have hl3 := (Bq.part_len g q).2
  have H3 := Lib.hid h3
  have HB13 := Lib.hid hb13
  obtain ⟨X, eX⟩ : ∃ X, Bq.part 2 Z = X := ⟨_, rfl⟩
  obtain ⟨Y, eY⟩ : ∃ Y, Bq.part g q = Y := ⟨_, rfl⟩
  rw [eX] at hown2 hl2 H2 ⊢
  rw [eY] at hq3 hl3 H3 ⊢
  rw [HN.out] at hl3
  have HX := Lib.hid eX
  have HY := Lib.hid eY
  clear hown3 h3 hb3 hb13 hbw2 eX eY
  repeat ((fail_if_success (with_reducible show wpList _ _ _ (⟨some 28, _, _, _, _, _⟩ :: _) _ _)); first | go_values | go_skip | go_guarded | go_step | go_upon | go_back | go_simp)
  with_reducible refine append_arg rfl (.tmp 26) (.tmp 27) ?s0 w1.heap.size _ X.length (u8s X) A3 c3 Y hown2 hq3 ?s1 ?s2 ?s3 hs3 ?_
  case s0 => rfl
  case s1 => rfl
  case s2 => rfl
  case s3 => omega
  intro v4 w4 hown4 hgr4
  have hb14 := HB13.out.grown hgr4 hs3 (fun b e => (hown2.lt b e).1)
  rw [← u8s_append, show X.length + Y.length = (X ++ Y).length by rw [List.length_append]] at hown4
  have h256 : ∀ x ∈ X ++ Y, x < 256 := fun x hx => (List.mem_append.1 hx).elim (H2.out x) (H3.out x)
  obtain ⟨A4, c4, rfl⟩ := own_slice hown4
  have hq4 := (own_arg hown4 h256).2
  have HXY : Hid (Bq.part 2 (Bq.whole n) ++ Bq.part g q = X ++ Y) := by unfold Hid; rw [HZ.out, HX.out, HY.out]
  have hlen : (X ++ Y).length = X.length + Y.length := List.length_append
  obtain ⟨T, eT⟩ : ∃ T, X ++ Y = T := ⟨_, rfl⟩
  rw [eT] at hq4 hlen HXY ⊢
  have HB4 := Lib.hid (below_more HB1.out hb14)
  clear hown2 hq3 hgr4 hown4 h256 eT hb14
  go_frame
  by_cases hbig : 65535 < T.length
  · have d3 : decide ((65535 : Int) < (T.length : Int)) = true := decide_eq_true (by omega)
    have HE : Hid (PutEnd RES w (.returned (.tuple #[nilS, .int .i64 70])) w4) := PutEnd.none (by
      rw [← HRES.out, HXY.out, HZ.out, HN.out, if_neg HOUT.out, if_pos hbig]) HB4.out
    clear hbig hq4 hlen hl2 hl3
    go_wp2
    go_ret2
    exact HE.out
  have d3 : decide ((65535 : Int) < (T.length : Int)) = false := decide_eq_false (by omega)
  have hP := part_any 48 T A4 c4 w4 (by decide) hq4 (by omega)
  have HRR : Hid (RES = some (Bq.part 48 T)) := by
    unfold Hid
    rw [← HRES.out, HXY.out, HZ.out, HN.out, if_neg HOUT.out, if_neg hbig]
  clear hq4 hbig hlen hl2 hl3
  go_wp2_with fail
  refine hP.mono ?_
  rintro e w5 ⟨A5, c5, rfl, hown5, h5, hb5⟩
  clear hP
  have HE : Hid (PutEnd RES w (.returned (.tuple #[.slice A5 (Bq.part 48 T).length c5, .int .i64 0])) w5) := PutEnd.some HRR.out (own_arg hown5 h5).2 (below_more HB4.out hb5)
  clear hown5 h5 hb5
  go_wp2
  go_ret2
  exact HE.out
end Go.Proofs.Ytkjofadabaecfaa
