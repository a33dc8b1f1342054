/-
  The document's GetBound.
-/
import Derived.Test.YtkjofadabaecfaaLRGet
import Derived.Deep.RegionHeld
namespace Go.Proofs.Ytkjofadabaecfaa
open Go.RowKit

set_option maxHeartbeats 4000000 in
set_option maxRecDepth 100000 in
theorem refGetBound_any (S : List Nat) (A : Option Addr) (c : Nat) (w : World) (hS : ArgIs w A c S) :
    Calls Try.prog 18 #[.slice A S.length c] w (BoundEnd S w) := by
  obtain ⟨R, eR⟩ : ∃ R, w.heap.size = R := ⟨_, rfl⟩
  have HL0 : Hid (∀ W0, w.alloc (.cells #[.int .i64 0, .int .i64 0, .string ByteArray.empty, .string ByteArray.empty] 34) = W0 → Below w.heap.size w W0 ∧ Lies W0 R 34 [.int .i64 0, .int .i64 0, .string ByteArray.empty, .string ByteArray.empty]) := by
    intro W0 h
    subst h
    exact ⟨(Below.refl _ _).alloc (Nat.le_refl _) _, Lies.new_ eR.symm⟩
  go_enter Try.func18, Try.ntmps18
  go_upto_region 1 with (fail)
  generalize hW0 : World.alloc w _ = W0
  obtain ⟨hb0, hR⟩ := HL0.out _ hW0
  have hwR : w.heap.size ≤ R := Nat.le_of_eq eR
  have HS := Lib.hid (hS.on hb0)
  have HB0 := Lib.hid hb0
  have HR := Lib.hid hR
  have hRlt : R < W0.heap.size := hR.lt
  clear hb0 hR hW0 HL0 eR hS
  have hP := refParts_any S A c W0 HS.out
  go_wp2_with fail
  refine hP.mono ?_
  clear hP
  rintro e w1 ⟨hb1, ⟨n, l, B, d, hthree, rfl, hl⟩ | ⟨hno, rfl⟩⟩
  rotate_left
  · have hno' : ∀ n c q r, Bq.boundP n c q r ≠ some S := fun n c q r h => by
      obtain ⟨m, u, v, z, _, h1, _⟩ := three_put (Bq.boundP_ok h).2
      exact hno _ _ h1
    have hRR := HR.out.below hb1 hRlt
    have HE : Hid (BoundEnd S w (.returned (.tuple #[boundV 0 0 { data := #[] } { data := #[] }, .int .i64 70])) (put4 w1 R (.int .i64 0) (.int .i64 0) (.string { data := #[] }) (.string { data := #[] }))) := ⟨below_put4 (below_more HB0.out hb1) hwR, .inr ⟨hno', rfl⟩⟩
    have HZ := Lib.hid (Lies.put4 (a := .int .i64 0) (b := .int .i64 0) (c := .string { data := #[] }) (d := .string { data := #[] }) hRR)
    obtain ⟨⟨y0, y1, y2, y3⟩, f0, f1, f2, f3⟩ := hRR.four
    clear hRR hno' hno hb1
    go_wp2
    refine bodyPost_ret (v := .tuple #[boundV 0 0 { data := #[] } { data := #[] }, .int .i64 70]) ?_ rfl ?_
    · have hz := HZ.out
      unfold put4 at hz
      generalize World.setCell (World.setCell (World.setCell (World.setCell w1 _ _) _ _) _ _) _ _ = w9 at hz ⊢
      obtain ⟨⟨x0, x1, x2, x3⟩, _⟩ := hz.four
      simp [results, Try.results18, go_sem, x0, x1, x2, x3]
    · exact HE.out
  obtain ⟨u, v, z, rfl⟩ : ∃ u v z, l = [u, v, z] := by
    obtain ⟨_, _, _, _, _, _, h3, _⟩ := hthree
    match l, h3 with
    | [u, v, z], _ => exact ⟨u, v, z, rfl⟩
  obtain ⟨b, off, u', U1, g1, U2, g2, rfl, _, hblt, hu', hJu, _, s1, _⟩ := hl.elem (i := 0) (by simp)
  obtain rfl : u = u' := by simpa using hu'
  obtain ⟨b1, off1, v', V1, i1, V2, i2, hbo1, _, _, hv', hJv, _, t1, _⟩ := hl.elem (i := 1) (by simp)
  obtain rfl : v = v' := by simpa using hv'
  obtain ⟨b', off', z', Z1, l1, Z2, l2, hbo, _, _, hz', hJz, _, q1, _⟩ := hl.elem (i := 2) (by simp)
  obtain rfl : z = z' := by simpa using hz'
  injection hbo1 with hbo1
  injection hbo1 with hbo11 hbo12
  subst hbo11 hbo12
  injection hbo with hbo
  injection hbo with hbo1 hbo2
  subst hbo1 hbo2
  rw [Nat.zero_mul, Nat.add_zero] at s1
  rw [Nat.one_mul] at t1
  rw [show 2 * 3 = 6 from rfl] at q1
  have hNum := refNumber_any u.bytes U1 g1 w1 hJu.arg.1
  obtain ⟨m, ok, hnp⟩ : ∃ m ok, numberP u.bytes = (m, ok) := ⟨_, _, rfl⟩
  rw [hnp] at hNum
  have HNP := Lib.hid hnp
  have HT1 := Lib.hid t1
  have HQ1 := Lib.hid q1
  have HBLT := Lib.hid hblt
  have HJV := Lib.hid hJv
  have HJZ := Lib.hid hJz
  have H3 := Lib.hid hthree
  have HB1 := Lib.hid hb1
  clear hnp hl hu' hv' hz' hJu hJv hJz hblt t1 q1 hthree hb1
  go_wp2_with fail
  refine hNum.mono ?_
  clear hNum s1
  rintro e w2 ⟨rfl, hb12⟩
  have t1 := (hb12.cell (p := ⟨b, off + 3 + 1, none⟩) HBLT.out).trans HT1.out
  have q1 := (hb12.cell (p := ⟨b, off + 6 + 1, none⟩) HBLT.out).trans HQ1.out
  have hblt : b < w2.heap.size := Nat.lt_of_lt_of_le HBLT.out hb12.size
  have hJv := HJV.out.on hb12
  have hJz := HJZ.out.on hb12
  have hb1 := below_more HB1.out hb12
  have t2 : ∀ o, (w2.alloc o).cell? ⟨b, off + 3 + 1, none⟩ = some (.slice V1 v.bytes.length i1) := fun o => ((below_alloc (Below.refl _ _) o).cell (p := ⟨b, off + 3 + 1, none⟩) hblt).trans t1
  have q2 : ∀ o, (w2.alloc o).cell? ⟨b, off + 6 + 1, none⟩ = some (.slice Z1 z.bytes.length l1) := fun o => ((below_alloc (Below.refl _ _) o).cell (p := ⟨b, off + 6 + 1, none⟩) hblt).trans q1
  have hv := hJv.arg
  have hz := hJz.arg
  have hc1 := conv_str hv.1.drew
  have hc2 := conv_str hz.1.drew
  have hc3 := fun o => conv_str (hv.1.on (below_alloc (Below.refl _ _) o)).drew
  have hc4 := fun o => conv_str (hz.1.on (below_alloc (Below.refl _ _) o)).drew
  have HV := Lib.hid hv
  have HZ := Lib.hid hz
  have HB12 := Lib.hid hb1
  obtain ⟨P, eP⟩ : ∃ P, w2.heap.size = P := ⟨_, rfl⟩
  clear hJv hJz hv hz hb1
  have HW3 : Hid (∀ W3, (w2.alloc (.cells #[.int .i64 (n : Int), .int .i64 (m : Int), .string (strOf v.bytes), .string (strOf z.bytes)] 34)).drew = W3 → Below w2.heap.size w2 W3 ∧ Lies W3 P 34 [.int .i64 (n : Int), .int .i64 (m : Int), .string (strOf v.bytes), .string (strOf z.bytes)]) := by
    intro W3 h
    subst h
    exact ⟨(below_alloc (Below.refl _ _) _).drew, (Lies.new_ eP.symm : Lies (w2.alloc _) P _ _)⟩
  have HBLT : Hid (w2.heap.size = P) := eP
  go_upto_region 5 with (fail)
  go_region_law (fail)
  all_goals
    generalize hW3 : World.drew _ = W3
    obtain ⟨hb3, hL2⟩ := HW3.out _ hW3
    clear hW3 HW3 hc1 hc2 hc3 hc4 t1 q1 t2 q2
    have hPut := refPutBound_any (n : Int) (m : Int) (strOf v.bytes) (strOf z.bytes) W3 (by rw [strOf_size]; exact HV.out.2) (by rw [strOf_size]; exact HZ.out.2)
    rw [numsOf_strOf HV.out.1.2.2.1, numsOf_strOf HZ.out.1.2.2.1] at hPut
    obtain ⟨⟨z0, z1, z2, z3⟩, _⟩ := hL2.four
    have HL2 := Lib.hid hL2
    have hb02 := below_more HB12.out hb3
    have HB2 := Lib.hid hb02
    clear hL2 hb3 hb02
    go_wp2_with fail
    refine hPut.mono ?_
    clear hPut
    intro e w8 hh
    have hno : Bq.boundP (n : Int) (m : Int) v.bytes z.bytes ≠ some S → ∀ n c q r, Bq.boundP n c q r ≠ some S := fun h n' c' q' r' h' => by
      obtain ⟨hw, hp⟩ := Bq.boundP_ok h'
      obtain ⟨m', u', v', z', e1, h1, e0, e2, e3⟩ := three_put hp
      obtain ⟨e4, e5⟩ := three_inj H3.out h1
      simp only [List.cons.injEq, and_true] at e5
      obtain ⟨rfl, rfl, rfl⟩ := e5
      have e6 := Bq.number_whole hw
      rw [← e0, HNP.out] at e6
      simp only [Prod.mk.injEq] at e6
      have e7 : c' = (m : Int) := by rw [e6.1]; exact (Int.toNat_of_nonneg (Bq.whole_in hw).1).symm
      rw [e1, ← e4, ← e2, ← e3, e7] at h'
      exact h h'
    obtain ⟨hb3, hh⟩ := hh.cases
    have hb03 := below_more HB2.out hb3
    have hRR := HR.out.below hb03 hRlt
    obtain ⟨⟨y0, y1, y2, y3⟩, f0, f1, f2, f3⟩ := hRR.four
    have HRR := Lib.hid hRR
    have HE0 : Hid ((∀ n c q r, Bq.boundP n c q r ≠ some S) → BoundEnd S w (.returned (.tuple #[boundV 0 0 { data := #[] } { data := #[] }, .int .i64 70])) (put4 w8 R (.int .i64 0) (.int .i64 0) (.string { data := #[] }) (.string { data := #[] }))) := fun h => ⟨below_put4 (below_more HB0.out hb03) hwR, .inr ⟨h, rfl⟩⟩
    have HZ0 := Lib.hid (Lies.put4 (a := .int .i64 0) (b := .int .i64 0) (c := .string { data := #[] }) (d := .string { data := #[] }) hRR)
    have HNO := Lib.hid hno
    clear hno
    rcases hh with ⟨l, A4, c4, hr, rfl, hl⟩ | ⟨hr, rfl⟩
    rotate_left
    · have HE := Lib.hid (HE0.out (HNO.out (by rw [hr]; exact fun h => nomatch h)))
      clear hRR hb03 hb3 hr z0 z1 z2 z3
      go_wp2
      refine bodyPost_ret (v := .tuple #[boundV 0 0 { data := #[] } { data := #[] }, .int .i64 70]) ?_ rfl ?_
      · have hz := HZ0.out
        unfold put4 at hz
        generalize World.setCell (World.setCell (World.setCell (World.setCell w8 _ _) _ _) _ _) _ _ = w9 at hz ⊢
        obtain ⟨⟨x0, x1, x2, x3⟩, _⟩ := hz.four
        simp [results, Try.results18, go_sem, x0, x1, x2, x3]
      · exact HE.out
    have hS3 := HS.out.on hb03
    have hc1 := conv_str hl
    have hc2 := conv_str hS3
    have hEq := str_beq hl.2.2.1 hS3.2.2.1
    by_cases heq : l = S
    rotate_left
    · rw [decide_eq_false heq] at hEq
      have HE := Lib.hid (HE0.out (HNO.out (by rw [hr]; exact fun h => heq (by injection h))))
      clear hRR hb03 hb3 hr z0 z1 z2 z3 hl hS3 heq
      go_wp2
      refine bodyPost_ret (v := .tuple #[boundV 0 0 { data := #[] } { data := #[] }, .int .i64 70]) ?_ rfl ?_
      · have hz := HZ0.out
        unfold put4 at hz
        generalize World.setCell (World.setCell (World.setCell (World.setCell w8 _ _) _ _) _ _) _ _ = w9 at hz ⊢
        obtain ⟨⟨x0, x1, x2, x3⟩, _⟩ := hz.four
        simp [results, Try.results18, go_sem, x0, x1, x2, x3]
      · exact HE.out
    rw [decide_eq_true heq] at hEq
    have HE : Hid (BoundEnd S w (.returned (.tuple #[boundV (n : Int) (m : Int) (strOf v.bytes) (strOf z.bytes), .int .i64 0])) (put4 w8 R (.int .i64 (n : Int)) (.int .i64 (m : Int)) (.string (strOf v.bytes)) (.string (strOf z.bytes)))) := ⟨below_put4 (below_more HB0.out hb03) hwR, .inl ⟨n, m, v.bytes, z.bytes, by rw [hr, heq], ⟨HV.out.1.2.2.1, HZ.out.1.2.2.1⟩, rfl⟩⟩
    have HZ1 := Lib.hid (Lies.put4 (a := .int .i64 (n : Int)) (b := .int .i64 (m : Int)) (c := .string (strOf v.bytes)) (d := .string (strOf z.bytes)) hRR)
    obtain ⟨⟨z0, z1, z2, z3⟩, _⟩ := (HL2.out.below hb3 HL2.out.lt).four
    clear hRR hb03 hb3 hr hl hS3 heq
    go_wp2
    refine bodyPost_ret (v := .tuple #[boundV (n : Int) (m : Int) (strOf v.bytes) (strOf z.bytes), .int .i64 0]) ?_ rfl ?_
    · have hz := HZ1.out
      unfold put4 at hz
      generalize World.setCell (World.setCell (World.setCell (World.setCell w8 _ _) _ _) _ _) _ _ = w9 at hz ⊢
      obtain ⟨⟨x0, x1, x2, x3⟩, _⟩ := hz.four
      simp [results, Try.results18, go_sem, x0, x1, x2, x3]
    · exact HE.out
end Go.Proofs.Ytkjofadabaecfaa
