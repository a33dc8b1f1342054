/-
  The document's GetBind.
-/
import Derived.Test.YtkjofadabaecfaaLRParts
import Derived.Deep.RegionHeld
namespace Go.Proofs.Ytkjofadabaecfaa
open Go.RowKit

/-- An element's bytes, as they came in. -/
theorem IsT.arg {w : World} {ok : Nat → Prop} {t : Nat} {A1 A2 : Option Addr} {c1 c2 n m : Nat} {x : Bq.T} (h : IsT w ok (tv t (.slice A1 n c1) (.slice A2 m c2)) x) : ArgIs w A1 c1 x.bytes ∧ x.bytes.length ≤ 140737488355328 := by
  obtain ⟨_, _, ex, _, h1, h2, _⟩ := h.parts
  simp only [Value.agg.injEq, Array.mk.injEq, List.cons.injEq, and_true] at ex
  obtain ⟨_, rfl, _⟩ := ex
  have h3 := h1
  obtain ⟨_, _, e, _⟩ := h3
  injection e with e1 e2 e3
  subst e2
  exact ⟨h1.arg h2.2, h2.1⟩

set_option maxHeartbeats 4000000 in
set_option maxRecDepth 100000 in
theorem refGetBind_any (S : List Nat) (A : Option Addr) (c : Nat) (w : World) (hS : ArgIs w A c S) :
    Calls Try.prog 14 #[.slice A S.length c] w (BindEnd S w) := by
  obtain ⟨R, eR⟩ : ∃ R, w.heap.size = R := ⟨_, rfl⟩
  have HL0 : Hid (∀ W0, w.alloc (.cells #[.int .i64 0, .string ByteArray.empty, .string ByteArray.empty] 23) = W0 → Below w.heap.size w W0 ∧ Lies W0 R 23 [.int .i64 0, .string ByteArray.empty, .string ByteArray.empty]) := by
    intro W0 h
    subst h
    exact ⟨(Below.refl _ _).alloc (Nat.le_refl _) _, Lies.new_ eR.symm⟩
  go_enter Try.func14, Try.ntmps14
  go_upto_region 1 with (fail)
  generalize hW0 : World.alloc w _ = W0
  obtain ⟨hb0, hR⟩ := HL0.out _ hW0
  have hwR : w.heap.size ≤ R := Nat.le_of_eq eR
  have HS := Lib.hid (hS.on hb0)
  have HB0 := Lib.hid hb0
  have HR := Lib.hid hR
  have hRlt : R < W0.heap.size := hR.lt
  clear hb0 hR hW0 HL0 eR hS
  have hP := refParts_any S A c W0 HS.out
  go_wp2_with fail
  refine hP.mono ?_
  clear hP
  rintro e w1 ⟨hb1, ⟨n, l, B, d, hthree, rfl, hl⟩ | ⟨hno, rfl⟩⟩
  rotate_left
  · have hno' : ∀ n q r, Bq.bindP n q r ≠ some S := fun n q r h => by
      obtain ⟨m, u, v, z, _, h1, _⟩ := three_put h
      exact hno _ _ h1
    have hRR := HR.out.below hb1 hRlt
    have HE : Hid (BindEnd S w (.returned (.tuple #[bindV 0 { data := #[] } { data := #[] }, .int .i64 70])) (put3 w1 R (.int .i64 0) (.string { data := #[] }) (.string { data := #[] }))) := ⟨below_put3 (below_more HB0.out hb1) hwR, .inr ⟨hno', rfl⟩⟩
    have HZ := Lib.hid (Lies.put3 (a := .int .i64 0) (b := .string { data := #[] }) (c := .string { data := #[] }) hRR)
    obtain ⟨⟨y0, y1, y2⟩, f0, f1, f2⟩ := hRR.three
    clear hRR hno' hno hb1
    go_wp2
    refine bodyPost_ret (v := .tuple #[bindV 0 { data := #[] } { data := #[] }, .int .i64 70]) ?_ rfl ?_
    · have hz := HZ.out
      unfold put3 at hz
      generalize World.setCell (World.setCell (World.setCell w1 _ _) _ _) _ _ = w9 at hz ⊢
      obtain ⟨⟨x0, x1, x2⟩, _⟩ := hz.three
      simp [results, Try.results14, go_sem, x0, x1, x2]
    · exact HE.out
  obtain ⟨u, v, z, rfl⟩ : ∃ u v z, l = [u, v, z] := by
    obtain ⟨_, _, _, _, _, _, h3, _⟩ := hthree
    match l, h3 with
    | [u, v, z], _ => exact ⟨u, v, z, rfl⟩
  obtain ⟨b, off, v', V1, i1, V2, i2, rfl, _, hblt, hv', hJv, _, t1, _⟩ := hl.elem (i := 1) (by simp)
  obtain rfl : v = v' := by simpa using hv'
  obtain ⟨b', off', z', Z1, l1, Z2, l2, hbo, _, _, hz', hJz, _, q1, _⟩ := hl.elem (i := 2) (by simp)
  obtain rfl : z = z' := by simpa using hz'
  injection hbo with hbo
  injection hbo with hbo1 hbo2
  subst hbo1 hbo2
  rw [Nat.one_mul] at t1
  rw [show 2 * 3 = 6 from rfl] at q1
  have t2 : ∀ o, (w1.alloc o).cell? ⟨b, off + 3 + 1, none⟩ = some (.slice V1 v.bytes.length i1) := fun o => ((below_alloc (Below.refl _ _) o).cell (p := ⟨b, off + 3 + 1, none⟩) hblt).trans t1
  have q2 : ∀ o, (w1.alloc o).cell? ⟨b, off + 6 + 1, none⟩ = some (.slice Z1 z.bytes.length l1) := fun o => ((below_alloc (Below.refl _ _) o).cell (p := ⟨b, off + 6 + 1, none⟩) hblt).trans q1
  have hv := hJv.arg
  have hz := hJz.arg
  have hc1 := conv_str hv.1.drew
  have hc2 := conv_str hz.1.drew
  have hc3 := fun o => conv_str (hv.1.on (below_alloc (Below.refl _ _) o)).drew
  have hc4 := fun o => conv_str (hz.1.on (below_alloc (Below.refl _ _) o)).drew
  have HV := Lib.hid hv
  have HZ := Lib.hid hz
  have H3 := Lib.hid hthree
  have HB1 := Lib.hid hb1
  obtain ⟨P, eP⟩ : ∃ P, w1.heap.size = P := ⟨_, rfl⟩
  clear hl hJv hJz hv' hz' hv hz hthree hb1
  have HW2 : Hid (∀ W2, (w1.alloc (.cells #[.int .i64 (n : Int), .string (strOf v.bytes), .string (strOf z.bytes)] 23)).drew = W2 → Below w1.heap.size w1 W2 ∧ Lies W2 P 23 [.int .i64 (n : Int), .string (strOf v.bytes), .string (strOf z.bytes)]) := by
    intro W2 h
    subst h
    exact ⟨(below_alloc (Below.refl _ _) _).drew, (Lies.new_ eP.symm : Lies (w1.alloc _) P _ _)⟩
  have HBLT : Hid (w1.heap.size = P) := eP
  go_upto_region 4 with (fail)
  go_region_law (fail)
  all_goals
    generalize hW2 : World.drew _ = W2
    obtain ⟨hb2, hL2⟩ := HW2.out _ hW2
    clear hW2 HW2 hc1 hc2 hc3 hc4 t1 q1 t2 q2
    have hPut := refPutBind_any (n : Int) (strOf v.bytes) (strOf z.bytes) W2 (by rw [strOf_size]; exact HV.out.2) (by rw [strOf_size]; exact HZ.out.2)
    rw [numsOf_strOf HV.out.1.2.2.1, numsOf_strOf HZ.out.1.2.2.1] at hPut
    obtain ⟨⟨z0, z1, z2⟩, _⟩ := hL2.three
    have HL2 := Lib.hid hL2
    have hb02 := below_more HB1.out hb2
    have HB2 := Lib.hid hb02
    clear hL2 hb2 hb02
    go_wp2_with fail
    refine hPut.mono ?_
    clear hPut
    intro e w3 hh
    have hno : Bq.bindP (n : Int) v.bytes z.bytes ≠ some S → ∀ n q r, Bq.bindP n q r ≠ some S := fun h n' q' r' h' => by
      obtain ⟨m, u', v', z', e1, h1, _, e2, e3⟩ := three_put h'
      obtain ⟨e4, e5⟩ := three_inj H3.out h1
      simp only [List.cons.injEq, and_true] at e5
      obtain ⟨_, rfl, rfl⟩ := e5
      rw [e1, ← e4, ← e2, ← e3] at h'
      exact h h'
    obtain ⟨hb3, hh⟩ := hh.cases
    have hb03 := below_more HB2.out hb3
    have hRR := HR.out.below hb03 hRlt
    obtain ⟨⟨y0, y1, y2⟩, f0, f1, f2⟩ := hRR.three
    have HRR := Lib.hid hRR
    have HE0 : Hid ((∀ n q r, Bq.bindP n q r ≠ some S) → BindEnd S w (.returned (.tuple #[bindV 0 { data := #[] } { data := #[] }, .int .i64 70])) (put3 w3 R (.int .i64 0) (.string { data := #[] }) (.string { data := #[] }))) := fun h => ⟨below_put3 (below_more HB0.out hb03) hwR, .inr ⟨h, rfl⟩⟩
    have HZ0 := Lib.hid (Lies.put3 (a := .int .i64 0) (b := .string { data := #[] }) (c := .string { data := #[] }) hRR)
    have HNO := Lib.hid hno
    clear hno
    rcases hh with ⟨l, A4, c4, hr, rfl, hl⟩ | ⟨hr, rfl⟩
    rotate_left
    · have HE := Lib.hid (HE0.out (HNO.out (by rw [hr]; exact fun h => nomatch h)))
      clear hRR hb03 hb3 hr z0 z1 z2
      go_wp2
      refine bodyPost_ret (v := .tuple #[bindV 0 { data := #[] } { data := #[] }, .int .i64 70]) ?_ rfl ?_
      · have hz := HZ0.out
        unfold put3 at hz
        generalize World.setCell (World.setCell (World.setCell w3 _ _) _ _) _ _ = w9 at hz ⊢
        obtain ⟨⟨x0, x1, x2⟩, _⟩ := hz.three
        simp [results, Try.results14, go_sem, x0, x1, x2]
      · exact HE.out
    have hS3 := HS.out.on hb03
    have hc1 := conv_str hl
    have hc2 := conv_str hS3
    have hEq := str_beq hl.2.2.1 hS3.2.2.1
    by_cases heq : l = S
    rotate_left
    · rw [decide_eq_false heq] at hEq
      have HE := Lib.hid (HE0.out (HNO.out (by rw [hr]; exact fun h => heq (by injection h))))
      clear hRR hb03 hb3 hr z0 z1 z2 hl hS3 heq
      go_wp2
      refine bodyPost_ret (v := .tuple #[bindV 0 { data := #[] } { data := #[] }, .int .i64 70]) ?_ rfl ?_
      · have hz := HZ0.out
        unfold put3 at hz
        generalize World.setCell (World.setCell (World.setCell w3 _ _) _ _) _ _ = w9 at hz ⊢
        obtain ⟨⟨x0, x1, x2⟩, _⟩ := hz.three
        simp [results, Try.results14, go_sem, x0, x1, x2]
      · exact HE.out
    rw [decide_eq_true heq] at hEq
    have HE : Hid (BindEnd S w (.returned (.tuple #[bindV (n : Int) (strOf v.bytes) (strOf z.bytes), .int .i64 0])) (put3 w3 R (.int .i64 (n : Int)) (.string (strOf v.bytes)) (.string (strOf z.bytes)))) := ⟨below_put3 (below_more HB0.out hb03) hwR, .inl ⟨n, v.bytes, z.bytes, by rw [hr, heq], ⟨HV.out.1.2.2.1, HZ.out.1.2.2.1⟩, rfl⟩⟩
    have HZ1 := Lib.hid (Lies.put3 (a := .int .i64 (n : Int)) (b := .string (strOf v.bytes)) (c := .string (strOf z.bytes)) hRR)
    obtain ⟨⟨z0, z1, z2⟩, _⟩ := (HL2.out.below hb3 HL2.out.lt).three
    clear hRR hb03 hb3 hr hl hS3 heq
    go_wp2
    refine bodyPost_ret (v := .tuple #[bindV (n : Int) (strOf v.bytes) (strOf z.bytes), .int .i64 0]) ?_ rfl ?_
    · have hz := HZ1.out
      unfold put3 at hz
      generalize World.setCell (World.setCell (World.setCell w3 _ _) _ _) _ _ = w9 at hz ⊢
      obtain ⟨⟨x0, x1, x2⟩, _⟩ := hz.three
      simp [results, Try.results14, go_sem, x0, x1, x2]
    · exact HE.out
end Go.Proofs.Ytkjofadabaecfaa
