/-
  The document's Check.
-/
import Derived.Test.YtoocejcoaojaiaaDoorVForm
import Derived.Test.YtoocejcoaojaiaaDoorVCheck
import Derived.Deep.DeepCutAuto
namespace Go.Proofs.YtoocejcoaojaiaaDoor
open Go.RowKit Go.Sort

set_option maxHeartbeats 1000000 in
set_option maxRecDepth 100000 in
theorem refCheck_any {ok : Nat → Prop} {q : Vq.Want} (x : Jq.J) (v : Value) (w : World) (hq : WantOk q) (hJ : IsJ w ok v x) : Calls Tryd.prog 14 #[v, wantv q] w (CheckEnd (Vq.check x q) w) := by
  have e0 := str_beq (textOf_ok hJ Vq.issN).2 hq.1.2
  have e1 := str_beq (textOf_ok hJ Vq.audN).2 hq.2.1.2
  have e2 := str_beq (textOf_ok hJ Vq.nonceN).2 hq.2.2.1.2
  have HJ := Lib.hid hJ
  obtain ⟨A1, c1, A2, c2, rfl⟩ := hJ.form
  have hCF : ∀ W : World, Below w.heap.size w W → Calls Tryd.prog 28 #[jv x.kind x.bool x.int (strOf x.text) (.slice A1 x.names.length c1) (.slice A2 x.list.length c2)] W fun e W' => e = .returned (.bool (decide (Vq.Formed x))) ∧ Below W.heap.size W W' := fun W hb => refFormed_any x _ W (HJ.out.on hb)
  have hC0 : ∀ W : World, Below w.heap.size w W → Calls Tryd.prog 20 #[jv x.kind x.bool x.int (strOf x.text) (.slice A1 x.names.length c1) (.slice A2 x.list.length c2), .string (strOf Vq.issN)] W fun e W' => e = .returned (.tuple #[.string (strOf ((Vq.textOf x Vq.issN).getD [])), .bool (Vq.textOf x Vq.issN).isSome]) ∧ Below W.heap.size W W' := fun W hb => refClaimText_any x _ Vq.issN (by decide) W (HJ.out.on hb)
  have hC1 : ∀ W : World, Below w.heap.size w W → Calls Tryd.prog 20 #[jv x.kind x.bool x.int (strOf x.text) (.slice A1 x.names.length c1) (.slice A2 x.list.length c2), .string (strOf Vq.audN)] W fun e W' => e = .returned (.tuple #[.string (strOf ((Vq.textOf x Vq.audN).getD [])), .bool (Vq.textOf x Vq.audN).isSome]) ∧ Below W.heap.size W W' := fun W hb => refClaimText_any x _ Vq.audN (by decide) W (HJ.out.on hb)
  have hC2 : ∀ W : World, Below w.heap.size w W → Calls Tryd.prog 22 #[jv x.kind x.bool x.int (strOf x.text) (.slice A1 x.names.length c1) (.slice A2 x.list.length c2), .string (strOf Vq.expN)] W fun e W' => e = .returned (.tuple #[.int .i64 ((Vq.intOf x Vq.expN).getD 0), .bool (Vq.intOf x Vq.expN).isSome]) ∧ Below W.heap.size W W' := fun W hb => refClaimInt_any x _ Vq.expN (by decide) W (HJ.out.on hb)
  have hC3 : ∀ W : World, Below w.heap.size w W → Calls Tryd.prog 22 #[jv x.kind x.bool x.int (strOf x.text) (.slice A1 x.names.length c1) (.slice A2 x.list.length c2), .string (strOf Vq.iatN)] W fun e W' => e = .returned (.tuple #[.int .i64 ((Vq.intOf x Vq.iatN).getD 0), .bool (Vq.intOf x Vq.iatN).isSome]) ∧ Below W.heap.size W W' := fun W hb => refClaimInt_any x _ Vq.iatN (by decide) W (HJ.out.on hb)
  have hC4 : ∀ W : World, Below w.heap.size w W → Calls Tryd.prog 22 #[jv x.kind x.bool x.int (strOf x.text) (.slice A1 x.names.length c1) (.slice A2 x.list.length c2), .string (strOf Vq.nbfN)] W fun e W' => e = .returned (.tuple #[.int .i64 ((Vq.intOf x Vq.nbfN).getD 0), .bool (Vq.intOf x Vq.nbfN).isSome]) ∧ Below W.heap.size W W' := fun W hb => refClaimInt_any x _ Vq.nbfN (by decide) W (HJ.out.on hb)
  have hC5 : ∀ W : World, Below w.heap.size w W → Calls Tryd.prog 20 #[jv x.kind x.bool x.int (strOf x.text) (.slice A1 x.names.length c1) (.slice A2 x.list.length c2), .string (strOf Vq.nonceN)] W fun e W' => e = .returned (.tuple #[.string (strOf ((Vq.textOf x Vq.nonceN).getD [])), .bool (Vq.textOf x Vq.nonceN).isSome]) ∧ Below W.heap.size W W' := fun W hb => refClaimText_any x _ Vq.nonceN (by decide) W (HJ.out.on hb)
  have hck : Vq.check x q = (if ¬ Vq.Formed x then 100 else if (Vq.textOf x Vq.issN).getD [] ≠ q.issuer then 101 else if (Vq.textOf x Vq.audN).getD [] ≠ q.aud then 102
    else if Vq.add ((Vq.intOf x Vq.expN).getD 0) q.slack ≤ Vq.add q.now 0 then 103 else if Vq.add q.now q.slack < Vq.add ((Vq.intOf x Vq.iatN).getD 0) 0 ∨ ((Vq.intOf x Vq.nbfN).isSome = true ∧ Vq.add q.now q.slack < Vq.add ((Vq.intOf x Vq.nbfN).getD 0) 0) then 104
    else if q.nonce ≠ [] ∧ (Vq.textOf x Vq.nonceN).getD [] ≠ q.nonce then 105 else 0) := rfl
  have hne := empty_text q.nonce
  obtain ⟨ti, eti⟩ : ∃ t, (Vq.textOf x Vq.issN).getD [] = t := ⟨_, rfl⟩
  obtain ⟨ta, eta⟩ : ∃ t, (Vq.textOf x Vq.audN).getD [] = t := ⟨_, rfl⟩
  obtain ⟨tn, etn⟩ : ∃ t, (Vq.textOf x Vq.nonceN).getD [] = t := ⟨_, rfl⟩
  obtain ⟨r3, er3⟩ : ∃ r, (Vq.intOf x Vq.expN).getD 0 = r := ⟨_, rfl⟩
  obtain ⟨r4, er4⟩ : ∃ r, (Vq.intOf x Vq.iatN).getD 0 = r := ⟨_, rfl⟩
  obtain ⟨r5, er5⟩ : ∃ r, (Vq.intOf x Vq.nbfN).getD 0 = r := ⟨_, rfl⟩
  obtain ⟨b0, eb0⟩ : ∃ b, (Vq.textOf x Vq.issN).isSome = b := ⟨_, rfl⟩
  obtain ⟨b1, eb1⟩ : ∃ b, (Vq.textOf x Vq.audN).isSome = b := ⟨_, rfl⟩
  obtain ⟨b2, eb2⟩ : ∃ b, (Vq.intOf x Vq.expN).isSome = b := ⟨_, rfl⟩
  obtain ⟨b3, eb3⟩ : ∃ b, (Vq.intOf x Vq.iatN).isSome = b := ⟨_, rfl⟩
  obtain ⟨b4, eb4⟩ : ∃ b, (Vq.intOf x Vq.nbfN).isSome = b := ⟨_, rfl⟩
  obtain ⟨b5, eb5⟩ : ∃ b, (Vq.textOf x Vq.nonceN).isSome = b := ⟨_, rfl⟩
  simp only [eti, eta, etn, er3, er4, er5, eb4] at hck
  simp only [eti] at e0
  simp only [eta] at e1
  simp only [etn] at e2
  simp only [eti, eb0] at hC0
  simp only [eta, eb1] at hC1
  simp only [er3, eb2] at hC2
  simp only [er4, eb3] at hC3
  simp only [er5, eb4] at hC4
  simp only [etn, eb5] at hC5
  obtain ⟨FD, eFD⟩ : ∃ d, decide (Vq.Formed x) = d := ⟨_, rfl⟩
  simp only [eFD] at hCF
  obtain ⟨L, eL⟩ : ∃ L, Vq.add q.now q.slack = L := ⟨_, rfl⟩
  obtain ⟨P4, eP4⟩ : ∃ L, Vq.add r4 0 = L := ⟨_, rfl⟩
  obtain ⟨P5, eP5⟩ : ∃ L, Vq.add r5 0 = L := ⟨_, rfl⟩
  have hAL : ∀ W, Calls Tryd.prog 12 #[.int .i64 q.now, .int .i64 q.slack] W fun e W' => W = W' ∧ e = .returned (.int .i64 L) := fun W => by rw [← eL]; exact refAdd_any _ _ W
  have hA4 : ∀ W, Calls Tryd.prog 12 #[.int .i64 r4, .int .i64 0] W fun e W' => W = W' ∧ e = .returned (.int .i64 P4) := fun W => by rw [← eP4]; exact refAdd_any _ _ W
  have hA5 : ∀ W, Calls Tryd.prog 12 #[.int .i64 r5, .int .i64 0] W fun e W' => W = W' ∧ e = .returned (.int .i64 P5) := fun W => by rw [← eP5]; exact refAdd_any _ _ W
  rw [eL, eP4, eP5] at hck
  obtain ⟨CK, eCK⟩ : ∃ n, Vq.check x q = n := ⟨_, rfl⟩
  rw [eCK] at hck ⊢
  obtain ⟨W0, eW0⟩ : ∃ W0, W0 = (w.alloc (.cells #[.int .i64 x.kind, .bool x.bool, .int .i64 x.int, .string (strOf x.text), .slice A1 x.names.length c1, .slice A2 x.list.length c2] 28)).alloc (.cells #[.string (strOf q.issuer), .string (strOf q.aud), .string (strOf q.nonce), .int .i64 q.now, .int .i64 q.slack] 30) := ⟨_, rfl⟩
  have hb0 : Below w.heap.size w W0 := by rw [eW0]; exact (one_alloc _ _).alloc (by simp) _
  have hw0 : Lies W0 (w.heap.size + 1) 30 (wcells q) := by rw [eW0]; exact Lies.new_ (by simp)
  have hl0 : Lies W0 w.heap.size 28 [.int .i64 x.kind, .bool x.bool, .int .i64 x.int, .string (strOf x.text), .slice A1 x.names.length c1, .slice A2 x.list.length c2] := by rw [eW0]; exact (Lies.new_ rfl).alloc _
  have HF : Hid (FD = true → Vq.Formed x) := fun h => of_decide_eq_true (by rw [eFD]; exact h)
  have HNF : Hid (FD = false → ¬ Vq.Formed x) := fun h => of_decide_eq_false (by rw [eFD]; exact h)
  have HCF := Lib.hid hCF
  have HC0 := Lib.hid hC0
  have HC1 := Lib.hid hC1
  have HC2 := Lib.hid hC2
  have HC3 := Lib.hid hC3
  have HC4 := Lib.hid hC4
  have HC5 := Lib.hid hC5
  have HAL := Lib.hid hAL
  have HA4 := Lib.hid hA4
  have HA5 := Lib.hid hA5
  have HCK := Lib.hid hck
  have HB0 := Lib.hid hb0
  have HWT0 := Lib.hid hw0
  have HL0 := Lib.hid hl0
  have HE0 := Lib.hid e0
  have HE1 := Lib.hid e1
  have HE2 := Lib.hid e2
  have HNE := Lib.hid hne
  obtain ⟨⟨z0, z1, z2, z3, z4, z5⟩, _⟩ := hl0.six
  have hC := hCF W0 hb0
  rw [eW0] at hC z0 z1 z2 z3 z4 z5
  have HW0 := Lib.hid eW0
  clear hCF hC0 hC1 hC2 hC3 hC4 hC5 hAL hA4 hA5 hck hb0 hw0 hl0 e0 e1 e2 hne eti eta etn er3 er4 er5 eb0 eb1 eb2 eb3 eb4 eb5 eFD eL eP4 eP5 eCK eW0 hJ hq
  go_enter Tryd.func14, Tryd.ntmps14
  go_wp2_with fail
  refine hC.mono ?_
  rintro e w1 ⟨rfl, hb⟩
  clear hC z0 z1 z2 z3 z4 z5
  rw [← HW0.out] at hb
  have HB1 := Lib.hid (below_more HB0.out hb)
  have HL1 := Lib.hid (HL0.out.below hb HL0.out.lt)
  have HW1 := Lib.hid (HWT0.out.below hb HWT0.out.lt)
  clear hb
  cases FD with
  | false =>
    have HE : Hid (CheckEnd CK w (.returned (.int .i64 100)) w1) := ⟨by rw [HCK.out, if_pos (HNF.out rfl)], HB1.out⟩
    go_wp2
    go_ret
    exact HE.out
  | true =>
  have HFF : Hid (¬ ¬ Vq.Formed x) := fun h => h (HF.out rfl)
  have hC := HC0.out w1 HB1.out
  obtain ⟨⟨z0, z1, z2, z3, z4, z5⟩, _⟩ := HL1.out.six
  go_wp2_with fail
  refine hC.mono ?_
  rintro e w2 ⟨rfl, hb⟩
  clear hC z0 z1 z2 z3 z4 z5
  have HB2 := Lib.hid (below_more HB1.out hb)
  have HL2 := Lib.hid (HL1.out.below hb HL1.out.lt)
  have HW2 := Lib.hid (HW1.out.below hb HW1.out.lt)
  clear hb
  have hwc : w2.cell? ⟨w.heap.size + 1, 0, none⟩ = some (.string (strOf q.issuer)) := HW2.out.cell 0
  by_cases h1 : ti = q.issuer
  rotate_left
  · have d := HE0.out
    rw [decide_eq_false h1] at d
    have HE : Hid (CheckEnd CK w (.returned (.int .i64 101)) w2) := ⟨by rw [HCK.out, if_neg HFF.out, if_pos h1], HB2.out⟩
    clear h1
    go_wp2
    go_ret
    exact HE.out
  have d := HE0.out
  rw [decide_eq_true h1] at d
  have H1 : Hid (¬ (ti ≠ q.issuer)) := fun h => h h1
  clear h1
  go_upto_region 6 with (fail)
  clear d hwc
  have hC := HC1.out w2 HB2.out
  obtain ⟨⟨z0, z1, z2, z3, z4, z5⟩, _⟩ := HL2.out.six
  go_wp2_with fail
  refine hC.mono ?_
  rintro e w3 ⟨rfl, hb⟩
  clear hC z0 z1 z2 z3 z4 z5
  have HB3 := Lib.hid (below_more HB2.out hb)
  have HL3 := Lib.hid (HL2.out.below hb HL2.out.lt)
  have HW3 := Lib.hid (HW2.out.below hb HW2.out.lt)
  clear hb
  have hwc : w3.cell? ⟨w.heap.size + 1, 1, none⟩ = some (.string (strOf q.aud)) := HW3.out.cell 1
  by_cases h1 : ta = q.aud
  rotate_left
  · have d := HE1.out
    rw [decide_eq_false h1] at d
    have HE : Hid (CheckEnd CK w (.returned (.int .i64 102)) w3) := ⟨by rw [HCK.out, if_neg HFF.out, if_neg H1.out, if_pos h1], HB3.out⟩
    clear h1
    go_wp2
    go_ret
    exact HE.out
  have d := HE1.out
  rw [decide_eq_true h1] at d
  have H2 : Hid (¬ (ta ≠ q.aud)) := fun h => h h1
  clear h1
  go_upto_region 9 with (fail)
  clear d hwc
  have hC := HC2.out w3 HB3.out
  obtain ⟨⟨z0, z1, z2, z3, z4, z5⟩, _⟩ := HL3.out.six
  go_wp2_with fail
  refine hC.mono ?_
  rintro e w4 ⟨rfl, hb⟩
  clear hC z0 z1 z2 z3 z4 z5
  have HB4 := Lib.hid (below_more HB3.out hb)
  have HL4 := Lib.hid (HL3.out.below hb HL3.out.lt)
  have HW4 := Lib.hid (HW3.out.below hb HW3.out.lt)
  clear hb
  go_upto_region 10 with (fail)
  have hw3 : w4.cell? ⟨w.heap.size + 1, 3, none⟩ = some (.int .i64 q.now) := HW4.out.cell 3
  have hw4 : w4.cell? ⟨w.heap.size + 1, 4, none⟩ = some (.int .i64 q.slack) := HW4.out.cell 4
  have j3 := cell_regrown hw3
  have j4 := cell_regrown hw4
  have cA : ∀ a b d os, Calls Tryd.prog 12 #[.int .i64 a, .int .i64 b] (grow (redrawn w4 d) os) fun e w2 => e = .returned (.int .i64 (Vq.add a b)) ∧ ∃ r : Regrown, w2 = grow (redrawn w4 r.d) r.os := fun a b d os => Calls.regrown_of ((refAdd_any a b _).mono fun e w' h => by obtain ⟨rfl, he⟩ := h; exact ⟨he, Below.refl _ _⟩)
  clear hw3 hw4
  refine wp_region_quiet_below (by kernel_rfl) (by kernel_rfl) ?_
  repeat (go_big_quiet_step (with_reducible exact cA _ _ _ _))
  refine wpQuiet_nil ?_
  intro w' hw'
  obtain ⟨⟨dq, osq⟩, hw''⟩ := hw'
  subst hw''
  have hfin := below_regrown w4 dq osq
  generalize hWq : grow (redrawn w4 dq) osq = w5 at hfin ⊢
  clear j3 j4 cA hWq
  have HB5 := Lib.hid (below_more HB4.out hfin)
  have HL5 := Lib.hid (HL4.out.below hfin HL4.out.lt)
  have HW5 := Lib.hid (HW4.out.below hfin HW4.out.lt)
  clear hfin
  by_cases h3 : Vq.add r3 q.slack ≤ Vq.add q.now 0
  · rw [decide_eq_true h3]
    have HE : Hid (CheckEnd CK w (.returned (.int .i64 103)) w5) := ⟨by rw [HCK.out, if_neg HFF.out, if_neg H1.out, if_neg H2.out, if_pos h3], HB5.out⟩
    clear h3
    go_wp2
    go_ret
    exact HE.out
  rw [decide_eq_false h3]
  have H3 := Lib.hid h3
  clear h3
  go_upto_region 12 with (fail)
  have hC := HC3.out w5 HB5.out
  obtain ⟨⟨z0, z1, z2, z3, z4, z5⟩, _⟩ := HL5.out.six
  go_wp2_with fail
  refine hC.mono ?_
  rintro e w6 ⟨rfl, hb⟩
  clear hC z0 z1 z2 z3 z4 z5
  have HB6 := Lib.hid (below_more HB5.out hb)
  have HL6 := Lib.hid (HL5.out.below hb HL5.out.lt)
  have HW6 := Lib.hid (HW5.out.below hb HW5.out.lt)
  clear hb
  have hC := HC4.out w6 HB6.out
  obtain ⟨⟨z0, z1, z2, z3, z4, z5⟩, _⟩ := HL6.out.six
  go_wp2_with fail
  refine hC.mono ?_
  rintro e w7 ⟨rfl, hb⟩
  clear hC z0 z1 z2 z3 z4 z5
  have HB7 := Lib.hid (below_more HB6.out hb)
  have HL7 := Lib.hid (HL6.out.below hb HL6.out.lt)
  have HW7 := Lib.hid (HW6.out.below hb HW6.out.lt)
  clear hb
  have hw3 : w7.cell? ⟨w.heap.size + 1, 3, none⟩ = some (.int .i64 q.now) := HW7.out.cell 3
  have hw4 : w7.cell? ⟨w.heap.size + 1, 4, none⟩ = some (.int .i64 q.slack) := HW7.out.cell 4
  go_wp2_with fail
  refine (HAL.out _).mono ?_
  rintro e w8 ⟨rfl, rfl⟩
  clear hw3 hw4
  go_upto_region 15 with (fail)
  obtain ⟨EA, eEA⟩ : ∃ b, (decide (L < P4) || (b4 && decide (L < P5))) = b := ⟨_, rfl⟩
  have HEA := Lib.hid eEA
  clear eEA
  go_cut [79] (fun v wx => v = .bool EA ∧ wx = w7)
  case first =>
    go_wp2_with fail
    refine (HA4.out _).mono ?_
    rintro e w8 ⟨rfl, rfl⟩
    by_cases h4 : L < P4
    · have d := decide_eq_true h4
      have HX : Hid (true = EA) := by unfold Hid; rw [← HEA.out, d]; rfl
      clear h4
      go_wp2_with fail
      go_meet
      exact ⟨congrArg Value.bool HX.out, rfl⟩
    have d := decide_eq_false h4
    clear h4
    cases b4 with
    | false =>
      have HX : Hid (false = EA) := by unfold Hid; rw [← HEA.out, d]; rfl
      go_wp2_with fail
      go_meet
      exact ⟨congrArg Value.bool HX.out, rfl⟩
    | true =>
      have HX : Hid (decide (L < P5) = EA) := by unfold Hid; rw [← HEA.out, d]; rfl
      go_wp2_with fail
      refine (HA5.out _).mono ?_
      rintro e w8 ⟨rfl, rfl⟩
      go_wp2_with fail
      go_meet
      exact ⟨congrArg Value.bool HX.out, rfl⟩
  case rest =>
    obtain ⟨e79, ewc⟩ := hcut
    subst e79
    rw [ewc]
    clear ewc
    cases EA with
    | true =>
      have HX : Hid (L < P4 ∨ (b4 = true ∧ L < P5)) := by unfold Hid; have := HEA.out; simpa using this
      have HE : Hid (CheckEnd CK w (.returned (.int .i64 104)) w7) := ⟨by rw [HCK.out, if_neg HFF.out, if_neg H1.out, if_neg H2.out, if_neg (show ¬ (Vq.add r3 q.slack ≤ Vq.add q.now 0) by have := H3.out; omega), if_pos HX.out], HB7.out⟩
      go_wp2
      go_ret
      exact HE.out
    | false =>
    have HX : Hid (¬ (L < P4 ∨ (b4 = true ∧ L < P5))) := by
      have := HEA.out
      unfold Hid
      intro h
      rcases h with h | ⟨h, h'⟩
      · rw [decide_eq_true h] at this; simp at this
      · rw [h, decide_eq_true h'] at this; simp at this
    have HCK2 : Hid (CK = if q.nonce ≠ [] ∧ tn ≠ q.nonce then 105 else 0) := by
      unfold Hid
      rw [HCK.out, if_neg HFF.out, if_neg H1.out, if_neg H2.out, if_neg (show ¬ (Vq.add r3 q.slack ≤ Vq.add q.now 0) by have := H3.out; omega), if_neg HX.out]
    clear HCK HX HEA H1 H2 H3 HFF
    go_upto_region 17 with (fail)
    have hC := HC5.out w7 HB7.out
    obtain ⟨⟨z0, z1, z2, z3, z4, z5⟩, _⟩ := HL7.out.six
    go_wp2_with fail
    refine hC.mono ?_
    rintro e w9 ⟨rfl, hb⟩
    clear hC z0 z1 z2 z3 z4 z5
    have HB9 := Lib.hid (below_more HB7.out hb)
    have hw2 : w9.cell? ⟨w.heap.size + 1, 2, none⟩ = some (.string (strOf q.nonce)) := (HW7.out.below hb HW7.out.lt).cell 2
    clear hb
    by_cases h5 : q.nonce = []
    · have HE : Hid (CheckEnd CK w (.returned (.int .i64 0)) w9) := ⟨by rw [HCK2.out, if_neg (fun h => h.1 h5)], HB9.out⟩
      rw [h5] at hw2
      rw [show strOf [] = ByteArray.empty from rfl] at hw2
      clear h5
      go_wp2
      go_ret
      exact HE.out
    have he := HNE.out
    rw [show q.nonce.isEmpty = false by cases hc : q.nonce with | nil => exact absurd hc h5 | cons a r => rfl] at he
    have he2 : (strOf q.nonce).toList ≠ [] := fun h => by rw [h] at he; cases he
    by_cases h6 : tn = q.nonce
    · have d := HE2.out
      rw [decide_eq_true h6] at d
      have HE : Hid (CheckEnd CK w (.returned (.int .i64 0)) w9) := ⟨by rw [HCK2.out, if_neg (fun h => h.2 h6)], HB9.out⟩
      clear h5 h6
      go_wp2
      go_ret
      exact HE.out
    · have d := HE2.out
      rw [decide_eq_false h6] at d
      have HE : Hid (CheckEnd CK w (.returned (.int .i64 105)) w9) := ⟨by rw [HCK2.out, if_pos ⟨h5, h6⟩], HB9.out⟩
      clear h5 h6
      go_wp2
      go_ret
      exact HE.out
end Go.Proofs.YtoocejcoaojaiaaDoor
