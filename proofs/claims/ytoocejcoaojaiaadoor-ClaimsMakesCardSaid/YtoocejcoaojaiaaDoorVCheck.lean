/-
  Check: whether a token's claims hold.
-/
import Derived.Test.YtoocejcoaojaiaaDoorVRead
import Derived.Test.YtoocejcoaojaiaaDoorVOwnSt
namespace Go.Proofs.YtoocejcoaojaiaaDoor
open Go.RowKit Go.Sort

theorem getP_mem {x y : Jq.J} {t : List Nat} (h : getP x t = some y) : y ∈ x.list := by
  unfold getP at h
  split at h
  · split at h
    · exact List.mem_of_getElem? h
    · cases h
  · cases h
theorem IsJ.member {w : World} {ok : Nat → Prop} {v : Value} {x y : Jq.J} (h : IsJ w ok v x) (hy : y ∈ x.list) : ∃ u, IsJ w ok u y := by
  obtain ⟨_, _, _, _, _, _, _, _, _, vs, _, hvs, _, hel⟩ := h.parts
  obtain ⟨i, hi, e⟩ := List.getElem_of_mem hy
  exact ⟨vs[i]'(by omega), hel i _ _ (List.getElem?_eq_getElem (by omega)) (by rw [List.getElem?_eq_getElem hi, e])⟩
theorem textOf_ok {w : World} {ok : Nat → Prop} {v : Value} {x : Jq.J} (h : IsJ w ok v x) (n : List Nat) : TextOk ((Vq.textOf x n).getD []) := by
  unfold Vq.textOf
  split
  · rename_i y hy
    split
    · obtain ⟨u, hu⟩ := h.member (getP_mem hy)
      obtain ⟨_, _, _, _, _, ht, _⟩ := hu.parts
      exact ht
    · exact ⟨Nat.zero_le _, fun _ h => nomatch h⟩
  · exact ⟨Nat.zero_le _, fun _ h => nomatch h⟩
theorem start_any (s0 s1 s2 : ByteArray) (a b c : Int) (w : World) : Calls Tryd.prog 27 #[.agg #[.string s0, .string s1, .string s2, .int .i64 a, .int .i64 b, .int .i64 c]] w fun e w' => e = .returned (.int .i64 (max b c)) ∧ Below w.heap.size w w' := by
  have HM : Hid (∀ r : Int, (r = if b < c then c else b) ∨ r = max b c → r = max b c) := fun r h => by omega
  have HB : Hid (∀ o, Below w.heap.size w (w.alloc o)) := fun o => one_alloc w o
  go_enter Tryd.func27, Tryd.ntmps27
  go_wp2
  go_ret
  refine ⟨congrArg (fun r => Ending.returned (.int .i64 r)) (HM.out _ ?_), HB.out _⟩
  first | exact .inl rfl | exact .inr rfl | (trace_state; fail)
/-- How Check ends. -/
def CheckEnd (n : Int) (w : World) (e : Ending) (w' : World) : Prop := e = .returned (.int .i64 n) ∧ Below w.heap.size w w'

set_option maxHeartbeats 1000000 in
set_option maxRecDepth 100000 in
theorem check_any {ok : Nat → Prop} {q : Vq.Want} (x : Jq.J) (v : Value) (w : World) (hq : WantOk q) (hJ : IsJ w ok v x) : Calls Tryd.prog 13 #[v, wantv q] w (CheckEnd (Vq.check x q) w) := by
  have e0 := str_beq (textOf_ok hJ Vq.issN).2 hq.1.2
  have e1 := str_beq (textOf_ok hJ Vq.audN).2 hq.2.1.2
  have e2 := str_beq (textOf_ok hJ Vq.nonceN).2 hq.2.2.1.2
  obtain ⟨A1, c1, A2, c2, rfl⟩ := hJ.form
  obtain ⟨W0, eW0⟩ : ∃ W0, W0 = (w.alloc (.cells #[.int .i64 x.kind, .bool x.bool, .int .i64 x.int, .string (strOf x.text), .slice A1 x.names.length c1, .slice A2 x.list.length c2] 28)).alloc (.cells #[.string (strOf q.issuer), .string (strOf q.aud), .string (strOf q.nonce), .int .i64 q.now, .int .i64 q.slack] 30) := ⟨_, rfl⟩
  have hb0 : Below w.heap.size w W0 := by rw [eW0]; exact (one_alloc _ _).alloc (by simp) _
  have hl0 : Lies W0 (w.heap.size + 1) 30 (wcells q) := by rw [eW0]; exact Lies.new_ (by simp)
  have hR := read_any x _ W0 (hJ.on hb0)
  obtain ⟨⟨z0, z1, z2, z3, z4, z5⟩, _⟩ : _ ∧ _ := (show Lies W0 w.heap.size 28 [.int .i64 x.kind, .bool x.bool, .int .i64 x.int, .string (strOf x.text), .slice A1 x.names.length c1, .slice A2 x.list.length c2] by rw [eW0]; exact (Lies.new_ rfl).alloc _).six
  have hck : Vq.check x q = (if ¬ Vq.Formed x then 100 else if (Vq.textOf x Vq.issN).getD [] ≠ q.issuer then 101 else if (Vq.textOf x Vq.audN).getD [] ≠ q.aud then 102
    else if Vq.add ((Vq.intOf x Vq.expN).getD 0) q.slack ≤ Vq.add q.now 0 then 103 else if Vq.add q.now q.slack < Vq.add (max ((Vq.intOf x Vq.iatN).getD 0) ((Vq.intOf x Vq.nbfN).getD 0)) 0 then 104
    else if q.nonce ≠ [] ∧ (Vq.textOf x Vq.nonceN).getD [] ≠ q.nonce then 105 else 0) := by
    unfold Vq.check
    have := Vq.early_iff x q
    by_cases he : Vq.Early x q
    · have he' := this.1 he
      simp only [he, he', if_true]
    · have he' : ¬ (Vq.add q.now q.slack < Vq.add (max ((Vq.intOf x Vq.iatN).getD 0) ((Vq.intOf x Vq.nbfN).getD 0)) 0) := fun h => he (this.2 h)
      simp only [he, he', if_false]
  have hne := empty_text q.nonce
  have hRE : ∀ (e : Ending) (w' : World), ReadEnd x W0 e w' → Below W0.heap.size W0 w' ∧
      ((Vq.Formed x ∧ e = .returned (.tuple #[.agg #[.string (strOf ((Vq.textOf x Vq.issN).getD [])), .string (strOf ((Vq.textOf x Vq.audN).getD [])), .string (strOf ((Vq.textOf x Vq.nonceN).getD [])), .int .i64 ((Vq.intOf x Vq.expN).getD 0), .int .i64 ((Vq.intOf x Vq.iatN).getD 0), .int .i64 ((Vq.intOf x Vq.nbfN).getD 0)], .bool true])) ∨
        (¬ Vq.Formed x ∧ e = .returned (.tuple #[.agg said0.toArray, .bool false]))) := fun _ _ h => h
  obtain ⟨ti, eti⟩ : ∃ t, (Vq.textOf x Vq.issN).getD [] = t := ⟨_, rfl⟩
  obtain ⟨ta, eta⟩ : ∃ t, (Vq.textOf x Vq.audN).getD [] = t := ⟨_, rfl⟩
  obtain ⟨tn, etn⟩ : ∃ t, (Vq.textOf x Vq.nonceN).getD [] = t := ⟨_, rfl⟩
  obtain ⟨r3, er3⟩ : ∃ r, (Vq.intOf x Vq.expN).getD 0 = r := ⟨_, rfl⟩
  obtain ⟨r4, er4⟩ : ∃ r, (Vq.intOf x Vq.iatN).getD 0 = r := ⟨_, rfl⟩
  obtain ⟨r5, er5⟩ : ∃ r, (Vq.intOf x Vq.nbfN).getD 0 = r := ⟨_, rfl⟩
  obtain ⟨F, eF⟩ : ∃ F, Vq.Formed x = F := ⟨_, rfl⟩
  simp only [eti, eta, etn, er3, er4, er5] at hRE hck e0 e1 e2
  simp only [eF] at hRE
  obtain ⟨CK, eCK⟩ : ∃ n, Vq.check x q = n := ⟨_, rfl⟩
  rw [eCK] at hck ⊢
  have HF := Lib.hid eF
  have HRE := Lib.hid hRE
  have HCK := Lib.hid hck
  have HB0 := Lib.hid hb0
  have HL0 := Lib.hid hl0
  have HE0 := Lib.hid e0
  have HE1 := Lib.hid e1
  have HE2 := Lib.hid e2
  have HNE := Lib.hid hne
  rw [eW0] at hR z0 z1 z2 z3 z4 z5
  have HW0 := Lib.hid eW0
  clear hRE hck hb0 hl0 e0 e1 e2 hne eti eta etn er3 er4 er5 eF eCK eW0 hJ hq
  go_enter Tryd.func13, Tryd.ntmps13
  go_wp2_with fail
  refine hR.mono ?_
  intro e w1 hh
  clear hR z0 z1 z2 z3 z4 z5
  rw [← HW0.out] at hh
  obtain ⟨hb1, hh⟩ := HRE.out _ _ hh
  have hbw := below_more HB0.out hb1
  rcases hh with ⟨hf, rfl⟩ | ⟨hf, rfl⟩
  rotate_left
  · have HE : Hid (∀ W, Below w.heap.size w W → CheckEnd CK w (.returned (.int .i64 100)) W) := fun W hb => ⟨by rw [HCK.out, if_pos (by rw [HF.out]; exact hf)], hb⟩
    have hb2 := below_alloc hbw (.cells #[.string { data := #[] }, .string { data := #[] }, .string { data := #[] }, .int .i64 0, .int .i64 0, .int .i64 0] 52)
    clear hf hb1 hbw
    go_wp2
    go_ret
    exact HE.out _ hb2
  obtain ⟨W1, eW1⟩ : ∃ W1, W1 = w1.alloc (.cells #[.string (strOf ti), .string (strOf ta), .string (strOf tn), .int .i64 r3, .int .i64 r4, .int .i64 r5] 52) := ⟨_, rfl⟩
  have hb2 : Below w1.heap.size w1 W1 := by rw [eW1]; exact one_alloc _ _
  have hs1 : Lies W1 w1.heap.size 52 [.string (strOf ti), .string (strOf ta), .string (strOf tn), .int .i64 r3, .int .i64 r4, .int .i64 r5] := by rw [eW1]; exact Lies.new_ rfl
  have hl1 := (HL0.out.below hb1 HL0.out.lt).below hb2 (HL0.out.below hb1 HL0.out.lt).lt
  have HB1 := Lib.hid (below_more hbw hb2)
  have HL1 := Lib.hid hl1
  have HS1 := Lib.hid hs1
  have HFF : Hid (¬ ¬ Vq.Formed x) := by unfold Hid; rw [HF.out]; exact fun h => h hf
  have hw0 : W1.cell? ⟨w.heap.size + 1, 0, none⟩ = some (.string (strOf q.issuer)) := hl1.cell 0
  have hw1 : W1.cell? ⟨w.heap.size + 1, 1, none⟩ = some (.string (strOf q.aud)) := hl1.cell 1
  have hw2 : W1.cell? ⟨w.heap.size + 1, 2, none⟩ = some (.string (strOf q.nonce)) := hl1.cell 2
  have hw3 : W1.cell? ⟨w.heap.size + 1, 3, none⟩ = some (.int .i64 q.now) := hl1.cell 3
  have hw4 : W1.cell? ⟨w.heap.size + 1, 4, none⟩ = some (.int .i64 q.slack) := hl1.cell 4
  obtain ⟨⟨y0, y1, y2, y3, y4, y5⟩, _⟩ := hs1.six
  have HW1 := Lib.hid eW1
  clear hf hb1 hbw hb2 hs1 hl1 eW1
  go_upto_region 4 with (fail)
  rw [← HW1.out]
  by_cases h1 : ti = q.issuer
  rotate_left
  · have d := HE0.out
    rw [decide_eq_false h1] at d
    have HE : Hid (CheckEnd CK w (.returned (.int .i64 101)) W1) := ⟨by rw [HCK.out, if_neg HFF.out, if_pos h1], HB1.out⟩
    clear h1
    go_wp2
    go_ret
    exact HE.out
  have d0 := HE0.out
  rw [decide_eq_true h1] at d0
  have H1 : Hid (¬ (ti ≠ q.issuer)) := fun h => h h1
  by_cases h2 : ta = q.aud
  rotate_left
  · have d := HE1.out
    rw [decide_eq_false h2] at d
    have HE : Hid (CheckEnd CK w (.returned (.int .i64 102)) W1) := ⟨by rw [HCK.out, if_neg HFF.out, if_neg H1.out, if_pos h2], HB1.out⟩
    clear h1 h2
    go_wp2
    go_ret
    exact HE.out
  have d1 := HE1.out
  rw [decide_eq_true h2] at d1
  have H2 : Hid (¬ (ta ≠ q.aud)) := fun h => h h2
  clear h1 h2
  go_upto_region 8 with (fail)
  clear d0 d1
  have k3 := cell_regrown y3
  have j3 := cell_regrown hw3
  have j4 := cell_regrown hw4
  have cA : ∀ a b d os, Calls Tryd.prog 11 #[.int .i64 a, .int .i64 b] (grow (redrawn W1 d) os) fun e w2 => e = .returned (.int .i64 (Vq.add a b)) ∧ ∃ r : Regrown, w2 = grow (redrawn W1 r.d) r.os := fun a b d os => Calls.regrown_of ((cadd_any a b _).mono fun e w' h => by obtain ⟨rfl, he⟩ := h; exact ⟨he, Below.refl _ _⟩)
  clear y0 y1 y2 y3 y4 y5 hw0 hw1 hw2 hw3 hw4
  refine wp_region_quiet_below (by kernel_rfl) (by kernel_rfl) ?_
  repeat (go_big_quiet_step (with_reducible exact cA _ _ _ _))
  refine wpQuiet_nil ?_
  intro w' hw'
  obtain ⟨⟨dq, osq⟩, hw''⟩ := hw'
  subst hw''
  have hfin := below_regrown W1 dq osq
  generalize hWq : grow (redrawn W1 dq) osq = W2 at hfin ⊢
  clear k3 j3 j4 cA hWq
  have HB2 := Lib.hid (below_more HB1.out hfin)
  have HL2 := Lib.hid (HL1.out.below hfin HL1.out.lt)
  have HS2 := Lib.hid (HS1.out.below hfin HS1.out.lt)
  clear hfin
  by_cases h3 : Vq.add r3 q.slack ≤ Vq.add q.now 0
  · rw [decide_eq_true h3]
    have HE : Hid (CheckEnd CK w (.returned (.int .i64 103)) W2) := ⟨by rw [HCK.out, if_neg HFF.out, if_neg H1.out, if_neg H2.out, if_pos h3], HB2.out⟩
    clear h3
    go_wp2
    go_ret
    exact HE.out
  rw [decide_eq_false h3]
  have H3 := Lib.hid h3
  clear h3
  go_upto_region 10 with (fail)
  obtain ⟨⟨y0, y1, y2, y3, y4, y5⟩, _⟩ := HS2.out.six
  have hw3 : W2.cell? ⟨w.heap.size + 1, 3, none⟩ = some (.int .i64 q.now) := HL2.out.cell 3
  have hw4 : W2.cell? ⟨w.heap.size + 1, 4, none⟩ = some (.int .i64 q.slack) := HL2.out.cell 4
  have k0 := cell_regrown y0
  have k1 := cell_regrown y1
  have k2 := cell_regrown y2
  have k3 := cell_regrown y3
  have k4 := cell_regrown y4
  have k5 := cell_regrown y5
  have j3 := cell_regrown hw3
  have j4 := cell_regrown hw4
  have cA : ∀ a b d os, Calls Tryd.prog 11 #[.int .i64 a, .int .i64 b] (grow (redrawn W2 d) os) fun e w2 => e = .returned (.int .i64 (Vq.add a b)) ∧ ∃ r : Regrown, w2 = grow (redrawn W2 r.d) r.os := fun a b d os => Calls.regrown_of ((cadd_any a b _).mono fun e w' h => by obtain ⟨rfl, he⟩ := h; exact ⟨he, Below.refl _ _⟩)
  have cS : ∀ d os, Calls Tryd.prog 27 #[.agg #[.string (strOf ti), .string (strOf ta), .string (strOf tn), .int .i64 r3, .int .i64 r4, .int .i64 r5]] (grow (redrawn W2 d) os) fun e w2 => e = .returned (.int .i64 (max r4 r5)) ∧ ∃ r : Regrown, w2 = grow (redrawn W2 r.d) r.os := fun d os => Calls.regrown_of (start_any _ _ _ _ _ _ _)
  clear y0 y1 y2 y3 y4 y5 hw3 hw4
  refine wp_region_quiet_below (by kernel_rfl) (by kernel_rfl) ?_
  repeat (go_big_quiet_step (first | with_reducible exact cS _ _ | with_reducible exact cA _ _ _ _))
  refine wpQuiet_nil ?_
  intro w' hw'
  obtain ⟨⟨dq, osq⟩, hw''⟩ := hw'
  subst hw''
  have hfin := below_regrown W2 dq osq
  generalize hWq : grow (redrawn W2 dq) osq = W3 at hfin ⊢
  clear k0 k1 k2 k3 k4 k5 j3 j4 cA cS hWq
  have HB3 := Lib.hid (below_more HB2.out hfin)
  have HL3 := Lib.hid (HL2.out.below hfin HL2.out.lt)
  have HS3 := Lib.hid (HS2.out.below hfin HS2.out.lt)
  clear hfin
  by_cases h4 : Vq.add q.now q.slack < Vq.add (max r4 r5) 0
  · rw [decide_eq_true h4]
    have HE : Hid (CheckEnd CK w (.returned (.int .i64 104)) W3) := ⟨by rw [HCK.out, if_neg HFF.out, if_neg H1.out, if_neg H2.out, if_neg H3.out, if_pos h4], HB3.out⟩
    clear h4
    go_wp2
    go_ret
    exact HE.out
  rw [decide_eq_false h4]
  have H4 := Lib.hid h4
  clear h4
  go_upto_region 12 with (fail)
  have hw2 : W3.cell? ⟨w.heap.size + 1, 2, none⟩ = some (.string (strOf q.nonce)) := HL3.out.cell 2
  obtain ⟨⟨_, _, y2, _, _, _⟩, _⟩ := HS3.out.six
  by_cases h5 : q.nonce = []
  · have HE : Hid (CheckEnd CK w (.returned (.int .i64 0)) W3) := ⟨by rw [HCK.out, if_neg HFF.out, if_neg H1.out, if_neg H2.out, if_neg H3.out, if_neg H4.out, if_neg (fun h => h.1 h5)], HB3.out⟩
    rw [h5] at hw2
    rw [show strOf [] = ByteArray.empty from rfl] at hw2
    clear h5
    go_wp2
    go_ret
    exact HE.out
  have he := HNE.out
  rw [show q.nonce.isEmpty = false by cases hc : q.nonce with | nil => exact absurd hc h5 | cons a r => rfl] at he
  have he2 : (strOf q.nonce).toList ≠ [] := fun h => by rw [h] at he; cases he
  by_cases h6 : tn = q.nonce
  · have d := HE2.out
    rw [decide_eq_true h6] at d
    have HE : Hid (CheckEnd CK w (.returned (.int .i64 0)) W3) := ⟨by rw [HCK.out, if_neg HFF.out, if_neg H1.out, if_neg H2.out, if_neg H3.out, if_neg H4.out, if_neg (fun h => h.2 h6)], HB3.out⟩
    clear h5 h6
    go_wp2
    go_ret
    exact HE.out
  · have d := HE2.out
    rw [decide_eq_false h6] at d
    have HE : Hid (CheckEnd CK w (.returned (.int .i64 105)) W3) := ⟨by rw [HCK.out, if_neg HFF.out, if_neg H1.out, if_neg H2.out, if_neg H3.out, if_neg H4.out, if_pos ⟨h5, h6⟩], HB3.out⟩
    clear h5 h6
    go_wp2
    go_ret
    exact HE.out
end Go.Proofs.YtoocejcoaojaiaaDoor
