/-
  claim: a claim of one of the types that an expression may have.
-/
import Derived.Test.YtnbaajdcakjlmaaDoorMA
import Derived.Test.YtnbaajdcakjlmaaDoorQJ
namespace Go.Proofs.YtnbaajdcakjlmaaDoor
open Go.RowKit

/-- What is left of a claim when the types below t are tried. -/
def Tried (x : Jq.J) (t : Nat) : Prop := ∀ j : Nat, 1 ≤ j → j < t → ¬ Tq.fitsP x (j : Int)
theorem Tried.one (x : Jq.J) : Tried x 1 := fun j h1 h2 => by omega
theorem Tried.succ {x : Jq.J} {t : Nat} (h : Tried x t) (hn : ¬ Tq.fitsP x (t : Int)) : Tried x (t + 1) := fun j h1 h2 => by
  rcases Nat.lt_or_ge j t with h' | h'
  · exact h j h1 h'
  · obtain rfl : j = t := by omega
    exact hn
theorem Tried.none {x : Jq.J} (h : Tried x 5) : ¬ Mq.Fit x := by
  rintro (g | g | g | g)
  · exact h 1 (by omega) (by omega) g
  · exact h 2 (by omega) (by omega) g
  · exact h 3 (by omega) (by omega) g
  · exact h 4 (by omega) (by omega) g
theorem fit_at {x : Jq.J} {t : Nat} (h1 : 1 ≤ t) (h2 : t ≤ 4) (h : Tq.fitsP x (t : Int)) : Mq.Fit x := Mq.fit_of ⟨by omega, by omega⟩ h
theorem null_unfit : ¬ Mq.Fit Jq.nullJ := by
  rintro (g | g | g | g) <;> rcases g with ⟨_, g⟩ | ⟨_, g⟩ | ⟨_, g⟩ | ⟨_, g, _⟩ <;> exact absurd g (by decide)
/-- The claim's value, whether it is there or not. -/
def claimX (v : Jq.J) (s : List Nat) : Jq.J := (getP v s).getD Jq.nullJ
theorem claimX_fit {v : Jq.J} {s : List Nat} (h : Mq.Fit (claimX v s)) : Mq.claimV v s = claimX v s := by
  unfold claimX at h ⊢
  unfold Mq.claimV
  cases hg : getP v s with
  | none => rw [hg] at h; exact absurd h null_unfit
  | some x => rw [hg] at h; exact if_pos h
theorem claimX_not {v : Jq.J} {s : List Nat} (h : ¬ Mq.Fit (claimX v s)) : Mq.claimV v s = Jq.nullJ := by
  unfold claimX at h
  unfold Mq.claimV
  cases hg : getP v s with
  | none => rfl
  | some x => rw [hg] at h; exact if_neg h
/-- json.Get, as a value that may be null. -/
theorem getX_any {ok : Nat → Prop} (x : Jq.J) (v : Value) (t : List Nat) (ht : ∀ y ∈ t, y < 256) (w : World) (hJ : IsJ w ok v x) :
    Calls Tryd.prog 38 #[v, .string (strOf t)] w fun e w' => ∃ A1 c1 A2 c2 B, e = .returned (.tuple #[jv (claimX x t).kind (claimX x t).bool (claimX x t).int (strOf (claimX x t).text) (.slice A1 (claimX x t).names.length c1) (.slice A2 (claimX x t).list.length c2), .bool B]) ∧ IsJ w' (w.heap.size ≤ ·) (jv (claimX x t).kind (claimX x t).bool (claimX x t).int (strOf (claimX x t).text) (.slice A1 (claimX x t).names.length c1) (.slice A2 (claimX x t).list.length c2)) (claimX x t) ∧ Below w.heap.size w w' := by
  refine (get_any x v t ht w hJ).mono ?_
  rintro e w' ⟨hb, h⟩
  unfold claimX
  cases hg : getP x t with
  | none =>
    rw [hg] at h
    exact ⟨none, 0, none, 0, false, h, isJ_null _ _, hb⟩
  | some y =>
    rw [hg] at h
    obtain ⟨u, rfl, hu⟩ := h
    obtain ⟨A1, c1, A2, c2, rfl⟩ := hu.form
    exact ⟨A1, c1, A2, c2, true, rfl, hu, hb⟩

set_option maxHeartbeats 4000000 in
set_option maxRecDepth 100000 in
theorem claimM_any {ok : Nat → Prop} (v : Jq.J) (A1 A2 : Option Addr) (c1 c2 : Nat) (s : List Nat) (hs : ∀ y ∈ s, y < 256) (w : World) (hJ : IsJ w ok (jv v.kind v.bool v.int (strOf v.text) (.slice A1 v.names.length c1) (.slice A2 v.list.length c2)) v) :
    Calls Tryd.prog 30 #[jv v.kind v.bool v.int (strOf v.text) (.slice A1 v.names.length c1) (.slice A2 v.list.length c2), .string (strOf s)] w (ValE (w.heap.size ≤ ·) (Mq.claimV v s) w) := by
  obtain ⟨W, eW⟩ : ∃ W, W = (w.alloc (jbox v A1 c1 A2 c2)).alloc (.cells #[.int .i64 0, .bool false, .int .i64 0, .string ByteArray.empty, nilS, nilS] 27) := ⟨_, rfl⟩
  have hbW : Below w.heap.size w W := by rw [eW]; exact below_new2 _ _ _
  have hsW : W.heap.size = w.heap.size + 2 := by rw [eW]; simp
  have hl0 : Lies W (w.heap.size + 1) 27 zero6 := by rw [eW]; exact Lies.new_ (by simp)
  have hv0 : Lies W w.heap.size 27 [.int .i64 v.kind, .bool v.bool, .int .i64 v.int, .string (strOf v.text), .slice A1 v.names.length c1, .slice A2 v.list.length c2] := by rw [eW]; exact (Lies.new_ rfl).alloc _
  have hG := getX_any v _ s hs W (hJ.on hbW)
  obtain ⟨x, ex⟩ : ∃ x, claimX v s = x := ⟨_, rfl⟩
  obtain ⟨R, eR⟩ : ∃ R, Mq.claimV v s = R := ⟨_, rfl⟩
  have hfit : Mq.Fit x → R = x := by rw [← ex, ← eR]; exact claimX_fit
  have hnot : ¬ Mq.Fit x → R = Jq.nullJ := by rw [← ex, ← eR]; exact claimX_not
  rw [ex] at hG
  rw [eR]
  have HFIT := Lib.hid hfit
  have HNOT := Lib.hid hnot
  have HBW := Lib.hid hbW
  have HSW := Lib.hid hsW
  have HL0 := Lib.hid hl0
  have HW := Lib.hid eW
  rw [eW] at hG
  clear hJ ex eR hfit hnot hbW hsW hl0 eW hv0
  go_enter Tryd.func30, Tryd.ntmps30
  go_wp2_with fail
  refine hG.mono ?_
  rintro e w1 ⟨B1, d1, B2, d2, BB, rfl, hJ1, hb1⟩
  clear hG
  rw [← HW.out] at hb1 hJ1
  obtain ⟨W2, eW2⟩ : ∃ W2, W2 = w1.alloc (jbox x B1 d1 B2 d2) := ⟨_, rfl⟩
  have hb2 : Below w1.heap.size w1 W2 := by rw [eW2]; exact below_new _ _
  have hx2 : Lies W2 w1.heap.size 27 [.int .i64 x.kind, .bool x.bool, .int .i64 x.int, .string (strOf x.text), .slice B1 x.names.length d1, .slice B2 x.list.length d2] := by rw [eW2]; exact Lies.new_ rfl
  have hl2 := (HL0.out.below hb1 HL0.out.lt).below hb2 (HL0.out.below hb1 HL0.out.lt).lt
  have hbw2 : Below w.heap.size w W2 := below_more (below_more HBW.out hb1) hb2
  have hJ2 := hJ1.on hb2
  have hsz1 : w.heap.size + 2 ≤ w1.heap.size := by have := HSW.out; have := hb1.size; omega
  have HX2 := Lib.hid hx2
  have HL2 := Lib.hid hl2
  have HB2 := Lib.hid hbw2
  have HJ2 := Lib.hid hJ2
  have HSZ := Lib.hid hsz1
  have HW2 := Lib.hid eW2
  clear hb1 hJ1 hb2 hx2 hl2 hbw2 hJ2 hsz1 eW2
  go_upto_region 2 with (fail)
  rw [← HW2.out]
  go_wp2_with fail
  go_loopw [7] (fun i wr => ∃ t : Nat, i = .int .i64 t ∧ 1 ≤ t ∧ t ≤ 5 ∧ Hid (Tried x t) ∧ Below W2.heap.size W2 wr) (fun i _ => 5 - (intOf i).toNat)
  case atStart => exact ⟨1, rfl, Nat.le_refl _, by omega, Lib.hid (Tried.one x), Below.refl _ _⟩
  case round =>
    obtain ⟨t, rfl, ht1, ht5, HT, hb⟩ := hrel
    have hlr := HL2.out.below hb HL2.out.lt
    obtain ⟨⟨z0, z1, z2, z3, z4, z5⟩, _⟩ := (HX2.out.below hb HX2.out.lt).six
    obtain ⟨⟨r0, r1, r2, r3, r4, r5⟩, g0, g1, g2, g3, g4, g5⟩ := hlr.six
    have HBR := Lib.hid hb
    by_cases hlt : t ≤ 4
    · obtain ⟨nv, lv, ef, _, _, _, _, _, _, hLx⟩ := (HJ2.out.on hb).parts
      injection ef with ef
      injection ef with ef
      have hF := fits_any x (t : Int) B1 B2 d1 d2 wr (by simp at ef; rw [ef.2]; exact hLx)
      have d4 : decide ((t : Int) ≤ 4) = true := decide_eq_true (by omega)
      have hwr : IntKind.i64.wrap ((t : Int) + 1) = ((t + 1 : Nat) : Int) := by unfold IntKind.wrap; simp [IntKind.bits, IntKind.signed]; omega
      clear hLx ef hb
      by_cases hfx : Tq.fitsP x (t : Int)
      · rw [decide_eq_true hfx] at hF
        have HR := Lib.hid (HFIT.out (fit_at ht1 hlt hfx))
        clear hfx
        go_wp2_with fail
        refine hF.mono ?_
        rintro e w3 ⟨hb3, rfl⟩
        clear hF z0 z1 z2 z3 z4 z5 r0 r1 r2 r3 r4 r5 g0 g1 g2 g3 g4 g5
        have hb23 := below_more HBR.out hb3
        have hl3 := HL2.out.below hb23 HL2.out.lt
        obtain ⟨⟨z0, z1, z2, z3, z4, z5⟩, _⟩ := (HX2.out.below hb23 HX2.out.lt).six
        obtain ⟨⟨r0, r1, r2, r3, r4, r5⟩, g0, g1, g2, g3, g4, g5⟩ := hl3.six
        have hlf : Lies (put6 w3 (w.heap.size + 1) (.int .i64 x.kind) (.bool x.bool) (.int .i64 x.int) (.string (strOf x.text)) (.slice B1 x.names.length d1) (.slice B2 x.list.length d2)) (w.heap.size + 1) 27 [.int .i64 x.kind, .bool x.bool, .int .i64 x.int, .string (strOf x.text), .slice B1 x.names.length d1, .slice B2 x.list.length d2] := hl3.put6
        obtain ⟨⟨q0, q1, q2, q3, q4, q5⟩, _⟩ := hlf.six
        have hbf : Below w.heap.size w (put6 w3 (w.heap.size + 1) (.int .i64 x.kind) (.bool x.bool) (.int .i64 x.int) (.string (strOf x.text)) (.slice B1 x.names.length d1) (.slice B2 x.list.length d2)) := (below_more HB2.out hb23).trans (gb_down gb_put6 (below_more HB2.out hb23).size (Nat.le_succ _))
        have HQ : Hid (ValE (w.heap.size ≤ ·) R w (.returned (jv x.kind x.bool x.int (strOf x.text) (.slice B1 x.names.length d1) (.slice B2 x.list.length d2))) (put6 w3 (w.heap.size + 1) (.int .i64 x.kind) (.bool x.bool) (.int .i64 x.int) (.string (strOf x.text)) (.slice B1 x.names.length d1) (.slice B2 x.list.length d2))) := by
          refine ⟨_, rfl, ?_, hbf⟩
          rw [HR.out]
          have hJ3 := HJ2.out.on hb23
          have hs := HSW.out
          exact hJ3.keep (fun b hb _ => ⟨by have hb : _ ≤ b := hb; omega, put6_far (by have hb : _ ≤ b := hb; omega)⟩) (Nat.le_of_eq put6_size.symm)
        clear hb3 hb23 hl3 hlf hbf
        go_wp2
        exact bodyPost_ret (by simp [results, Tryd.results30, go_sem, q0, q1, q2, q3, q4, q5]) rfl HQ.out
      · rw [decide_eq_false hfx] at hF
        have HT2 := Lib.hid (HT.out.succ hfx)
        clear hfx
        go_wp2_with fail
        refine hF.mono ?_
        rintro e w3 ⟨hb3, rfl⟩
        have HQ : Hid (∃ t' : Nat, Value.int .i64 ((t + 1 : Nat) : Int) = .int .i64 t' ∧ 1 ≤ t' ∧ t' ≤ 5 ∧ Hid (Tried x t') ∧ Below W2.heap.size W2 w3) := ⟨t + 1, rfl, by omega, by omega, HT2, below_more HBR.out hb3⟩
        clear hF z0 z1 z2 z3 z4 z5 r0 r1 r2 r3 r4 r5 g0 g1 g2 g3 g4 g5 hb3 hlr
        go_wp2
        go_roundw
        case rel => exact HQ.out
        case measure => simp [intOf]; omega
    · obtain rfl : t = 5 := by omega
      have HR := Lib.hid (HNOT.out HT.out.none)
      have d4 : decide (((5 : Nat) : Int) ≤ 4) = false := by decide
      have hlf : Lies (put6 wr (w.heap.size + 1) (.int .i64 0) (.bool false) (.int .i64 0) (.string { data := #[] }) nilS nilS) (w.heap.size + 1) 27 [.int .i64 0, .bool false, .int .i64 0, .string { data := #[] }, nilS, nilS] := hlr.put6
      obtain ⟨⟨q0, q1, q2, q3, q4, q5⟩, _⟩ := hlf.six
      have hbf : Below w.heap.size w (put6 wr (w.heap.size + 1) (.int .i64 0) (.bool false) (.int .i64 0) (.string { data := #[] }) nilS nilS) := (below_more HB2.out hb).trans (gb_down gb_put6 (below_more HB2.out hb).size (Nat.le_succ _))
      have HQ : Hid (ValE (w.heap.size ≤ ·) R w (.returned (jv 0 false 0 { data := #[] } nilS nilS)) (put6 wr (w.heap.size + 1) (.int .i64 0) (.bool false) (.int .i64 0) (.string { data := #[] }) nilS nilS)) := ⟨_, rfl, by rw [HR.out]; exact isJ_null _ _, hbf⟩
      clear hb hlr hlf hbf z0 z1 z2 z3 z4 z5 hlt ht1 ht5
      go_wp2
      exact bodyPost_ret (by simp [results, Tryd.results30, go_sem, q0, q1, q2, q3, q4, q5]) rfl HQ.out
end Go.Proofs.YtnbaajdcakjlmaaDoor
