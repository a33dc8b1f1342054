/-
  The document's Parse.
-/
import Derived.Test.YtndkangfnojpoaaGreatDoorJRValue
import Derived.Test.YtndkangfnojpoaaGreatDoorQK
namespace Go.Proofs.YtndkangfnojpoaaGreatDoor
open Go.RowKit

theorem parse_at {S : List Nat} (h : S.length ≤ 4096) : (∀ m, Jq.value 16 (S.drop 0) = .error m → Jq.parse S = .error m) ∧ (∀ x j, Jq.value 16 (S.drop 0) = .ok (x, S.drop j) → j ≤ S.length → (past S j < S.length → Jq.parse S = .error 51) ∧ (¬ past S j < S.length → Jq.parse S = .ok x)) := by
  rw [List.drop_zero]
  refine ⟨fun m hm => ?_, fun x j hx hj => ?_⟩
  · unfold Jq.parse
    rw [if_neg (by omega), hm]
  · have e : Jq.parse S = if Jq.skip (S.drop j) = [] then .ok x else .error 51 := by
      unfold Jq.parse
      rw [if_neg (by omega), hx]
    have hle := past_le S j
    rw [e, skip_drop]
    refine ⟨fun h => if_neg fun e => ?_, fun h => if_pos (List.drop_eq_nil_of_le (by omega))⟩
    have := congrArg List.length e
    rw [List.length_drop, List.length_nil] at this
    omega

set_option maxHeartbeats 2000000 in
set_option maxRecDepth 100000 in
theorem refParse_any (s : ByteArray) (w : World) : Calls Tryz.prog 10 #[.string s] w (ParseEndJ (numsOf s) w) := by
  have Hlen := Lib.hid (numsOf_length s)
  by_cases hs : s.size ≤ 4096
  rotate_left
  · have hd : decide ((4096 : Int) < (s.size : Int)) = true := decide_eq_true (by omega)
    have hp : Jq.parse (numsOf s) = .error 50 := by unfold Jq.parse; rw [if_pos (by rw [Hlen.out]; omega)]
    have HE : Hid (∀ o, ParseEndJ (numsOf s) w (.returned (.tuple #[jv 0 false 0 ByteArray.empty nilS nilS, .int .i64 50])) (w.alloc o)) := fun o => ⟨(Below.refl _ _).alloc (Nat.le_refl _) o, by rw [hp]; exact ⟨rfl, by decide⟩⟩
    clear hp hs
    go_enter Tryz.func10, Tryz.ntmps10
    go_wp2
    exact bodyPost_ret (by simp [results, Tryz.results10, go_sem]; rfl) rfl (HE.out _)
  have hd : decide ((4096 : Int) < (s.size : Int)) = false := decide_eq_false (by omega)
  obtain ⟨W0, eW0⟩ : ∃ W0, W0 = w.alloc (.cells zero6.toArray 25) := ⟨_, rfl⟩
  have hb0 : Below w.heap.size w W0 := by rw [eW0]; exact (Below.refl _ _).alloc (Nat.le_refl _) _
  have hl0 : Lies W0 w.heap.size 25 zero6 := by rw [eW0]; exact Lies.new_ rfl
  have hV := rvalue_all 16 (Nat.le_refl _) s 0 W0 (Nat.zero_le _) hs
  rw [show ((16 - 16 : Nat) : Int) = 0 from rfl, eW0] at hV
  obtain ⟨hErr, hOk⟩ := parse_at (S := numsOf s) (by rw [Hlen.out]; exact hs)
  have HERR := Lib.hid hErr
  have HOK := Lib.hid hOk
  have HW0 := Lib.hid eW0
  have HB0 := Lib.hid hb0
  have HL0 := Lib.hid hl0
  clear hErr hOk eW0 hb0 hl0
  go_enter Tryz.func10, Tryz.ntmps10
  go_wp2_with fail
  refine hV.mono ?_
  intro e w1 hh
  rw [← HW0.out] at hh
  clear hV
  rcases GotEnd.cases hh with ⟨x, r, X1, y1, X2, y2, j, he, rfl, hJ, hr, hj, hqj, hb1⟩ | ⟨m, he, hm, ⟨k0, b0, m0, t0, X1, n1, y1, X2, n2, y2, at0, rfl⟩, hb1⟩
  · have HB1 := Lib.hid hb1
    have HJ := Lib.hid hJ
    have hne : w.heap.size < w1.heap.size := (HL0.out.below hb1 HL0.out.lt).lt
    have hjs : j ≤ s.size := by rw [← Hlen.out]; exact hj
    subst hr
    have HO := Lib.hid (HOK.out x j he hj)
    clear hh he hJ hj hqj hb1
    repeat ((fail_if_success (with_reducible show wpList _ _ _ (⟨some 12, _, _, _, _, _⟩ :: _) _ _)); first | go_values | go_skip | go_guarded | go_step | go_upon | go_back | go_simp)
    generalize hW1 : World.alloc w1 _ = W1
    have hbW : Below W0.heap.size W0 W1 := by rw [← hW1]; exact below_alloc HB1.out _
    have hb1W : Below w1.heap.size w1 W1 := by rw [← hW1]; exact below_alloc (Below.refl _ _) _
    have hXs : Lies W1 w1.heap.size 49 [.int .i64 x.kind, .bool x.bool, .int .i64 x.int, .string (strOf x.text), .slice X1 x.names.length y1, .slice X2 x.list.length y2, .int .i64 j, .int .i64 0] := by rw [← hW1]; exact Lies.new_ rfl
    have hl1 := HL0.out.below hbW HL0.out.lt
    have hbw := below_more HB0.out hbW
    obtain ⟨⟨x0, x1, x2, x3, x4, x5, x6, x7⟩, _⟩ := hXs.eight
    obtain ⟨⟨u0, u1, u2, u3, u4, u5⟩, g0, g1, g2, g3, g4, g5⟩ := hl1.six

    have HJ1 := Lib.hid (HJ.out.on hb1W)
    have HBW := Lib.hid hbw
    have HL1 := Lib.hid hl1
    have hBl := blanks_any s j hjs (by omega) W1
    obtain ⟨p, ep⟩ : ∃ p, past (numsOf s) j = p := ⟨_, rfl⟩
    rw [ep] at hBl HO
    rw [Hlen.out] at HO
    clear hW1 hbW hb1W hXs hl1 hbw ep HB1 HJ
    by_cases hps : p < s.size
    · have hdp : decide ((p : Int) < (s.size : Int)) = true := decide_eq_true (by omega)
      have HE : Hid (ParseEndJ (numsOf s) w (.returned (.tuple #[jv 0 false 0 ByteArray.empty nilS nilS, .int .i64 51])) (put6 W1 w.heap.size (.int .i64 0) (.bool false) (.int .i64 0) (.string { data := #[] }) nilS nilS)) := ⟨gb_down (B := w.heap.size) (gb_trans (gb_below (r := some w.heap.size) (HBW.out)) gb_put6) (Nat.le_refl _) (Nat.le_refl _), by rw [HO.out.1 hps]; exact ⟨rfl, by decide⟩⟩
      have HZ := Lib.hid (HL1.out.put6 (a := .int .i64 0) (b := .bool false) (c := .int .i64 0) (d := .string { data := #[] }) (e := nilS) (f := nilS))
      go_wp2_with fail
      refine hBl.mono ?_
      rintro e w7 ⟨rfl, rfl⟩
      clear hBl
      go_wp2
      refine bodyPost_ret (v := .tuple #[jv 0 false 0 ByteArray.empty nilS nilS, .int .i64 51]) ?_ rfl ?_
      · have hz := HZ.out
        unfold put6 at hz
        generalize World.setCell (World.setCell (World.setCell (World.setCell (World.setCell (World.setCell W1 _ _) _ _) _ _) _ _) _ _) _ _ = w9 at hz ⊢
        obtain ⟨⟨z0, z1, z2, z3, z4, z5⟩, _⟩ := hz.six
        simp [results, Tryz.results10, go_sem, z0, z1, z2, z3, z4, z5] <;> rfl
      · exact HE.out
    · have hdp : decide ((p : Int) < (s.size : Int)) = false := decide_eq_false (by omega)
      have HE : Hid (ParseEndJ (numsOf s) w (.returned (.tuple #[jv x.kind x.bool x.int (strOf x.text) (.slice X1 x.names.length y1) (.slice X2 x.list.length y2), .int .i64 0])) (put6 W1 w.heap.size (.int .i64 x.kind) (.bool x.bool) (.int .i64 x.int) (.string (strOf x.text)) (.slice X1 x.names.length y1) (.slice X2 x.list.length y2))) := ⟨gb_down (B := w.heap.size) (gb_trans (gb_below (r := some w.heap.size) (HBW.out)) gb_put6) (Nat.le_refl _) (Nat.le_refl _), by
        rw [HO.out.2 hps]
        exact ⟨_, rfl, (HJ1.out.put6 HL0.out.lt).from (Nat.le_of_lt HL0.out.lt)⟩⟩
      have HZ := Lib.hid (HL1.out.put6 (a := .int .i64 x.kind) (b := .bool x.bool) (c := .int .i64 x.int) (d := .string (strOf x.text)) (e := .slice X1 x.names.length y1) (f := .slice X2 x.list.length y2))
      go_wp2_with fail
      refine hBl.mono ?_
      rintro e w7 ⟨rfl, rfl⟩
      clear hBl
      go_wp2
      refine bodyPost_ret (v := .tuple #[jv x.kind x.bool x.int (strOf x.text) (.slice X1 x.names.length y1) (.slice X2 x.list.length y2), .int .i64 0]) ?_ rfl ?_
      · have hz := HZ.out
        unfold put6 at hz
        generalize World.setCell (World.setCell (World.setCell (World.setCell (World.setCell (World.setCell W1 _ _) _ _) _ _) _ _) _ _) _ _ = w9 at hz ⊢
        obtain ⟨⟨z0, z1, z2, z3, z4, z5⟩, _⟩ := hz.six
        simp [results, Tryz.results10, go_sem, z0, z1, z2, z3, z4, z5] <;> rfl
      · exact HE.out
  · have HB1 := Lib.hid hb1
    have hne : w.heap.size < w1.heap.size := (HL0.out.below hb1 HL0.out.lt).lt
    have hdm : ((m : Int) != 0) = true := by rw [bne_iff_ne]; omega
    have HP := Lib.hid (HERR.out m he)
    have HM := Lib.hid hm
    clear hh he hb1 hm
    repeat ((fail_if_success (with_reducible show wpList _ _ _ (⟨some 12, _, _, _, _, _⟩ :: _) _ _)); first | go_values | go_skip | go_guarded | go_step | go_upon | go_back | go_simp)
    generalize hW1 : World.alloc w1 _ = W1
    have hbW : Below W0.heap.size W0 W1 := by rw [← hW1]; exact below_alloc HB1.out _
    have hb1W : Below w1.heap.size w1 W1 := by rw [← hW1]; exact below_alloc (Below.refl _ _) _
    have hXs : Lies W1 w1.heap.size 49 [.int .i64 k0, .bool b0, .int .i64 m0, .string t0, .slice X1 n1 y1, .slice X2 n2 y2, .int .i64 at0, .int .i64 m] := by rw [← hW1]; exact Lies.new_ rfl
    have hl1 := HL0.out.below hbW HL0.out.lt
    have hbw := below_more HB0.out hbW
    obtain ⟨⟨x0, x1, x2, x3, x4, x5, x6, x7⟩, _⟩ := hXs.eight
    obtain ⟨⟨u0, u1, u2, u3, u4, u5⟩, g0, g1, g2, g3, g4, g5⟩ := hl1.six

    have HBW := Lib.hid hbw
    have HL1 := Lib.hid hl1
    clear hW1 hbW hb1W hXs hl1 hbw HB1
    have HE : Hid (ParseEndJ (numsOf s) w (.returned (.tuple #[jv 0 false 0 ByteArray.empty nilS nilS, .int .i64 m])) (put6 W1 w.heap.size (.int .i64 0) (.bool false) (.int .i64 0) (.string { data := #[] }) nilS nilS).drew) := ⟨(gb_down (B := w.heap.size) (gb_trans (gb_below (r := some w.heap.size) (HBW.out)) gb_put6) (Nat.le_refl _) (Nat.le_refl _)).drew, by rw [HP.out]; exact ⟨rfl, HM.out⟩⟩
    have HZ : Hid (Lies (put6 W1 w.heap.size (.int .i64 0) (.bool false) (.int .i64 0) (.string { data := #[] }) nilS nilS).drew w.heap.size 25 [.int .i64 0, .bool false, .int .i64 0, .string { data := #[] }, nilS, nilS]) := (HL1.out.put6).drew
    go_upto_region 5 with (fail)
    go_region_law (fail)
    all_goals
      go_wp2
      refine bodyPost_ret (v := .tuple #[jv 0 false 0 ByteArray.empty nilS nilS, .int .i64 m]) ?_ rfl ?_
      · have hz := HZ.out
        unfold put6 at hz
        generalize World.drew _ = w9 at hz ⊢
        obtain ⟨⟨z0, z1, z2, z3, z4, z5⟩, _⟩ := hz.six
        simp [results, Tryz.results10, go_sem, z0, z1, z2, z3, z4, z5] <;> rfl
      · exact HE.out
end Go.Proofs.YtndkangfnojpoaaGreatDoor
