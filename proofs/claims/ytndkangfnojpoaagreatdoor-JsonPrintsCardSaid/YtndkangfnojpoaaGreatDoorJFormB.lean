/-
  The form of lists.
-/
import Derived.Test.YtndkangfnojpoaaGreatDoorJForm0
namespace Go.Proofs.YtndkangfnojpoaaGreatDoor
open Go.RowKit

set_option maxHeartbeats 16000000 in
set_option maxRecDepth 100000 in
theorem form_kind4 {ok : Nat → Prop} (lv : Nat) (hlv : lv ≤ 16) (b : Bool) (q : Int) (t : List Nat) (ns : List (List Nat)) (l : List Jq.J) (names list : Value) (w : World) (h : IsJ w ok (jv 4 b q (strOf t) names list) (.mk 4 b q t ns l)) :
    Calls Tryz.prog 53 #[jv 4 b q (strOf t) names list, .int .i64 ((16 - lv : Nat) : Int)] w (Tells (Jq.Form lv (.mk 4 b q t ns l)) w) := by
  obtain ⟨nv, lvv, eqv, h1, h2, ht', hS', hns', hnl', hLL⟩ := h.parts
  injection eqv with eqv
  obtain ⟨-, -, -, -, en, el⟩ : _ ∧ _ ∧ _ ∧ _ ∧ _ ∧ _ := by simpa using eqv
  subst en el
  have hll : l.length * 88 ≤ 140737488355328 := by
    obtain ⟨_, _, _, h1, _⟩ := hLL
    exact h1
  have ht : t.length ≤ 140737488355328 ∧ ∀ y ∈ t, y < 256 := ht'
  have hS : SlIs w ok names ns.length (tcells ns) := hS'
  have hL : ListIs w ok list l := hLL
  have hns : ∀ p ∈ ns, p.length ≤ 140737488355328 ∧ ∀ y ∈ p, y < 256 := hns'
  have hnl : ns.length * 16 ≤ 140737488355328 := hnl'
  clear hLL eqv ht' hS' hns' hnl'
  obtain ⟨A1, c1, rfl⟩ := hS.form
  obtain ⟨A2, c2, rfl⟩ := hL.form
  have HB0 : Hid (∀ o, Below w.heap.size w (w.alloc o)) := fun o => (Below.refl _ _).alloc (Nat.le_refl _) o
  have NO : Hid (¬ Jq.Form lv (.mk 4 b q t ns l) → ∀ o, Tells (Jq.Form lv (.mk 4 b q t ns l)) w (.returned (.bool false)) (w.alloc o)) := fun hn o => Tells.no hn (HB0.out o)
  have HT := Lib.hid (str_empty t)
  have HV : Hid (∀ w', Calls Tryz.prog 71 #[.string (strOf t)] w' fun e w2 => e = .returned (.bool (Jq.valid t)) ∧ Below w'.heap.size w' w2) := fun w' => by
    have := refValid_any (strOf t) (by rw [strOf_size]; omega) w'
    rw [numsOf_strOf ht.2] at this
    exact this
  have hT := size_big t
  clear h
  -- kind 4
  cases b with
  | true =>
    have HQ := Lib.hid (NO.out (fun h => by obtain ⟨f0, f5, fb, fi, ft, i1, i2, tl, tv, fp, fl, f4, fo⟩ := form_mk.1 h; exact absurd (fb (by decide)) (by decide)))
    clear hS hL hns hnl hll hT HV
    go_enter Tryz.func53, Tryz.ntmps53
    go_wp2
    go_ret
    exact HQ.out _
  | false =>
  by_cases hq : q = 0
  rotate_left
  · have d3 : (q != 0) = true := by rw [bne_iff_ne]; exact hq
    have HQ := Lib.hid (NO.out (fun h => by obtain ⟨f0, f5, fb, fi, ft, i1, i2, tl, tv, fp, fl, f4, fo⟩ := form_mk.1 h; exact hq (fi (by decide))))
    clear hS hL hns hnl hll hT HV
    go_enter Tryz.func53, Tryz.ntmps53
    go_wp2
    go_ret
    exact HQ.out _
  subst hq
  rcases HT.out with ⟨t1, t2, t3⟩ | ⟨t1, t2, t3⟩
  rotate_left
  · have T3 := Lib.hid t3
    clear t3
    have HQ := Lib.hid (NO.out (fun h => by obtain ⟨f0, f5, fb, fi, ft, i1, i2, tl, tv, fp, fl, f4, fo⟩ := form_mk.1 h; exact T3.out (ft (by decide))))
    clear hS hL hns hnl hll hT HV
    go_enter Tryz.func53, Tryz.ntmps53
    go_wp2
    go_ret
    exact HQ.out _
  subst t3
  have hV0 := fun w => valid_nil_any w
  have hE : strOf [] = { data := #[] } := rfl
  rw [hE] at *
  clear HT HV hT t1 t2
  have hl0 : Lies (w.alloc (.cells #[.int .i64 4, .bool false, .int .i64 0, .string { data := #[] }, .slice A1 ns.length c1, .slice A2 l.length c2] 25)) w.heap.size 25 [.int .i64 4, .bool false, .int .i64 0, .string { data := #[] }, .slice A1 ns.length c1, .slice A2 l.length c2] := Lies.new_ rfl
  have hV := hV0 (w.alloc (.cells #[.int .i64 4, .bool false, .int .i64 0, .string { data := #[] }, .slice A1 ns.length c1, .slice A2 l.length c2] 25))
  have HL0 := Lib.hid hl0
  have HB1 := Lib.hid (HB0.out (.cells #[.int .i64 4, .bool false, .int .i64 0, .string { data := #[] }, .slice A1 ns.length c1, .slice A2 l.length c2] 25))
  clear hl0
  obtain ⟨D, eD⟩ : ∃ D : Int, ((16 - lv : Nat) : Int) = D := ⟨_, rfl⟩
  by_cases hbad : lv = 0 ∨ 4096 < l.length
  · have hdd : decide ((16 : Int) ≤ D) = true ∨ (decide ((16 : Int) ≤ D) = false ∧ decide ((4096 : Int) < (l.length : Int)) = true) := by
      by_cases h0 : (16 : Int) ≤ D
      · exact .inl (decide_eq_true h0)
      · exact .inr ⟨decide_eq_false h0, decide_eq_true (by omega)⟩
    have HQ : Hid (¬ Jq.Form lv (.mk 4 false 0 [] ns l)) := fun h => by
      obtain ⟨_, _, _, _, _, _, _, _, _, _, fl, _⟩ := form_mk.1 h
      have fl := fl (show (4 : Int) ≤ 4 by decide)
      have f2 : l.length ≤ 4096 := fl.2
      omega
    rw [eD]
    clear hbad eD hS hL hns hnl hll hV0 hlv
    rcases hdd with d1 | ⟨d1, d2⟩
    all_goals
      go_enter Tryz.func53, Tryz.ntmps53
      go_wp2_with fail
      refine hV.mono ?_
      rintro e w1 ⟨rfl, hb1⟩
      obtain ⟨⟨z0, z1, z2, z3, z4, z5⟩, _⟩ := (HL0.out.below hb1 HL0.out.lt).six
      have hbw := below_more HB1.out hb1
      clear hV hb1
      go_wp2
      go_ret
      exact Tells.no HQ.out hbw
  have d1 : decide ((16 : Int) ≤ D) = false := decide_eq_false (by omega)
  have d2 : decide ((4096 : Int) < (l.length : Int)) = false := decide_eq_false (by omega)
  have HLV : Hid (0 < lv ∧ l.length ≤ 4096) := by unfold Hid; omega
  rw [eD]
  clear hbad eD hlv
  have hN := len_zero ns
  rcases hN with ⟨n1, n2⟩ | ⟨n1, n2⟩
  · have HQ : Hid (Jq.Form lv (.mk 4 false 0 [] ns l)) := form_mk.2 ⟨by decide, by decide, fun _ => rfl, fun _ => rfl, fun _ => rfl, (by decide), (by decide), Nat.zero_le _, rfl, fun h => absurd h (by decide), fun _ => HLV.out, fun _ => n2, fun h => absurd h (by decide)⟩
    clear n2 hS hL hns hnl hll hV0
    go_enter Tryz.func53, Tryz.ntmps53
    go_wp2_with fail
    refine hV.mono ?_
    rintro e w1 ⟨rfl, hb1⟩
    obtain ⟨⟨z0, z1, z2, z3, z4, z5⟩, _⟩ := (HL0.out.below hb1 HL0.out.lt).six
    have hbw := below_more HB1.out hb1
    clear hV hb1
    go_wp2
    go_ret
    exact Tells.yes HQ.out hbw
  · have HQ : Hid (¬ Jq.Form lv (.mk 4 false 0 [] ns l)) := fun h => by
      obtain ⟨_, _, _, _, _, _, _, _, _, _, _, f4, _⟩ := form_mk.1 h
      exact n2 (f4 rfl)
    clear n2 hS hL hns hnl hll hV0
    go_enter Tryz.func53, Tryz.ntmps53
    go_wp2_with fail
    refine hV.mono ?_
    rintro e w1 ⟨rfl, hb1⟩
    obtain ⟨⟨z0, z1, z2, z3, z4, z5⟩, _⟩ := (HL0.out.below hb1 HL0.out.lt).six
    have hbw := below_more HB1.out hb1
    clear hV hb1
    go_wp2
    go_ret
    exact Tells.no HQ.out hbw

end Go.Proofs.YtndkangfnojpoaaGreatDoor
