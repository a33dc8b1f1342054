/-
  The laws RulesSame and RulesBack.
-/
import Derived.Test.YthhlmalpelgpeaaGreatDoorZZSm
import Derived.Test.YthhlmalpelgpeaaGreatDoorZZAl
import Derived.Test.YthhlmalpelgpeaaGreatDoorG18
import Derived.Test.YthhlmalpelgpeaaGreatDoorG21
namespace Go.Proofs.YthhlmalpelgpeaaGreatDoor
open Go.RowKit

def True11 (w : World) (e : Ending) (w' : World) : Prop := e = .returned (.bool true) ∧ Below w.heap.size w w'
set_option maxHeartbeats 1000000 in
set_option maxRecDepth 100000 in
theorem lawSame11_any {ok ok' : Nat → Prop} (l m : List Zq.Rl) (lv mv : Value) (w : World) (hH : HeldZ w) (hL : RsE w ok lv l) (hM : RsE w ok' mv m) :
    Calls Tryz.prog 6 #[lv, mv] w (True11 w) := by
  have hA := alive11_any w hH
  have HL := Lib.hid hL
  have HM := Lib.hid hM
  obtain ⟨K, eK⟩ : ∃ K, decide (l = m) = K := ⟨_, rfl⟩
  have HK := Lib.hid eK
  clear hL hM hH eK
  go_enter Tryz.func6, Tryz.ntmps6
  go_wp2_with fail
  refine hA.mono ?_
  rintro e w1 ⟨rfl, hb1⟩
  clear hA
  have HB1 := Lib.hid hb1
  have hC := (sameR_any l m lv mv w1 (HL.out.more hb1) (HM.out.more hb1)).mono fun e w' h => h.dec
  rw [HK.out] at hC
  clear hb1
  go_wp2_with fail
  refine hC.mono ?_
  rintro e w2 ⟨rfl, hb2⟩
  have HB2 := Lib.hid (below_onZ HB1.out hb2)
  clear hC hb2
  have hC := (refSame11_any l m lv mv w2 (HL.out.more HB2.out) (HM.out.more HB2.out)).mono fun e w' h => h.dec
  rw [HK.out] at hC
  go_wp2_with fail
  refine hC.mono ?_
  rintro e w3 ⟨rfl, hb3⟩
  have HB3 := Lib.hid (below_onZ HB2.out hb3)
  have hKK : (K == K) = true := by simp
  clear hC hb3
  have hC := (sameR_any l l lv lv w3 (HL.out.more HB3.out) (HL.out.more HB3.out)).mono fun e w' h => h.dec
  rw [decide_eq_true (rfl : l = l)] at hC
  go_wp2_with fail
  refine hC.mono ?_
  rintro e w4 ⟨rfl, hb4⟩
  have HE : Hid (True11 w (.returned (.bool true)) w4) := ⟨rfl, below_onZ HB3.out hb4⟩
  clear hC hb4
  go_wp2
  go_ret
  exact HE.out

theorem RsW.nil (w : World) (ok : Nat → Prop) : RsW w ok (.slice none 0 0) [] := ⟨none, 0, rfl, Nat.le_refl _, by omega, by simp, [], rfl, fun i u r h => by simp at h, fun h => absurd h (Nat.lt_irrefl _)⟩
theorem RsW.more {w w' : World} {ok : Nat → Prop} {v : Value} {rs : List Zq.Rl} (h : RsW w ok v rs) (hb : Below w.heap.size w w') : RsW w' ok v rs := h.keep hb.size (fun b hb' hlt => ⟨hb', hb.block b hlt⟩)
set_option maxHeartbeats 2000000 in
set_option maxRecDepth 100000 in
theorem lawBack11_any (s : ByteArray) (w : World) (hH : HeldZ w) :
    Calls Tryz.prog 5 #[.string s] w (True11 w) := by
  have hC := parseW_any s w hH
  have HH := Lib.hid hH
  clear hH
  go_enter Tryz.func5, Tryz.ntmps5
  go_wp2_with fail
  refine hC.mono ?_
  rintro e w1 ⟨hb1, ⟨rs, A, c, hp, rfl, hR, hn⟩ | ⟨_, f, hf, rfl⟩⟩
  · have HR := Lib.hid hR
    have HB1 := Lib.hid hb1
    have HP := Lib.hid hp
    have hP := printR_any (HH.out.below hb1) hR
    have HRT : Hid (¬ (Zq.print rs = [] ∧ rs ≠ []) → Zq.right rs = true) := fun h => Zq.right_read HP.out (by
      rcases Nat.lt_or_ge 4096 (Zq.whole rs).length with h' | h'
      · exact absurd (Zq.print_empty h') h
      · exact h')
    have HLEN : Hid (rs.length = 0 ↔ rs = []) := List.length_eq_zero_iff
    obtain ⟨n, en⟩ : ∃ n, rs.length = n := ⟨_, rfl⟩
    rw [en] at hP HR HLEN ⊢
    rw [en] at hn
    obtain ⟨P, eP⟩ : ∃ P, Zq.print rs = P := ⟨_, rfl⟩
    rw [eP] at hP HRT
    have hns : n ≤ 16 := hn
    clear hC hR hb1 hp en eP hn
    go_wp2_with fail
    refine hP.mono ?_
    rintro e w2 ⟨rfl, hb2, _⟩
    have HB2 := Lib.hid (below_onZ HB1.out hb2)
    have HR2 := Lib.hid (HR.out.more hb2)
    have hA := alive11_any w2 (HH.out.below HB2.out)
    clear hP hb2
    go_wp2_with fail
    refine hA.mono ?_
    rintro e w3 ⟨rfl, hb3⟩
    have HB3 := Lib.hid (below_onZ HB2.out hb3)
    have HR3 := Lib.hid (HR2.out.more hb3)
    clear hA hb3
    rcases str_empty P with ⟨q1, q2, q3⟩ | ⟨q1, q2, q3⟩
    · rcases Nat.eq_zero_or_pos n with h0 | h0
      · have hX := (rightR_any (HH.out.below HB3.out) HR3.out).mono fun e w' h => h.dec
        rw [decide_eq_true (HRT.out (fun h => h.2 (HLEN.out.1 h0)))] at hX
        subst h0
        clear q3
        go_wp2_with fail
        refine hX.mono ?_
        rintro e w4 ⟨rfl, hb4⟩
        have HE : Hid (True11 w (.returned (.bool true)) w4) := ⟨rfl, below_onZ HB3.out hb4⟩
        clear hX hb4
        go_wp2
        go_ret
        exact HE.out
      · have g1 : decide ((0 : Int) < (n : Int)) = true := decide_eq_true (by omega)
        have g2 : decide (0 < n) = true := decide_eq_true h0
        have HE : Hid (True11 w (.returned (.bool true)) w3) := ⟨rfl, HB3.out⟩
        clear q3
        go_wp2
        go_ret
        exact HE.out
    · have hX := (rightR_any (HH.out.below HB3.out) HR3.out).mono fun e w' h => h.dec
      rw [decide_eq_true (HRT.out (fun h => q3 h.1))] at hX
      clear q3
      rcases Nat.eq_zero_or_pos n with h0 | h0
      · subst h0
        go_wp2_with fail
        refine hX.mono ?_
        rintro e w4 ⟨rfl, hb4⟩
        have HE : Hid (True11 w (.returned (.bool true)) w4) := ⟨rfl, below_onZ HB3.out hb4⟩
        clear hX hb4
        go_wp2
        go_ret
        exact HE.out
      · have g1 : decide ((0 : Int) < (n : Int)) = true := decide_eq_true (by omega)
        have g2 : decide (0 < n) = true := decide_eq_true h0
        go_wp2_with fail
        refine hX.mono ?_
        rintro e w4 ⟨rfl, hb4⟩
        have HE : Hid (True11 w (.returned (.bool true)) w4) := ⟨rfl, below_onZ HB3.out hb4⟩
        clear hX hb4
        go_wp2
        go_ret
        exact HE.out
  · have HB1 := Lib.hid hb1
    have g1 : (f != 0) = true := by rw [bne_iff_ne]; exact hf
    have hP := printR_any (HH.out.below hb1) (RsW.nil w1 (fun _ => True))
    clear hC hb1 hf
    go_wp2_with fail
    refine hP.mono ?_
    rintro e w2 ⟨rfl, hb2, _⟩
    have HB2 := Lib.hid (below_onZ HB1.out hb2)
    have hA := alive11_any w2 (HH.out.below HB2.out)
    clear hP hb2
    go_wp2_with fail
    refine hA.mono ?_
    rintro e w3 ⟨rfl, hb3⟩
    have HE : Hid (True11 w (.returned (.bool true)) w3) := ⟨rfl, below_onZ HB2.out hb3⟩
    clear hA hb3
    go_wp2
    go_ret
    exact HE.out
end Go.Proofs.YthhlmalpelgpeaaGreatDoor
