/-
  The law BerSame over the contracts.
-/
import Derived.Test.YtcpfkhodailbfaaTLaws4
import Derived.Deep.RegionHeld3
namespace Go.Proofs.Ytcpfkhodailbfaa
open Go.RowKit
variable {HO : World → Prop}

theorem tells_yes {P : Prop} {f : FuncId} {args : Array Value} {w : World} (h : Calls Try.prog f args w (Tells P w)) (hp : P) : Calls Try.prog f args w fun e w' => e = .returned (.bool true) ∧ Below w.heap.size w w' :=
  h.mono fun e w' hh => by
    obtain ⟨hb, ⟨_, he⟩ | ⟨hn, _⟩⟩ := hh
    · exact ⟨he, hb⟩
    · exact absurd hp hn
theorem tells_no {P : Prop} {f : FuncId} {args : Array Value} {w : World} (h : Calls Try.prog f args w (Tells P w)) (hp : ¬ P) : Calls Try.prog f args w fun e w' => e = .returned (.bool false) ∧ Below w.heap.size w w' :=
  h.mono fun e w' hh => by
    obtain ⟨hb, ⟨hy, _⟩ | ⟨_, he⟩⟩ := hh
    · exact absurd hy hp
    · exact ⟨he, hb⟩
theorem lawSame_bit (B : BerOk HO) (x y : Bq.T) : ∃ r : Bool, (∀ (ok ok' : Nat → Prop) (v u : Value) (w : World), HO w → IsT w ok v x → IsT w ok' u y → Calls Try.prog 22 #[v, u] w fun e w' => e = .returned (.bool r) ∧ Below w.heap.size w w') ∧
    (∀ (ok ok' : Nat → Prop) (v u : Value) (w : World), IsT w ok v x → IsT w ok' u y → Calls Try.prog 14 #[v, u] w fun e w' => e = .returned (.bool r) ∧ Below w.heap.size w w') := by
  by_cases h : x = y
  · exact ⟨true, fun ok ok' v u w hH h1 h2 => tells_yes (B.same ok ok' x y v u w hH h1 h2) h, fun ok ok' v u w h1 h2 => tells_yes (refSame_any x y v u w h1 h2) h⟩
  · exact ⟨false, fun ok ok' v u w hH h1 h2 => tells_no (B.same ok ok' x y v u w hH h1 h2) h, fun ok ok' v u w h1 h2 => tells_no (refSame_any x y v u w h1 h2) h⟩

set_option maxHeartbeats 8000000 in
set_option maxRecDepth 100000 in
theorem lawSame (B : BerOk HO) (x y : Bq.T) (v u : Value) (w : World) (hH : HO w) (hJ : IsT w (fun _ => True) v x) (hK : IsT w (fun _ => True) u y) :
    Calls Try.prog 10 #[v, u] w (IsTrue w) := by
  obtain ⟨A1, c1, A2, c2, rfl⟩ := hJ.form
  obtain ⟨B1, d1, B2, d2, rfl⟩ := hK.form
  obtain ⟨W0, eW0⟩ : ∃ W0, W0 = (w.alloc (.cells #[.int .u8 (x.tag : Int), .slice A1 x.bytes.length c1, .slice A2 x.list.length c2] 25)).alloc (.cells #[.int .u8 (y.tag : Int), .slice B1 y.bytes.length d1, .slice B2 y.list.length d2] 25) := ⟨_, rfl⟩
  have hb0 : Below w.heap.size w W0 := by rw [eW0]; exact ((Below.refl _ _).alloc (Nat.le_refl _) _).alloc (by simp) _
  have hl1 : Lies W0 w.heap.size 25 [.int .u8 (x.tag : Int), .slice A1 x.bytes.length c1, .slice A2 x.list.length c2] := by rw [eW0]; exact (Lies.new_ rfl).alloc _
  have hl2 : Lies W0 (w.heap.size + 1) 25 [.int .u8 (y.tag : Int), .slice B1 y.bytes.length d1, .slice B2 y.list.length d2] := by rw [eW0]; exact Lies.new_ (by simp)
  have hS := small_any x _ W0 (hJ.on hb0)
  rw [eW0] at hS
  have HW0 := Lib.hid eW0
  have HB0 := Lib.hid hb0
  have HL1 := Lib.hid hl1
  have HL2 := Lib.hid hl2
  have HH := Lib.hid hH
  have HB := Lib.hid B
  have HJ := Lib.hid hJ
  have HK := Lib.hid hK
  have HS := Lib.hid hS
  clear hJ hK hH B hb0 hl1 hl2 hS eW0
  go_enter Try.func10, Try.ntmps10
  go_wp2_with fail
  refine HS.out.mono ?_
  rintro e w1 ⟨⟨r, rfl⟩, hb1⟩
  clear HS
  rw [← HW0.out] at hb1
  have hb2 := below_more HB0.out hb1
  cases r
  · have hA := alive_of HB.out w1 (HB.out.keep _ _ HH.out hb2)
    clear hb1
    go_wp2_with fail
    refine hA.mono ?_
    rintro e w2 ⟨rfl, hb3⟩
    have HE : Hid (IsTrue w (.returned (.bool true)) w2) := ⟨rfl, below_more hb2 hb3⟩
    clear hA hb2 hb3
    go_wp2
    go_ret
    exact HE.out
  have hS := small_any y _ w1 (HK.out.on hb2)
  obtain ⟨⟨y0, y1, y2⟩, _⟩ := (HL2.out.below hb1 HL2.out.lt).three
  have HL1 := Lib.hid (HL1.out.below hb1 HL1.out.lt)
  have HL2 := Lib.hid (HL2.out.below hb1 HL2.out.lt)
  clear hb1
  go_wp2_with fail
  refine hS.mono ?_
  rintro e w2 ⟨⟨r, rfl⟩, hb3⟩
  have hb4 := below_more hb2 hb3
  clear hS y0 y1 y2
  cases r
  · have hA := alive_of HB.out w2 (HB.out.keep _ _ HH.out hb4)
    clear hb2 hb3
    go_wp2_with fail
    refine hA.mono ?_
    rintro e w3 ⟨rfl, hb5⟩
    have HE : Hid (IsTrue w (.returned (.bool true)) w3) := ⟨rfl, below_more hb4 hb5⟩
    clear hA hb4 hb5
    go_wp2
    go_ret
    exact HE.out
  obtain ⟨r, hXY, hRXY⟩ := lawSame_bit HB.out x y
  have hXX := fun (ok ok' : Nat → Prop) v u w (hH : HO w) (h1 : IsT w ok v x) (h2 : IsT w ok' u x) => tells_yes (HB.out.same ok ok' x x v u w hH h1 h2) rfl
  have HL1 := Lib.hid (HL1.out.below hb3 HL1.out.lt)
  have HL2 := Lib.hid (HL2.out.below hb3 HL2.out.lt)
  have HK : Hid (∀ W, Below w2.heap.size w2 W → (W.cell? ⟨w.heap.size, 0, none⟩ = some (.int .u8 (x.tag : Int)) ∧ W.cell? ⟨w.heap.size, 1, none⟩ = some (.slice A1 x.bytes.length c1) ∧ W.cell? ⟨w.heap.size, 2, none⟩ = some (.slice A2 x.list.length c2)) ∧
      (W.cell? ⟨w.heap.size + 1, 0, none⟩ = some (.int .u8 (y.tag : Int)) ∧ W.cell? ⟨w.heap.size + 1, 1, none⟩ = some (.slice B1 y.bytes.length d1) ∧ W.cell? ⟨w.heap.size + 1, 2, none⟩ = some (.slice B2 y.list.length d2)) ∧
      IsT W (fun _ => True) (tv x.tag (.slice A1 x.bytes.length c1) (.slice A2 x.list.length c2)) x ∧ IsT W (fun _ => True) (tv y.tag (.slice B1 y.bytes.length d1) (.slice B2 y.list.length d2)) y ∧ HO W ∧ Below w2.heap.size w2 W) :=
    fun W hb => ⟨(HL1.out.below hb HL1.out.lt).three.1, (HL2.out.below hb HL2.out.lt).three.1, (HJ.out.on hb4).on hb, (HK.out.on hb4).on hb, HB.out.keep _ _ (HB.out.keep _ _ HH.out hb4) hb, hb⟩
  have HB4 := Lib.hid hb4
  obtain ⟨⟨x0, x1, x2⟩, ⟨y0, y1, y2⟩, jx, jy, hHx, hrf⟩ := HK.out w2 (Below.refl _ _)
  clear hb2 hb3 hb4 HL1 HL2 HJ HH HB0 HW0
  go_upto_region 3 with (fail)
  go_region_held3 (fun W => (W.cell? ⟨w.heap.size, 0, none⟩ = some (.int .u8 (x.tag : Int)) ∧ W.cell? ⟨w.heap.size, 1, none⟩ = some (.slice A1 x.bytes.length c1) ∧ W.cell? ⟨w.heap.size, 2, none⟩ = some (.slice A2 x.list.length c2)) ∧
      (W.cell? ⟨w.heap.size + 1, 0, none⟩ = some (.int .u8 (y.tag : Int)) ∧ W.cell? ⟨w.heap.size + 1, 1, none⟩ = some (.slice B1 y.bytes.length d1) ∧ W.cell? ⟨w.heap.size + 1, 2, none⟩ = some (.slice B2 y.list.length d2)) ∧
      IsT W (fun _ => True) (tv x.tag (.slice A1 x.bytes.length c1) (.slice A2 x.list.length c2)) x ∧ IsT W (fun _ => True) (tv y.tag (.slice B1 y.bytes.length d1) (.slice B2 y.list.length d2)) y ∧ HO W ∧ Below w2.heap.size w2 W)
    (first
      | (go_split_ands; have hbz := (by assumption : Below w2.heap.size w2 _).trans (hba.mono (by assumption : Below w2.heap.size w2 _).size); exact HK.out _ hbz)
      | (go_split_ands; have hbz := (by assumption : Below w2.heap.size w2 _).drew; exact HK.out _ hbz)
      | go_keep)
    (first
      | (go_at_call 14; go_split_ands; with_reducible refine (hRXY _ _ _ _ _ (by assumption) (by assumption)).mono ?_; rintro e wa ⟨rfl, hba⟩)
      | (go_at_call 22; go_split_ands; with_reducible refine (hXX _ _ _ _ _ (by assumption) (by assumption) (by assumption)).mono ?_; rintro e wa ⟨rfl, hba⟩)
      | (go_at_call 22; go_split_ands; with_reducible refine (hXY _ _ _ _ _ (by assumption) (by assumption) (by assumption)).mono ?_; rintro e wa ⟨rfl, hba⟩)
      | (go_at_call 13; go_split_ands; with_reducible refine (alive_of HB.out _ (by assumption)).mono ?_; rintro e wa ⟨rfl, hba⟩))
  all_goals
    go_split_ands
    have hfin : Below w2.heap.size w2 wa := by assumption
    have hb6 := below_more HB4.out hfin
    clear hXY hRXY hXX
    go_wp2
    go_ret
    exact ⟨rfl, hb6⟩
end Go.Proofs.Ytcpfkhodailbfaa
