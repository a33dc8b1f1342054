/-
  The document's Same, of elements.
-/
import Derived.Test.YtcpfkhodailbfaaTVal
import Derived.Deep.RegionLaw
namespace Go.Proofs.Ytcpfkhodailbfaa
open Go.RowKit

/-- That two elements are told apart by the document's Same, of which the first is this. -/
def RSameOk (x : Bq.T) : Prop := ∀ (ok ok' : Nat → Prop) (v u : Value) (y : Bq.T) (w : World), IsT w ok v x → IsT w ok' u y →
  Calls Try.prog 14 #[v, u] w (Tells (x = y) w)

set_option maxHeartbeats 4000000 in
set_option maxRecDepth 100000 in
theorem refSame_step (x : Bq.T) (ih : ∀ z ∈ x.list, RSameOk z) : RSameOk x := by
  intro ok ok' v u y w hJ hK
  obtain ⟨bv, lv, rfl, hta, hB, hbt, hL⟩ := hJ.parts
  obtain ⟨bu, lu, rfl, hta', hB', hbt', hL'⟩ := hK.parts
  obtain ⟨A0, c0, rfl⟩ := hL.form
  obtain ⟨A9, c9, rfl⟩ := hB.form
  obtain ⟨B0, d0, rfl⟩ := hL'.form
  obtain ⟨B9, d9, rfl⟩ := hB'.form
  have HBW : Hid (∀ o o', Below w.heap.size w ((w.alloc o).alloc o')) := fun o o' => ((Below.refl _ _).alloc (Nat.le_refl _) o).alloc (by simp) o'
  have hT := str_beq hbt.2 hbt'.2
  have NE : Hid (∀ (P : Prop), (x = y → P) → ¬ P → ∀ o o', Tells (x = y) w (.returned (.bool false)) ((w.alloc o).alloc o')) := fun P h hn o o' => Tells.no (fun e => hn (h e)) (HBW.out o o')
  have ha : ∀ o o', (convert 22 9 (.slice A9 x.bytes.length c9)).run Try.prog ((w.alloc o).alloc o') = .ok (.string (strOf x.bytes)) ((w.alloc o).alloc o') := fun o o' => conv_str (((hB.on (HBW.out o o'))).arg hbt.2)
  have hb : ∀ o o', (convert 22 9 (.slice B9 y.bytes.length d9)).run Try.prog ((w.alloc o).alloc o') = .ok (.string (strOf y.bytes)) ((w.alloc o).alloc o') := fun o o' => conv_str (((hB'.on (HBW.out o o'))).arg hbt'.2)
  have hl1 := hL.len
  have hl2 := hL'.len
  clear hJ hK
  by_cases h1 : x.tag = y.tag
  rotate_left
  · have d1 : ((x.tag : Int) != (y.tag : Int)) = true := by rw [bne_iff_ne]; omega
    have HQ := Lib.hid (NE.out _ (fun e => by rw [e]) h1)
    clear h1 hB hB' hL hL' hT hbt hbt' ha hb hta hta' hl1 hl2
    go_enter Try.func14, Try.ntmps14
    go_wp2
    go_ret
    exact HQ.out _ _
  have d1 : ((x.tag : Int) != (y.tag : Int)) = false := by rw [h1]; simp
  by_cases h2 : x.bytes = y.bytes
  rotate_left
  · rw [decide_eq_false h2] at hT
    have HQ := Lib.hid (NE.out _ (fun e => by rw [e]) h2)
    clear h1 h2 hB hB' hL hL' hbt hbt' hta hta' hl1 hl2
    go_enter Try.func14, Try.ntmps14
    go_wp2
    go_ret
    exact HQ.out _ _
  rw [decide_eq_true h2] at hT
  by_cases h3 : x.list.length = y.list.length
  rotate_left
  · have d3 : ((x.list.length : Int) != (y.list.length : Int)) = true := by rw [bne_iff_ne]; omega
    have HQ := Lib.hid (NE.out _ (fun e => by rw [e]) h3)
    clear h1 h2 h3 hB hB' hL hL' hbt hbt' hta hta' hl1 hl2
    go_enter Try.func14, Try.ntmps14
    go_wp2
    go_ret
    exact HQ.out _ _
  obtain ⟨M, eM⟩ : ∃ M, x.list.length = M := ⟨_, rfl⟩
  have eM2 : y.list.length = M := by rw [← h3, eM]
  have d3 : ((M : Int) != (M : Int)) = false := by simp
  have HX : Hid (x.list = y.list → x = y) := fun h => T_ext h1 h2 h
  obtain ⟨W, eW⟩ : ∃ W, W = (w.alloc (.cells #[.int .u8 (x.tag : Int), .slice A9 x.bytes.length c9, .slice A0 M c0] 25)).alloc (.cells #[.int .u8 (y.tag : Int), .slice B9 y.bytes.length d9, .slice B0 M d0] 25) := ⟨_, rfl⟩
  have hbW : Below w.heap.size w W := by rw [eW]; exact HBW.out _ _
  have HL1 : Hid (Lies W w.heap.size 25 [.int .u8 (x.tag : Int), .slice A9 x.bytes.length c9, .slice A0 M c0]) := by unfold Hid; rw [eW]; exact (Lies.new_ rfl).alloc _
  have HL2 : Hid (Lies W (w.heap.size + 1) 25 [.int .u8 (y.tag : Int), .slice B9 y.bytes.length d9, .slice B0 M d0]) := by unfold Hid; rw [eW]; exact Lies.new_ (by simp)
  have HL := Lib.hid (hL.on hbW)
  have HL' := Lib.hid (hL'.on hbW)
  have HM := Lib.hid eM
  have HM2 := Lib.hid eM2
  have HI := Lib.hid ih
  have HBWW := Lib.hid hbW
  have HE := Lib.hid eW
  rw [eM, eM2]
  rw [eM] at hl1
  clear eM eM2 eW hbW hB hB' hL hL' hbt hbt' h1 h2 h3 ih NE HBW hl2 hta hta'
  go_enter Try.func14, Try.ntmps14
  go_wp2_with fail
  go_loopw [5] (fun i wq => ∃ j : Nat, i = .int .i64 j ∧ j ≤ M ∧ Hid (x.list.take j = y.list.take j) ∧ Below W.heap.size W wq) (fun i _ => M - (intOf i).toNat)
  case atStart => exact ⟨0, rfl, Nat.zero_le _, Lib.hid rfl, by rw [HE.out]; exact Below.refl _ _⟩
  case round =>
    clear ha hb
    obtain ⟨j, rfl, hj, hel, hb⟩ := hrel
    obtain ⟨⟨z0, z1, z2⟩, _⟩ := (HL1.out.below hb HL1.out.lt).three
    obtain ⟨⟨y0, y1, y2⟩, _⟩ := (HL2.out.below hb HL2.out.lt).three
    by_cases hlt2 : j < M
    · obtain ⟨b, off, p, E1, e1, E2, e2, rfl, _, hblt, hp, hJ, s0, s1, s2⟩ := (HL.out.on hb).elem (by rw [HM.out]; exact hlt2)
      obtain ⟨b', off', q, F1, f1, F2, f2, rfl, _, hblt', hq, hK, t0, t1, t2⟩ := (HL'.out.on hb).elem (by rw [HM2.out]; exact hlt2)
      have hC := HI.out p (List.mem_of_getElem? hp) ok ok' _ _ q _ hJ.drew hK.drew
      have HP := Lib.hid hp
      have HQ := Lib.hid hq
      have HC := Lib.hid hC
      clear hp hq hJ hK hC
      go_upto_region 6 with (fail)
      go_region_law (go_simp; go_at_call 14; refine HC.out.mono ?_; intro e w1 hh; obtain ⟨r, rfl, hr, hb1⟩ := hh.as; have hb2 := hb.trans (below_undrew (hb1.mono hb.size)); clear hh hb1; simp only [])
      all_goals
        cases r
        · have HR : Hid (x ≠ y) := fun e => by
            have h1 := HP.out
            rw [e] at h1
            have h2 : p = q := Option.some.inj (h1.symm.trans HQ.out)
            have := hr.2 h2
            cases this
          go_wp2
          go_ret
          exact Tells.no HR.out (below_more HBWW.out hb2)
        · have HR := Lib.hid (take_same hel.out HP.out HQ.out (hr.1 rfl))
          go_wp2
          go_roundw
          case rel => exact ⟨j + 1, by go_num, hlt2, Lib.hid HR.out, hb2⟩
          case measure => simp [intOf]; omega
    · obtain rfl : j = M := by omega
      have hd3 : decide ((j : Int) < (j : Int)) = false := by simp
      have HR : Hid (x = y) := HX.out (by
        have := hel.out
        rwa [List.take_of_length_le (by rw [HM.out]; exact Nat.le_refl _), List.take_of_length_le (by rw [HM2.out]; exact Nat.le_refl _)] at this)
      go_wp2
      go_ret
      exact Tells.yes HR.out (below_more HBWW.out hb)
theorem refSame_any {ok ok' : Nat → Prop} (x y : Bq.T) (v u : Value) (w : World) (h : IsT w ok v x) (k : IsT w ok' u y) : Calls Try.prog 14 #[v, u] w (Tells (x = y) w) :=
  T_ind (P := RSameOk) (fun x ih => refSame_step x ih) x ok ok' v u y w h k
end Go.Proofs.Ytcpfkhodailbfaa
