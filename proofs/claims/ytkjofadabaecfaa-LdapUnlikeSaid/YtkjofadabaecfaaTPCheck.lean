/-
  The program's check.
-/
import Derived.Test.YtkjofadabaecfaaTPSmall
namespace Go.Proofs.Ytkjofadabaecfaa
open Go.RowKit

/-- That it is told what is amiss, where so many levels are left. -/
def CheckOk (lv : Nat) : Prop := ∀ (ok : Nat → Prop) (v : Value) (t : Bq.T) (w : World) (d : Nat), d + lv = 16 → IsT w ok v t →
  Calls Try.prog 47 #[v, .agg #[.int .i64 (d : Int)]] w fun e w' => e = .returned (.int .i64 (Bq.amiss lv t : Nat)) ∧ Below w.heap.size w w'

set_option maxHeartbeats 1000000 in
set_option maxRecDepth 100000 in
theorem check_step (lv : Nat) (ih : ∀ m, lv = m + 1 → CheckOk m) : CheckOk lv := by
  intro ok v t w d hdl hJ
  obtain ⟨bv, lst, rfl, hta, hB, hbt, hL⟩ := hJ.parts
  obtain ⟨A0, c0, rfl⟩ := hL.form
  obtain ⟨A9, c9, rfl⟩ := hB.form
  obtain ⟨RES, eRES⟩ : ∃ RES, Bq.amiss lv t = RES := ⟨_, rfl⟩
  rw [eRES]
  rw [amiss_form] at eRES
  have hd16 : d ≤ 16 := by omega
  have hll := hL.len
  obtain ⟨M, eM⟩ : ∃ M, t.list.length = M := ⟨_, rfl⟩
  obtain ⟨N, eN⟩ : ∃ N, t.bytes.length = N := ⟨_, rfl⟩
  obtain ⟨a, ea⟩ : ∃ a, t.tag = a := ⟨_, rfl⟩
  rw [eM] at hll
  rw [eM, eN, ea]
  rw [ea] at hta eRES
  have hl0 : t.list = [] ↔ M = 0 := by rw [← eM, List.length_eq_zero_iff]
  have hn0 : t.bytes = [] ↔ N = 0 := by rw [← eN, List.length_eq_zero_iff]
  obtain ⟨W0, eW0⟩ : ∃ W0, W0 = (w.alloc (.cells #[.int .u8 (a : Int), .slice A9 N c9, .slice A0 M c0] 60)).alloc (.cells #[.int .i64 (d : Int)] 83) := ⟨_, rfl⟩
  have hb0 : Below w.heap.size w W0 := by rw [eW0]; exact ((Below.refl _ _).alloc (Nat.le_refl _) _).alloc (by simp) _
  have HL0 : Hid (Lies W0 w.heap.size 60 [.int .u8 (a : Int), .slice A9 N c9, .slice A0 M c0]) := by unfold Hid; rw [eW0]; exact (Lies.new_ rfl).alloc _
  have HD0 : Hid (Lies W0 (w.heap.size + 1) 83 [.int .i64 (d : Int)]) := by unfold Hid; rw [eW0]; exact Lies.new_ (by simp)
  have HL := Lib.hid (hL.on hb0)
  rw [eM] at HL
  have hH := hasList_any a hta W0
  have hAl := allowed_any a hta W0
  rw [eW0] at hH
  have HE := Lib.hid eW0
  have HBW := Lib.hid hb0
  have HM := Lib.hid eM
  clear hL hB hbt eM eN ea hJ eW0 hb0
  by_cases h31 : a % 32 = 31
  · have hR : RES = 60 := by rw [← eRES, if_pos (.inl h31)]
    have HR := Lib.hid hR
    have H31 := Lib.hid h31
    clear eRES hR hl0 hn0 ih h31
    go_enter Try.func47, Try.ntmps47
    go_wp2_with fail
    refine hH.mono ?_
    rintro e w1 ⟨hw1, hh⟩
    rw [← HE.out] at hw1
    subst hw1
    clear hH
    obtain ⟨⟨z0, z1, z2⟩, _⟩ := HL0.out.three
    obtain ⟨r, rfl⟩ : ∃ r : Bool, e = .returned (.bool r) := by
      rcases hh with ⟨_, rfl⟩ | ⟨_, rfl⟩ <;> exact ⟨_, rfl⟩
    clear hh
    go_wp2_with fail
    refine hAl.mono ?_
    rintro e w1 ⟨rfl, ⟨h1, rfl⟩ | ⟨h1, rfl⟩⟩
    · exact absurd H31.out h1
    clear hAl h1
    go_wp2
    go_ret
    exact ⟨by rw [HR.out]; rfl, HBW.out⟩
  by_cases hs : a / 32 % 2 = 1
  rotate_left
  · -- no list
    by_cases hM : 0 < M
    · have hR : RES = 60 := by rw [← eRES, if_pos (.inr (.inl ⟨by omega, fun e => by have := hl0.1 e; omega⟩))]
      have HR := Lib.hid hR
      have H31 := Lib.hid h31
      have HS := Lib.hid hs
      clear eRES hR hl0 hn0 ih h31 hs
      go_enter Try.func47, Try.ntmps47
      go_wp2_with fail
      refine hH.mono ?_
      rintro e w1 ⟨hw1, hh⟩
      rw [← HE.out] at hw1
      subst hw1
      clear hH
      obtain ⟨⟨z0, z1, z2⟩, _⟩ := HL0.out.three
      rcases hh with ⟨h1, rfl⟩ | ⟨_, rfl⟩
      · exact absurd h1 HS.out
      go_wp2_with fail
      refine hAl.mono ?_
      rintro e w1 ⟨rfl, ⟨h1, rfl⟩ | ⟨h1, rfl⟩⟩
      rotate_left
      · exact absurd (Classical.not_not.1 h1) H31.out
      clear hAl h1
      go_wp2
      go_ret
      exact ⟨by rw [HR.out]; rfl, HBW.out⟩
    · obtain rfl : M = 0 := by omega
      have hR : RES = 0 := by
        rw [← eRES, if_neg, if_pos (by omega)]
        rintro (h | ⟨h1, h2⟩ | ⟨h1, h2⟩)
        · exact h31 h
        · exact h2 (hl0.2 rfl)
        · exact hs h1
      have HR := Lib.hid hR
      have H31 := Lib.hid h31
      have HS := Lib.hid hs
      clear eRES hR hl0 hn0 ih h31 hs hM
      go_enter Try.func47, Try.ntmps47
      go_wp2_with fail
      refine hH.mono ?_
      rintro e w1 ⟨hw1, hh⟩
      rw [← HE.out] at hw1
      subst hw1
      clear hH
      obtain ⟨⟨z0, z1, z2⟩, _⟩ := HL0.out.three
      rcases hh with ⟨h1, rfl⟩ | ⟨_, rfl⟩
      · exact absurd h1 HS.out
      go_wp2_with fail
      refine hAl.mono ?_
      rintro e w1 ⟨rfl, ⟨h1, rfl⟩ | ⟨h1, rfl⟩⟩
      rotate_left
      · exact absurd (Classical.not_not.1 h1) H31.out
      clear hAl h1
      go_wp2_with fail
      go_loopw [43] (fun i wr => i = .int .i64 0 ∧ wr = W0) (fun _ _ => 0)
      case atStart => exact ⟨rfl, rfl⟩
      case round =>
        obtain ⟨rfl, rfl⟩ := hrel
        go_wp2
        go_ret
        exact ⟨by rw [HR.out]; rfl, HBW.out⟩
  by_cases hN : 0 < N
  · have hR : RES = 60 := by rw [← eRES, if_pos (.inr (.inr ⟨hs, fun e => by have := hn0.1 e; omega⟩))]
    have HR := Lib.hid hR
    have H31 := Lib.hid h31
    have HS := Lib.hid hs
    clear eRES hR hl0 hn0 ih h31 hs
    go_enter Try.func47, Try.ntmps47
    go_wp2_with fail
    refine hH.mono ?_
    rintro e w1 ⟨hw1, hh⟩
    rw [← HE.out] at hw1
    subst hw1
    clear hH
    obtain ⟨⟨z0, z1, z2⟩, _⟩ := HL0.out.three
    rcases hh with ⟨_, rfl⟩ | ⟨h1, rfl⟩
    rotate_left
    · exact absurd HS.out h1
    go_wp2_with fail
    refine hAl.mono ?_
    rintro e w1 ⟨rfl, ⟨h1, rfl⟩ | ⟨h1, rfl⟩⟩
    rotate_left
    · exact absurd (Classical.not_not.1 h1) H31.out
    clear hAl h1
    go_wp2
    go_ret
    exact ⟨by rw [HR.out]; rfl, HBW.out⟩
  obtain rfl : N = 0 := by omega
  rw [if_neg (by
    rintro (h | ⟨h1, h2⟩ | ⟨h1, h2⟩)
    · exact h31 h
    · omega
    · exact h2 (hn0.2 rfl)), if_neg (by omega)] at eRES
  have hF := full_any d hd16 W0
  have H31 := Lib.hid h31
  have HS := Lib.hid hs
  have HRES := Lib.hid eRES
  have HI := Lib.hid ih
  have HDL := Lib.hid hdl
  clear eRES hl0 hn0 ih h31 hs hN hdl
  go_enter Try.func47, Try.ntmps47
  go_wp2_with fail
  refine hH.mono ?_
  rintro e w1 ⟨hw1, hh⟩
  rw [← HE.out] at hw1
  subst hw1
  clear hH
  obtain ⟨⟨z0, z1, z2⟩, _⟩ := HL0.out.three
  rcases hh with ⟨_, rfl⟩ | ⟨h1, rfl⟩
  rotate_left
  · exact absurd HS.out h1
  go_wp2_with fail
  refine hAl.mono ?_
  rintro e w1 ⟨rfl, ⟨h1, rfl⟩ | ⟨h1, rfl⟩⟩
  rotate_left
  · exact absurd (Classical.not_not.1 h1) H31.out
  have x0 := HD0.out.cell 0
  simp only [List.getElem?_cons_zero] at x0
  clear hAl h1
  go_wp2_with fail
  refine hF.mono ?_
  rintro e w2 ⟨hb2, ⟨h16, rfl⟩ | ⟨h16, rfl⟩⟩
  · have hR : RES = 61 := by
      rw [← HRES.out]
      have h0 : lv = 0 := by have := HDL.out; omega
      subst h0
      rfl
    have HR := Lib.hid hR
    clear hF h16 z0 z1 z2 x0 hR
    go_wp2
    go_ret
    exact ⟨by rw [HR.out]; rfl, below_more HBW.out hb2⟩
  obtain ⟨m, rfl⟩ : ∃ m, lv = m + 1 := ⟨lv - 1, by have := HDL.out; omega⟩
  obtain ⟨f, ef⟩ : ∃ f, f = Bq.amiss m := ⟨_, rfl⟩
  have HF : Hid (RES = Bq.first f t.list) := by unfold Hid; rw [← HRES.out, ef]
  have HC : Hid (∀ (v : Value) (x : Bq.T) (w : World), IsT w ok v x → Calls Try.prog 47 #[v, .agg #[.int .i64 ((d + 1 : Nat) : Int)]] w fun e w' => e = .returned (.int .i64 (f x : Nat)) ∧ Below w.heap.size w w') := fun v x w h => by
    rw [ef]
    exact HI.out m rfl ok v x w (d + 1) (by have := HDL.out; omega) h
  have HIN : Hid (∀ w, Calls Try.prog 60 #[.agg #[.int .i64 (d : Int)]] w fun e w' => e = .returned (.agg #[.int .i64 ((d + 1 : Nat) : Int)]) ∧ Below w.heap.size w w') := fun w => inner_any d hd16 w
  have HL2 := Lib.hid (HL.out.on hb2)
  have HT2 := Lib.hid (HL0.out.below hb2 HL0.out.lt)
  have HD2 := Lib.hid (HD0.out.below hb2 HD0.out.lt)
  have HB2 := Lib.hid (below_more HBW.out hb2)
  obtain ⟨⟨y0, y1, y2⟩, _⟩ := HT2.out.three
  clear hF h16 z0 z1 z2 x0 hb2 HL HL0 HD0 HBW ef HE HI HRES HDL
  go_wp2_with fail
  go_loopw [43] (fun i wr => ∃ k : Nat, i = .int .i64 k ∧ k ≤ M ∧ Hid (Bq.first f t.list = Bq.first f (t.list.drop k)) ∧ Below w2.heap.size w2 wr) (fun i _ => M - (intOf i).toNat)
  case atStart => exact ⟨0, rfl, Nat.zero_le _, Lib.hid rfl, Below.refl _ _⟩
  case round =>
    obtain ⟨k, rfl, hk, he, hb⟩ := hrel
    clear y0 y1 y2
    by_cases hlt : k < M
    · obtain ⟨b, off, x, E1, e1, E2, e2, rfl, _, hblt, hx, hJx, s0, s1, s2⟩ := (HL2.out.on hb).elem (by rw [HM.out]; exact hlt)
      obtain ⟨n1, n2⟩ := first_step (f := f) hx
      have HN1 := Lib.hid n1
      have HN2 := Lib.hid n2
      have hCx := fun W (h : Below wr.heap.size wr W) => HC.out _ x W (hJx.on h)
      obtain ⟨F, eF⟩ : ∃ F, f x = F := ⟨_, rfl⟩
      rw [eF] at HN1 HN2
      simp only [eF] at hCx
      have HCX := Lib.hid hCx
      have HDr := HD2.out.below hb HD2.out.lt
      have hDlt := HDr.lt
      have HDr := Lib.hid HDr
      clear hx hJx n1 n2 eF hCx
      go_upto_region 9 with (fail)
      generalize hW : World.alloc wr _ = wq
      have hbq : Below wr.heap.size wr wq := by rw [← hW]; exact (Below.refl _ _).alloc (Nat.le_refl _) _
      have hlq : Lies wq wr.heap.size 60 [.int .u8 (x.tag : Int), .slice E1 x.bytes.length e1, .slice E2 x.list.length e2] := by rw [← hW]; exact Lies.new_ rfl
      have hdq : Lies wq (w.heap.size + 1) 83 [.int .i64 (d : Int)] := HDr.out.below hbq HDr.out.lt
      have KC : Hid (∀ W, Below wq.heap.size wq W → (W.cell? ⟨wr.heap.size, 0, none⟩ = some (.int .u8 (x.tag : Int)) ∧ W.cell? ⟨wr.heap.size, 1, none⟩ = some (.slice E1 x.bytes.length e1) ∧ W.cell? ⟨wr.heap.size, 2, none⟩ = some (.slice E2 x.list.length e2))) := fun W h => (hlq.below h hlq.lt).three.1
      have HBQ := Lib.hid hbq
      obtain ⟨z0, z1, z2⟩ := KC.out wq (Below.refl _ _)
      have x0 := hdq.cell 0
      simp only [List.getElem?_cons_zero] at x0
      have hV : wr.heap.size < wq.heap.size := hlq.lt
      clear hW hbq hlq hdq s0 s1 s2
      obtain ⟨V, eV⟩ : ∃ V, wr.heap.size = V := ⟨_, rfl⟩
      rw [eV] at KC z0 z1 z2 hV
      rw [eV]
      clear eV
      go_region_law (first
        | (go_simp; go_at_call 60; refine (HIN.out _).mono ?_; rintro e w3 ⟨rfl, hb3⟩; have hbx : Below wq.heap.size wq w3 := (by first | exact hb3 | exact reg_a hb3); obtain ⟨k0, k1, k2⟩ := KC.out w3 hbx; have hcW := HCX.out w3 (below_more HBQ.out hbx); have hcD := HCX.out w3.drew (below_more HBQ.out hbx).drew; clear hb3; simp only [])
        | (go_simp; go_at_call 47; (first | refine hcW.mono ?_ | refine hcD.mono ?_); rintro e w4 ⟨rfl, hb4⟩; have hb5 : Below wr.heap.size wr w4 := (by first | exact below_more (below_more HBQ.out hbx) hb4 | exact below_more (below_more HBQ.out hbx) (below_undrew hb4)); clear hb4; simp only []))
      all_goals
        have hb6 := hb.trans (hb5.mono hb.size)
        clear hcW hcD k0 k1 k2 z0 z1 z2 x0 hb5 hbx
        by_cases h0 : F = 0
        · subst h0
          have HQ : Hid (Bq.first f t.list = Bq.first f (t.list.drop (k + 1))) := by unfold Hid; rw [he.out]; exact HN2.out rfl
          go_wp2
          go_roundw
          case rel => exact ⟨k + 1, by go_num, hlt, HQ, hb6⟩
          case measure => simp [intOf]; omega
        · have hd : ((F : Int) != 0) = true := by rw [bne_iff_ne]; omega
          have HQ : Hid (RES = F) := by unfold Hid; rw [HF.out, he.out]; exact HN1.out h0
          clear h0
          go_wp2
          go_ret
          exact ⟨by rw [HQ.out]; rfl, below_more HB2.out hb6⟩
    · obtain rfl : k = M := by omega
      have hd3 : decide ((k : Int) < (k : Int)) = false := by simp
      have HQ : Hid (RES = 0) := by unfold Hid; rw [HF.out, he.out, List.drop_eq_nil_of_le (by rw [HM.out]; exact Nat.le_refl _)]; rfl
      go_wp2
      go_ret
      exact ⟨by rw [HQ.out]; rfl, below_more HB2.out hb⟩
theorem check_all : ∀ lv, CheckOk lv
  | 0 => check_step 0 fun m e => by omega
  | n + 1 => check_step (n + 1) fun m e => by
    have : n = m := by omega
    subst this
    exact check_all n
end Go.Proofs.Ytkjofadabaecfaa
