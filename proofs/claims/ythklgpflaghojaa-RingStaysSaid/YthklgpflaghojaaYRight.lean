/-
  The contracts of Right and of the document's.
-/
import Derived.Test.YthklgpflaghojaaYFits
import Derived.BigQuiet
import Derived.Lib.QuietBelow
namespace Go.Proofs.Ythklgpflaghojaa
open Go.RowKit Go.Sort

theorem Tells.is_yes {P : Prop} {w w' : World} {e : Ending} (hP : P) (h : Tells P w e w') : e = .returned (.bool true) ∧ Below w.heap.size w w' := by
  obtain ⟨hb, ⟨_, rfl⟩ | ⟨hn, _⟩⟩ := h
  · exact ⟨rfl, hb⟩
  · exact absurd hP hn
theorem Tells.is_no {P : Prop} {w w' : World} {e : Ending} (hP : ¬ P) (h : Tells P w e w') : e = .returned (.bool false) ∧ Below w.heap.size w w' := by
  obtain ⟨hb, ⟨hy, _⟩ | ⟨_, rfl⟩⟩ := h
  · exact absurd hy hP
  · exact ⟨rfl, hb⟩
theorem KsIs.cap {w : World} {ok : Nat → Prop} {A : Option Addr} {n c : Nat} {l : List Kq.K} (h : KsIs w ok (.slice A n c) l) : n ≤ c ∧ c ≤ 9223372036854775807 := by
  obtain ⟨_, ⟨A', c', e, h1, h2, _⟩, _⟩ := h
  injection e with e1 e2 e3
  subst e1 e3
  exact ⟨by omega, h2⟩

set_option maxHeartbeats 1000000 in
set_option maxRecDepth 100000 in
theorem right_any {ok : Nat → Prop} (l : List Kq.K) (A : Option Addr) (c n : Nat) (w : World) (hL : KsIs w ok (.slice A n c) l) (hn : l.length = n) :
    Calls Try.prog 12 #[.slice A n c] w (Tells (Kq.Right l) w) := by
  have HL := Lib.hid hL
  have HN := Lib.hid hn
  have hc := hL.cap
  clear hL hn
  by_cases h8 : 8 < n
  · have d8 : decide ((8 : Int) < (n : Int)) = true := decide_eq_true (by omega)
    have HE : Hid (Tells (Kq.Right l) w (.returned (.bool false)) w) := Tells.no (fun h => by have := h.1; rw [HN.out] at this; omega) (Below.refl _ _)
    go_enter Try.func12, Try.ntmps12
    go_wp2
    go_ret
    exact HE.out
  have d8 : decide ((8 : Int) < (n : Int)) = false := decide_eq_false (by omega)
  go_enter Try.func12, Try.ntmps12
  go_wp2_with fail
  go_loopw [10] (fun i wr => ∃ k : Nat, i = .int .i64 k ∧ k ≤ n ∧ Hid (Kq.Rt (l.take k)) ∧ Below w.heap.size w wr) (fun i _ => n - (intOf i).toNat)
  case atStart => exact ⟨0, rfl, Nat.zero_le _, Kq.Rt.nil, Below.refl _ _⟩
  case round =>
    obtain ⟨k, rfl, hk, he, hb⟩ := hrel
    by_cases hlt : k < n
    · have hLr := HL.out.on hb
      obtain ⟨b, off, x, A1, c1, rfl, _, _, hx, hK, s0, s1, s2, s3⟩ := hLr.elem (by rw [HN.out]; exact hlt)
      obtain ⟨id, sec, made, ends⟩ := x
      simp only at *
      obtain ⟨W2, eW2⟩ : ∃ W2, W2 = wr.alloc (.cells #[.string id, .slice A1 sec.length c1, .int .i64 made, .int .i64 ends] 27) := ⟨_, rfl⟩
      have hb2 : Below wr.heap.size wr W2 := by rw [eW2]; exact below_new _ _
      have hl2 : Lies W2 wr.heap.size 27 [.string id, .slice A1 sec.length c1, .int .i64 made, .int .i64 ends] := by rw [eW2]; exact Lies.new_ rfl
      have hLt := (hLr.take (show k ≤ l.length by rw [HN.out]; exact hk)).on hb2
      have hK2 := hK.on hb2
      have hkc : (k : Int) ≤ (c : Int) := by omega
      have hkl : (l.take k).length = k := by rw [List.length_take, HN.out]; omega
      have HF : Hid (∀ d os, Calls Try.prog 24 #[.slice (some ⟨b, off, none⟩) k c, kv id (.slice A1 sec.length c1) made ends] (grow (redrawn W2 d) os) (Tells (Kq.Fits (l.take k) ⟨id, sec, made, ends⟩) (grow (redrawn W2 d) os))) := fun d os =>
        fits_any _ _ _ _ _ _ _ (hLt.on (below_regrown W2 d os)) hkl (hK2.on (below_regrown W2 d os))
      obtain ⟨⟨y0, y1, y2, y3⟩, _⟩ := hl2.four
      have k0 := cell_regrown y0
      have k1 := cell_regrown y1
      have k2 := cell_regrown y2
      have k3 := cell_regrown y3
      have HB2 := Lib.hid (below_more hb hb2)
      have HX := Lib.hid hx
      have HW2 := Lib.hid eW2
      have HSZ : W2.heap.size = wr.heap.size + 1 := by rw [eW2]; simp
      clear hx hK hb hb2 hl2 hLt hK2 hLr hkl eW2
      go_upto_region 6 with (fail)
      rw [← HW2.out]
      clear s0 s1 s2 s3
      by_cases hF : Kq.Fits (l.take k) ⟨id, sec, made, ends⟩
      · have cF : ∀ d os, Calls Try.prog 24 #[.slice (some ⟨b, off, none⟩) k c, kv id (.slice A1 sec.length c1) made ends] (grow (redrawn W2 d) os) fun e w2 => e = .returned (.bool true) ∧ ∃ r : Regrown, w2 = grow (redrawn W2 r.d) r.os := fun d os => Calls.regrown_of ((HF.out d os).mono fun _ _ h => h.is_yes hF)
        by_cases h3 : made < ends
        · have d3 : decide (ends ≤ made) = false := decide_eq_false (by omega)
          by_cases h4 : 1099511627776 < ends
          · have d4 : decide (1099511627776 < ends) = true := decide_eq_true h4
            have HE : Hid (∀ W', Below W2.heap.size W2 W' → Tells (Kq.Right l) w (.returned (.bool false)) W') := fun W' hW => Tells.no (Kq.rt_not HX.out (fun h => by have : ends ≤ 1099511627776 := h.2.2; omega)) (below_more HB2.out hW)
            clear hF h3 h4
            refine wp_region_quiet_below (by kernel_rfl) (by kernel_rfl) ?_
            repeat (go_big_quiet_step (with_reducible exact cF _ _))
            refine wpQuiet_nil ?_
            intro w' hw'
            obtain ⟨⟨dq, osq⟩, hw''⟩ := hw'
            subst hw''
            have hfin := below_regrown W2 dq osq
            have HQ := Lib.hid (HE.out _ hfin)
            clear cF k0 k1 k2 k3 hfin
            go_wp2
            go_ret
            exact HQ.out
          · have d4 : decide (1099511627776 < ends) = false := decide_eq_false h4
            have HR : Hid (Kq.Rt (l.take (k + 1))) := (Kq.rt_step HX.out).2 ⟨he.out, hF, h3, show ends ≤ 1099511627776 by omega⟩
            clear hF h3 h4
            refine wp_region_quiet_below (by kernel_rfl) (by kernel_rfl) ?_
            repeat (go_big_quiet_step (with_reducible exact cF _ _))
            refine wpQuiet_nil ?_
            intro w' hw'
            obtain ⟨⟨dq, osq⟩, hw''⟩ := hw'
            subst hw''
            have hfin := below_regrown W2 dq osq
            have HQ := Lib.hid (below_more HB2.out hfin)
            clear cF k0 k1 k2 k3 hfin
            go_wp2
            go_roundw
            case rel => exact ⟨k + 1, by go_num, hlt, HR, HQ.out⟩
            case measure => simp [intOf]; omega
        · have d3 : decide (ends ≤ made) = true := decide_eq_true (by omega)
          have HE : Hid (∀ W', Below W2.heap.size W2 W' → Tells (Kq.Right l) w (.returned (.bool false)) W') := fun W' hW => Tells.no (Kq.rt_not HX.out (fun h => h3 h.2.1)) (below_more HB2.out hW)
          clear hF h3
          refine wp_region_quiet_below (by kernel_rfl) (by kernel_rfl) ?_
          repeat (go_big_quiet_step (with_reducible exact cF _ _))
          refine wpQuiet_nil ?_
          intro w' hw'
          obtain ⟨⟨dq, osq⟩, hw''⟩ := hw'
          subst hw''
          have hfin := below_regrown W2 dq osq
          have HQ := Lib.hid (HE.out _ hfin)
          clear cF k0 k1 k2 k3 hfin
          go_wp2
          go_ret
          exact HQ.out
      · have cF : ∀ d os, Calls Try.prog 24 #[.slice (some ⟨b, off, none⟩) k c, kv id (.slice A1 sec.length c1) made ends] (grow (redrawn W2 d) os) fun e w2 => e = .returned (.bool false) ∧ ∃ r : Regrown, w2 = grow (redrawn W2 r.d) r.os := fun d os => Calls.regrown_of ((HF.out d os).mono fun _ _ h => h.is_no hF)
        have HE : Hid (∀ W', Below W2.heap.size W2 W' → Tells (Kq.Right l) w (.returned (.bool false)) W') := fun W' hW => Tells.no (Kq.rt_not HX.out (fun h => hF h.1)) (below_more HB2.out hW)
        clear hF
        refine wp_region_quiet_below (by kernel_rfl) (by kernel_rfl) ?_
        repeat (go_big_quiet_step (with_reducible exact cF _ _))
        refine wpQuiet_nil ?_
        intro w' hw'
        obtain ⟨⟨dq, osq⟩, hw''⟩ := hw'
        subst hw''
        have hfin := below_regrown W2 dq osq
        have HQ := Lib.hid (HE.out _ hfin)
        clear cF k0 k1 k2 k3 hfin
        go_wp2
        go_ret
        exact HQ.out
    · obtain rfl : k = n := by omega
      have hd2 : decide ((k : Int) < (k : Int)) = false := by simp
      have HE : Hid (Tells (Kq.Right l) w (.returned (.bool true)) wr) := Tells.yes (Kq.right_all (by rw [HN.out]; omega) (by rw [HN.out]; exact he.out)) hb
      clear hb
      go_wp2
      go_ret
      exact HE.out

set_option maxHeartbeats 1000000 in
set_option maxRecDepth 100000 in
theorem refRight_any {ok : Nat → Prop} (l : List Kq.K) (A : Option Addr) (c n : Nat) (w : World) (hL : KsIs w ok (.slice A n c) l) (hn : l.length = n) :
    Calls Try.prog 13 #[.slice A n c] w (Tells (Kq.Right l) w) := by
  have HL := Lib.hid hL
  have HN := Lib.hid hn
  have hc := hL.cap
  clear hL hn
  by_cases h8 : 8 < n
  · have d8 : decide ((8 : Int) < (n : Int)) = true := decide_eq_true (by omega)
    have HE : Hid (Tells (Kq.Right l) w (.returned (.bool false)) w) := Tells.no (fun h => by have := h.1; rw [HN.out] at this; omega) (Below.refl _ _)
    go_enter Try.func13, Try.ntmps13
    go_wp2
    go_ret
    exact HE.out
  have d8 : decide ((8 : Int) < (n : Int)) = false := decide_eq_false (by omega)
  go_enter Try.func13, Try.ntmps13
  go_wp2_with fail
  go_loopw [3] (fun i wr => ∃ k : Nat, i = .int .i64 k ∧ k ≤ n ∧ Hid (Kq.Rt (l.take k)) ∧ Below w.heap.size w wr) (fun i _ => n - (intOf i).toNat)
  case atStart => exact ⟨0, rfl, Nat.zero_le _, Kq.Rt.nil, Below.refl _ _⟩
  case round =>
    obtain ⟨k, rfl, hk, he, hb⟩ := hrel
    by_cases hlt : k < n
    · have hLr := HL.out.on hb
      obtain ⟨b, off, x, A1, c1, rfl, _, hblt, hx, hK, s0, s1, s2, s3⟩ := hLr.elem (by rw [HN.out]; exact hlt)
      obtain ⟨id, sec, made, ends⟩ := x
      simp only at *
      obtain ⟨W2, eW2⟩ : ∃ W2, W2 = wr.alloc (.cells #[.string id, .slice A1 sec.length c1, .int .i64 made, .int .i64 ends] 27) := ⟨_, rfl⟩
      have hb2 : Below wr.heap.size wr W2 := by rw [eW2]; exact below_new _ _
      have hl2 : Lies W2 wr.heap.size 27 [.string id, .slice A1 sec.length c1, .int .i64 made, .int .i64 ends] := by rw [eW2]; exact Lies.new_ rfl
      have hL2 := hLr.on hb2
      have hLt := hL2.take (show k ≤ l.length by rw [HN.out]; exact hk)
      have hkc : (k : Int) ≤ (c : Int) := by omega
      have hkl : (l.take k).length = k := by rw [List.length_take, HN.out]; omega
      have HH : Hid (∀ d os, Calls Try.prog 26 #[.slice (some ⟨b, off, none⟩) k c, .string id] (grow (redrawn W2 d) os) (fun e w' => grow (redrawn W2 d) os = w' ∧ ((Kq.Has (l.take k) id ∧ e = .returned (.bool true)) ∨ (¬ Kq.Has (l.take k) id ∧ e = .returned (.bool false))))) := fun d os =>
        has_any _ _ _ _ _ _ (hLt.on (below_regrown W2 d os)) hkl
      have hM := named8_any id W2
      obtain ⟨⟨y0, y1, y2, y3⟩, _⟩ := hl2.four
      have k0 := cell_regrown y0
      have k1 := cell_regrown y1
      have k2 := cell_regrown y2
      have k3 := cell_regrown y3
      have HB2 := Lib.hid (below_more hb hb2)
      have HX := Lib.hid hx
      have HL2 := Lib.hid hL2
      have HLL := Lib.hid hl2
      have HKL := Lib.hid hkl
      have HW2 := Lib.hid eW2
      clear hx hK hb hb2 hl2 hLt hL2 hLr hkl eW2
      go_upto_region 7 with (fail)
      rw [← HW2.out]
      clear s0 s1 s2 s3
      go_wp2_with fail
      refine hM.mono ?_
      rintro e w3 ⟨rfl, ⟨hi, rfl⟩ | ⟨hi, rfl⟩⟩
      · clear hM
        by_cases hm : made < 0
        · have d1 : decide (made < 0) = true := decide_eq_true hm
          have HE : Hid (∀ W', Below W2.heap.size W2 W' → Tells (Kq.Right l) w (.returned (.bool false)) W') := fun W' hW => Tells.no (Kq.rt_not HX.out (fun h => by have : 0 ≤ made := h.1.2.2.1; omega)) (below_more HB2.out hW)
          clear hm hi
          go_upto_region 8 with (fail)
          refine wp_region_quiet_below (by kernel_rfl) (by kernel_rfl) ?_
          repeat (go_big_quiet_step (fail))
          refine wpQuiet_nil ?_
          intro w' hw'
          obtain ⟨⟨dq, osq⟩, hw''⟩ := hw'
          subst hw''
          have hfin := below_regrown W2 dq osq
          have HQ := Lib.hid (HE.out _ hfin)
          clear k0 k1 k2 k3 hfin
          go_wp2
          go_ret
          exact HQ.out
        · have d1 : decide (made < 0) = false := decide_eq_false hm
          by_cases h3 : ends ≤ made
          · have d3 : decide (ends ≤ made) = true := decide_eq_true h3
            have HE : Hid (∀ W', Below W2.heap.size W2 W' → Tells (Kq.Right l) w (.returned (.bool false)) W') := fun W' hW => Tells.no (Kq.rt_not HX.out (fun h => by have : made < ends := h.2.1; omega)) (below_more HB2.out hW)
            clear hm hi h3
            go_upto_region 8 with (fail)
            refine wp_region_quiet_below (by kernel_rfl) (by kernel_rfl) ?_
            repeat (go_big_quiet_step (fail))
            refine wpQuiet_nil ?_
            intro w' hw'
            obtain ⟨⟨dq, osq⟩, hw''⟩ := hw'
            subst hw''
            have hfin := below_regrown W2 dq osq
            have HQ := Lib.hid (HE.out _ hfin)
            clear k0 k1 k2 k3 hfin
            go_wp2
            go_ret
            exact HQ.out
          · have d3 : decide (ends ≤ made) = false := decide_eq_false h3
            by_cases h4 : 1099511627776 < ends
            · have d4 : decide (1099511627776 < ends) = true := decide_eq_true h4
              have HE : Hid (∀ W', Below W2.heap.size W2 W' → Tells (Kq.Right l) w (.returned (.bool false)) W') := fun W' hW => Tells.no (Kq.rt_not HX.out (fun h => by have : ends ≤ 1099511627776 := h.2.2; omega)) (below_more HB2.out hW)
              clear hm hi h3 h4
              go_upto_region 8 with (fail)
              refine wp_region_quiet_below (by kernel_rfl) (by kernel_rfl) ?_
              repeat (go_big_quiet_step (fail))
              refine wpQuiet_nil ?_
              intro w' hw'
              obtain ⟨⟨dq, osq⟩, hw''⟩ := hw'
              subst hw''
              have hfin := below_regrown W2 dq osq
              have HQ := Lib.hid (HE.out _ hfin)
              clear k0 k1 k2 k3 hfin
              go_wp2
              go_ret
              exact HQ.out
            · have d4 : decide (1099511627776 < ends) = false := decide_eq_false h4
              by_cases h5 : Kq.Has (l.take k) id
              · have cH : ∀ d os, Calls Try.prog 26 #[.slice (some ⟨b, off, none⟩) k c, .string id] (grow (redrawn W2 d) os) fun e w2 => e = .returned (.bool true) ∧ ∃ r : Regrown, w2 = grow (redrawn W2 r.d) r.os := fun d os => Calls.regrown_of ((HH.out d os).mono fun _ _ ⟨h1, h2⟩ => by
                  subst h1
                  rcases h2 with ⟨h3, rfl⟩ | ⟨h3, rfl⟩
                  · exact ⟨rfl, Below.refl _ _⟩
                  · exact absurd h5 h3)
                have HE : Hid (∀ W', Below W2.heap.size W2 W' → Tells (Kq.Right l) w (.returned (.bool false)) W') := fun W' hW => Tells.no (Kq.rt_not HX.out (fun h => h.1.1 h5)) (below_more HB2.out hW)
                clear hm hi h3 h4 h5
                go_upto_region 8 with (fail)
                refine wp_region_quiet_below (by kernel_rfl) (by kernel_rfl) ?_
                repeat (go_big_quiet_step (with_reducible exact cH _ _))
                refine wpQuiet_nil ?_
                intro w' hw'
                obtain ⟨⟨dq, osq⟩, hw''⟩ := hw'
                subst hw''
                have hfin := below_regrown W2 dq osq
                have HQ := Lib.hid (HE.out _ hfin)
                clear cH k0 k1 k2 k3 hfin
                go_wp2
                go_ret
                exact HQ.out
              · have cH : ∀ d os, Calls Try.prog 26 #[.slice (some ⟨b, off, none⟩) k c, .string id] (grow (redrawn W2 d) os) fun e w2 => e = .returned (.bool false) ∧ ∃ r : Regrown, w2 = grow (redrawn W2 r.d) r.os := fun d os => Calls.regrown_of ((HH.out d os).mono fun _ _ ⟨h1, h2⟩ => by
                  subst h1
                  rcases h2 with ⟨h3, rfl⟩ | ⟨h3, rfl⟩
                  · exact absurd h3 h5
                  · exact ⟨rfl, Below.refl _ _⟩)
                have HF : Hid ((∀ y, (l.take k).getLast? = some y → y.made ≤ made) → Kq.Rt (l.take (k + 1))) := fun hl => (Kq.rt_step HX.out).2 ⟨he.out, ⟨h5, hi, (show 0 ≤ made by omega), hl⟩, (show made < ends by omega), show ends ≤ 1099511627776 by omega⟩
                have HNF : Hid (¬ (∀ y, (l.take k).getLast? = some y → y.made ≤ made) → ¬ Kq.Right l) := fun hl => Kq.rt_not HX.out (fun h => hl h.1.2.2.2)
                clear hm hi h3 h4 h5
                go_upto_region 8 with (fail)
                refine wp_region_quiet_below (by kernel_rfl) (by kernel_rfl) ?_
                repeat (go_big_quiet_step (with_reducible exact cH _ _))
                refine wpQuiet_nil ?_
                intro w' hw'
                obtain ⟨⟨dq, osq⟩, hw''⟩ := hw'
                subst hw''
                have hfin := below_regrown W2 dq osq
                generalize hWq : grow (redrawn W2 dq) osq = wq at hfin ⊢
                have hb4 := below_more HB2.out hfin
                obtain ⟨⟨z0, z1, z2, z3⟩, _⟩ := (HLL.out.below hfin HLL.out.lt).four
                clear cH k0 k1 k2 k3 y0 y1 y2 y3
                go_upto_region 10 with (fail)
                rcases Nat.eq_zero_or_pos k with h0 | h0
                · have HR := Lib.hid (HF.out (fun y hy => by rw [h0] at hy; cases hy))
                  have dk : decide (0 < (k : Int)) = false := decide_eq_false (by omega)
                  clear hWq hfin
                  go_quiet (fail)
                  go_upto_region 5 with (fail)
                  generalize hw7 : World.drewN wq _ = w7
                  have HQ : Hid (Below w.heap.size w w7) := by rw [← hw7]; exact below_more hb4 (drewN_below _ _)
                  clear hb4 hw7
                  go_wp2
                  go_roundw
                  case rel => exact ⟨k + 1, by go_num, hlt, HR, HQ.out⟩
                  case measure => simp [intOf]; omega
                · obtain ⟨m, em⟩ : ∃ m, k = m + 1 := ⟨k - 1, by omega⟩
                  have hm1 : (k : Int) - 1 = (m : Int) := by omega
                  have hml : m < n := by omega
                  have dk : decide (0 < (k : Int)) = true := decide_eq_true (by omega)
                  obtain ⟨b', off', z, A1', c1', e0, _, _, hz, _, v0, v1, v2, v3⟩ := (HL2.out.on hfin).elem (i := m) (by rw [HN.out]; exact hml)
                  injection e0 with e0
                  injection e0 with e0 e1
                  subst e0 e1
                  have hlast : (l.take k).getLast? = some z := Kq.last_at (l := l.take k) (by rw [HKL.out]; exact em) (by rw [List.getElem?_take, if_pos (by omega)]; exact hz)
                  by_cases hold : made < z.made
                  · have HE : Hid (∀ W', Below wq.heap.size wq W' → Tells (Kq.Right l) w (.returned (.bool false)) W') := fun W' hW => Tells.no (HNF.out (fun h => by have := h z hlast; omega)) (below_more hb4 hW)
                    have dold : decide (made < z.made) = true := decide_eq_true hold
                    clear hWq hfin hz hlast hold em hb4
                    go_quiet (fail)
                    go_upto_region 11 with (fail)
                    generalize hw7 : World.drewN wq _ = w7
                    have HQ := Lib.hid (HE.out w7 (by rw [← hw7]; exact drewN_below _ _))
                    clear hw7
                    go_wp2
                    go_ret
                    exact HQ.out
                  · have HR := Lib.hid (HF.out (fun y hy => by
                      rw [hlast] at hy
                      injection hy with hy
                      subst hy
                      omega))
                    have dold : decide (made < z.made) = false := decide_eq_false hold
                    clear hWq hfin hz hlast hold em
                    go_quiet (fail)
                    go_upto_region 5 with (fail)
                    generalize hw7 : World.drewN wq _ = w7
                    have HQ : Hid (Below w.heap.size w w7) := by rw [← hw7]; exact below_more hb4 (drewN_below _ _)
                    clear hb4 hw7
                    go_wp2
                    go_roundw
                    case rel => exact ⟨k + 1, by go_num, hlt, HR, HQ.out⟩
                    case measure => simp [intOf]; omega
      · clear hM
        have HE : Hid (∀ W', Below W2.heap.size W2 W' → Tells (Kq.Right l) w (.returned (.bool false)) W') := fun W' hW => Tells.no (Kq.rt_not HX.out (fun h => hi h.1.2.1)) (below_more HB2.out hW)
        clear hi
        go_upto_region 8 with (fail)
        refine wp_region_quiet_below (by kernel_rfl) (by kernel_rfl) ?_
        repeat (go_big_quiet_step (fail))
        refine wpQuiet_nil ?_
        intro w' hw'
        obtain ⟨⟨dq, osq⟩, hw''⟩ := hw'
        subst hw''
        have hfin := below_regrown W2 dq osq
        have HQ := Lib.hid (HE.out _ hfin)
        clear k0 k1 k2 k3 hfin
        go_wp2
        go_ret
        exact HQ.out
    · obtain rfl : k = n := by omega
      have hd2 : decide ((k : Int) < (k : Int)) = false := by simp
      have HE : Hid (Tells (Kq.Right l) w (.returned (.bool true)) wr) := Tells.yes (Kq.right_all (by rw [HN.out]; omega) (by rw [HN.out]; exact he.out)) hb
      clear hb
      go_wp2
      go_ret
      exact HE.out
end Go.Proofs.Ythklgpflaghojaa
