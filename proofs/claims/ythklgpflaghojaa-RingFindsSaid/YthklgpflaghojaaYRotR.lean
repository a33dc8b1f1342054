/-
  The contract of the document's Rotate.
-/
import Derived.Test.YthklgpflaghojaaYRot
import Derived.Test.YthklgpflaghojaaYDropR
namespace Go.Proofs.Ythklgpflaghojaa
open Go.RowKit

theorem KsIs.low {w : World} {ok : Nat → Prop} {v : Value} {l : List Kq.K} (h : KsIs w ok v l) : KsIs w (· < w.heap.size) v l := h.keep (fun _ _ hlt => ⟨hlt, rfl⟩) (Nat.le_refl _)
theorem IsK.low {w : World} {ok : Nat → Prop} {v : Value} {x : Kq.K} (h : IsK w ok v x) : IsK w (· < w.heap.size) v x := h.keep (fun _ _ hlt => ⟨hlt, rfl⟩) (Nat.le_refl _)
theorem fits_at {l : List Kq.K} {x : Kq.K} (h1 : ¬ Kq.Has l x.id) (h2 : Kq.IdOk x.id) (h3 : 0 ≤ x.made) (h4 : ∀ y, l.getLast? = some y → y.made ≤ x.made) : Kq.Fits l x := ⟨h1, h2, h3, h4⟩

set_option maxHeartbeats 1000000 in
set_option maxRecDepth 100000 in
theorem refRotate_any {ok ok' : Nat → Prop} (l : List Kq.K) (A : Option Addr) (c n : Nat) (x : Kq.K) (v : Value) (life : Int) (w : World) (hL : KsIs w ok (.slice A n c) l) (hn : l.length = n) (h : IsK w ok' v x) (hi : I64 life) :
    Calls Try.prog 15 #[.slice A n c, v, .int .i64 life] w (RotEnd (fun _ => True) (Kq.rotate l x life) w) := by
  obtain ⟨B, d, rfl, hS, hlt, hm1, hm2⟩ := h
  obtain ⟨id, sec, made, ends⟩ := x
  simp only at *
  obtain ⟨W1, eW1⟩ : ∃ W1, W1 = w.alloc (.cells #[.string id, .slice B sec.length d, .int .i64 made, .int .i64 ends] 27) := ⟨_, rfl⟩
  have hb1 : Below w.heap.size w W1 := by rw [eW1]; exact below_new _ _
  have hl1 : Lies W1 w.heap.size 27 [.string id, .slice B sec.length d, .int .i64 made, .int .i64 ends] := by rw [eW1]; exact Lies.new_ rfl
  have hK1 : IsK W1 ok' (kv id (.slice B sec.length d) made ends) ⟨id, sec, made, ends⟩ := IsK.on ⟨B, d, rfl, hS, hlt, hm1, hm2⟩ hb1
  have hL1 := hL.on hb1
  have hM := named8_any id W1
  have hH := has_any l A c n id W1 hL1 hn
  have HB := Lib.hid hb1
  have HL1 := Lib.hid hl1
  have HK1 := Lib.hid hK1
  have HKS := Lib.hid hL1
  have HN := Lib.hid hn
  obtain ⟨⟨y0, y1, y2, y3⟩, _⟩ := hl1.four
  have HNO : Hid (∀ W', Below W1.heap.size W1 W' → ¬ (1 ≤ life ∧ made < Kq.maxC ∧ Kq.Fits l ⟨id, sec, made, ends⟩) → RotEnd (fun _ => True) (Kq.rotate l ⟨id, sec, made, ends⟩ life) w (.returned (.tuple #[.slice none 0 0, .int .i64 90])) W') := fun W' hW h => RotEnd.no (Kq.rot_key h) (.inl rfl) (below_more hb1 hW)
  have hcN := hL.len
  rw [hn] at hcN
  rw [eW1] at hM
  have HW := Lib.hid eW1
  clear hb1 hl1 hK1 hL1 hL hn hS hlt eW1 y0 y1 y3
  go_enter Try.func15, Try.ntmps15
  go_wp2_with fail
  refine hM.mono ?_
  rintro e w2 hh
  rw [← HW.out] at hh
  obtain ⟨rfl, hh⟩ := hh
  clear hM
  have HRF := Lib.hid (Below.refl W1.heap.size W1)
  obtain ⟨⟨y0, y1, _, y3⟩, _⟩ := HL1.out.four
  by_cases h1 : life < 1
  · have d1 : decide (life < 1) = true := decide_eq_true h1
    have HE := Lib.hid (HNO.out W1 HRF.out (fun h => by have := h.1; omega))
    clear hH
    rcases hh with ⟨hk, rfl⟩ | ⟨hk, rfl⟩
    all_goals
      clear hk
      go_wp2
      go_ret2
      exact HE.out
  have d1 : decide (life < 1) = false := decide_eq_false h1
  by_cases h2 : made < 0
  · have d2 : decide (made < 0) = true := decide_eq_true h2
    have HE := Lib.hid (HNO.out W1 HRF.out (fun h => by have : 0 ≤ made := h.2.2.2.2.1; omega))
    clear hH
    rcases hh with ⟨hk, rfl⟩ | ⟨hk, rfl⟩
    all_goals
      clear hk
      go_wp2
      go_ret2
      exact HE.out
  have d2 : decide (made < 0) = false := decide_eq_false h2
  by_cases h3 : 1099511627776 ≤ made
  · have d3 : decide (1099511627776 ≤ made) = true := decide_eq_true h3
    have HE := Lib.hid (HNO.out W1 HRF.out (fun h => by have : made < 1099511627776 := h.2.1; omega))
    clear hH
    rcases hh with ⟨hk, rfl⟩ | ⟨hk, rfl⟩
    all_goals
      clear hk
      go_wp2
      go_ret2
      exact HE.out
  have d3 : decide (1099511627776 ≤ made) = false := decide_eq_false h3
  rcases hh with ⟨hk, rfl⟩ | ⟨hk, rfl⟩
  rotate_left
  · have HE := Lib.hid (HNO.out W1 HRF.out (fun h => hk h.2.2.2.1))
    clear hH hk
    go_wp2
    go_ret2
    exact HE.out
  go_wp2_with fail
  refine hH.mono ?_
  rintro e w2 ⟨rfl, ⟨hq, rfl⟩ | ⟨hq, rfl⟩⟩
  · have HE := Lib.hid (HNO.out W1 HRF.out (fun h => h.2.2.1 hq))
    clear hH hk hq
    go_wp2
    go_ret2
    exact HE.out
  have HF : Hid ((∀ y, l.getLast? = some y → y.made ≤ made) → 1 ≤ life ∧ made < Kq.maxC ∧ Kq.Fits l ⟨id, sec, made, ends⟩) := fun h => ⟨by omega, by show made < 1099511627776; omega, hq, hk, (show 0 ≤ made by omega), h⟩
  clear hH hk hq
  clear HW y0 y1 y3
  rcases Nat.eq_zero_or_pos n with h0 | h0
  · subst h0
    have HOLD : Hid (∀ y, l.getLast? = some y → y.made ≤ made) := fun y hy => by
      have : l = [] := List.eq_nil_of_length_eq_zero HN.out
      rw [this] at hy
      cases hy
    go_upto_region 4 with (fail)
    go_quiet (fail)
    go_upto_region 6 with (fail)
    generalize hw7 : World.drewN W1 _ = w7
    have hb7 : Below W1.heap.size W1 w7 := by rw [← hw7]; exact drewN_below _ _
    have HOK := Lib.hid (HF.out HOLD.out)
    have HB7 := Lib.hid (below_more HB.out hb7)
    have HL7 := Lib.hid (HL1.out.below hb7 HL1.out.lt)
    have HK7 := Lib.hid (HK1.out.on hb7).low
    obtain ⟨⟨_, _, y2, _⟩, _⟩ := HL7.out.four
    have hD := refDrop_any l _ c _ made w7 (HKS.out.on hb7).low HN.out (fun _ h => h)
    clear hw7 hb7
    go_wp2_with fail
    refine hD.mono ?_
    rintro e w3 ⟨lv, rfl, hrow, hb3⟩
    clear hD y2
    obtain ⟨m, em⟩ : ∃ m, (Kq.drop made l).length = m := ⟨_, rfl⟩
    rw [em] at hrow
    obtain ⟨Ad, cd, rfl⟩ := hrow.form
    have HEM := Lib.hid em
    have HROW := Lib.hid hrow
    have HB37 := Lib.hid hb3
    have HB3 := Lib.hid (below_more HB7.out hb3)
    obtain ⟨⟨y0, y1, y2, y3⟩, _⟩ := (HL7.out.below hb3 HL7.out.lt).four
    clear em hrow hb3
    by_cases h8 : 8 ≤ m
    · have d8 : decide ((8 : Int) ≤ (m : Int)) = true := decide_eq_true (by omega)
      have HE : Hid (RotEnd (fun _ => True) (Kq.rotate l ⟨id, sec, made, ends⟩ life) w (.returned (.tuple #[.slice none 0 0, .int .i64 91])) w3) := RotEnd.no (Kq.rot_full HOK.out (by show ¬ (Kq.drop made l).length < 8; rw [HEM.out]; omega)) (.inr rfl) HB3.out
      go_wp2
      go_ret2
      exact HE.out
    have d8 : decide ((8 : Int) ≤ (m : Int)) = false := decide_eq_false (by omega)
    by_cases h9 : life < 1099511627776 - made
    · have d9 : decide (life < 1099511627776 - made) = true := decide_eq_true h9
      have HLE : Hid (Kq.lived made life = made + life) := by unfold Hid Kq.lived; rw [if_pos h9]
      go_upto_region 12 with (fail)
      obtain ⟨r1, r2, vs, r3, r4, r5⟩ := HROW.out
      obtain ⟨i0, hi0, hz0, hz1, hz2⟩ := info_parts infoKey
      have HRES : Hid (∀ A' c' w', Below w.heap.size w w' → KsIs w' (fun _ => True) (.slice A' (m + 1) c') (Kq.drop made l ++ [⟨id, sec, made, made + life⟩]) → RotEnd (fun _ => True) (Kq.rotate l ⟨id, sec, made, ends⟩ life) w (.returned (.tuple #[.slice A' (m + 1) c', .int .i64 0])) w') := fun A' c' w' hb hK => ⟨hb, by
        rw [Kq.rot_ok HOK.out (by show (Kq.drop made l).length < 8; rw [HEM.out]; omega)]
        have e : (Kq.drop made l ++ [⟨id, sec, made, made + life⟩] : List Kq.K).length = m + 1 := by rw [List.length_append, HEM.out]; rfl
        have e2 : Kq.newest ⟨id, sec, made, ends⟩ life = ⟨id, sec, made, made + life⟩ := by unfold Kq.newest; simp only; rw [HLE.out]
        show ∃ A c, _ ∧ KsIs w' _ (.slice A (Kq.drop made l ++ [Kq.newest ⟨id, sec, made, ends⟩ life]).length c) (Kq.drop made l ++ [Kq.newest ⟨id, sec, made, ends⟩ life])
        rw [e2, e]
        exact ⟨A', c', rfl, hK⟩⟩
      have HIK : Hid (IsK w3 (fun b => b < w7.heap.size ∧ (Value.slice Ad m cd).ownBlock ≠ some b) (kv id (.slice B sec.length d) made (made + life)) ⟨id, sec, made, made + life⟩) := by
        obtain ⟨A', c', e, hS, hl, i1, i2⟩ := HK7.out
        injection e with e
        injection e with e
        simp only [List.cons.injEq, Value.slice.injEq, and_true, true_and] at e
        obtain ⟨rfl, rfl⟩ := e
        have h5 : I64 (made + life) := by constructor <;> omega
        exact ⟨B, d, rfl, hS.keep (ok' := fun b => b < w7.heap.size ∧ (Value.slice Ad m cd).ownBlock ≠ some b) (fun b hb _ => ⟨⟨hb, fun e => by
          have := (HROW.out.lt b e).1
          have hb' : b < w7.heap.size := hb
          omega⟩, HB37.out.block b hb⟩) HB37.out.size, hl, i1, h5⟩
      repeat ((fail_if_success (with_reducible show wpList _ _ _ (⟨some 78, _, _, _, _, _⟩ :: _) _ _)); first | go_values | go_skip | go_guarded | go_step | go_upon | go_back | go_simp)
      with_reducible refine wpList_append_own_at _ rfl (.tmp 68) (.tmp 77) 22 rfl w7.heap.size 27 i0 (kv ByteArray.empty nilS 0 0) 4 56 Try.underlying22 hi0 hz0 hz1 hz2 rfl (by decide) (.slice Ad m cd) m (vs.flatMap jcells) ?s1 (own_below r4 (below_new _ _)) ⟨w3.heap.size, 0, none⟩ 1 1 (jcells (kv id (.slice B sec.length d) made (made + life))) ?s2 rfl ?s3 (kv_ones _ _ _ _ _ _) ?s4 ?s5 ?s6 ?_
      case s1 => rfl
      case s2 => rfl
      case s3 => exact fun j u hj => new_cells w3 _ _ j u hj
      case s4 => unfold maxLen; omega
      case s5 => omega
      case s6 => exact Nat.le_trans r1 (below_new w3 _).size
      intro lv6 w6 hown6 hgr6 _ hat6
      have hbz := below_new w3 (.cells #[.string id, .slice B sec.length d, .int .i64 made, .int .i64 (made + life)] 27)
      have hR6 := rowK_more (Nat.le_trans r1 hbz.size) HEM.out r3 (fun i v x e1 e2 => (r5 i v x e1 e2).on hbz) (HIK.out.on hbz) hown6 hgr6 hat6
      obtain ⟨A6, c6, rfl⟩ := hR6.form
      have hBW := HB7.out.size
      have HB6 := Lib.hid ((below_more HB3.out hbz).grown hgr6 (Nat.le_trans (Nat.le_trans hBW r1) hbz.size) (fun k e => Nat.le_trans hBW (r4.lt k e).1))
      have HE := Lib.hid (HRES.out A6 c6 w6 HB6.out (hR6.list (Q := fun _ => True) (fun _ _ => trivial) (fun _ _ => trivial) (by omega)))
      clear hown6 hgr6 hat6 hbz r1 r2 r3 r4 r5 hi0 hz0 hz1 hz2 hR6 y0 y1 y2 y3
      go_frame
      go_wp2
      go_ret2
      exact HE.out
    · have d9 : decide (life < 1099511627776 - made) = false := decide_eq_false h9
      have HLE : Hid (Kq.lived made life = 1099511627776) := by unfold Hid Kq.lived; rw [if_neg h9]
      go_upto_region 12 with (fail)
      obtain ⟨r1, r2, vs, r3, r4, r5⟩ := HROW.out
      obtain ⟨i0, hi0, hz0, hz1, hz2⟩ := info_parts infoKey
      have HRES : Hid (∀ A' c' w', Below w.heap.size w w' → KsIs w' (fun _ => True) (.slice A' (m + 1) c') (Kq.drop made l ++ [⟨id, sec, made, 1099511627776⟩]) → RotEnd (fun _ => True) (Kq.rotate l ⟨id, sec, made, ends⟩ life) w (.returned (.tuple #[.slice A' (m + 1) c', .int .i64 0])) w') := fun A' c' w' hb hK => ⟨hb, by
        rw [Kq.rot_ok HOK.out (by show (Kq.drop made l).length < 8; rw [HEM.out]; omega)]
        have e : (Kq.drop made l ++ [⟨id, sec, made, 1099511627776⟩] : List Kq.K).length = m + 1 := by rw [List.length_append, HEM.out]; rfl
        have e2 : Kq.newest ⟨id, sec, made, ends⟩ life = ⟨id, sec, made, 1099511627776⟩ := by unfold Kq.newest; simp only; rw [HLE.out]
        show ∃ A c, _ ∧ KsIs w' _ (.slice A (Kq.drop made l ++ [Kq.newest ⟨id, sec, made, ends⟩ life]).length c) (Kq.drop made l ++ [Kq.newest ⟨id, sec, made, ends⟩ life])
        rw [e2, e]
        exact ⟨A', c', rfl, hK⟩⟩
      have HIK : Hid (IsK w3 (fun b => b < w7.heap.size ∧ (Value.slice Ad m cd).ownBlock ≠ some b) (kv id (.slice B sec.length d) made (1099511627776)) ⟨id, sec, made, 1099511627776⟩) := by
        obtain ⟨A', c', e, hS, hl, i1, i2⟩ := HK7.out
        injection e with e
        injection e with e
        simp only [List.cons.injEq, Value.slice.injEq, and_true, true_and] at e
        obtain ⟨rfl, rfl⟩ := e
        have h5 : I64 (1099511627776) := by constructor <;> omega
        exact ⟨B, d, rfl, hS.keep (ok' := fun b => b < w7.heap.size ∧ (Value.slice Ad m cd).ownBlock ≠ some b) (fun b hb _ => ⟨⟨hb, fun e => by
          have := (HROW.out.lt b e).1
          have hb' : b < w7.heap.size := hb
          omega⟩, HB37.out.block b hb⟩) HB37.out.size, hl, i1, h5⟩
      repeat ((fail_if_success (with_reducible show wpList _ _ _ (⟨some 78, _, _, _, _, _⟩ :: _) _ _)); first | go_values | go_skip | go_guarded | go_step | go_upon | go_back | go_simp)
      with_reducible refine wpList_append_own_at _ rfl (.tmp 68) (.tmp 77) 22 rfl w7.heap.size 27 i0 (kv ByteArray.empty nilS 0 0) 4 56 Try.underlying22 hi0 hz0 hz1 hz2 rfl (by decide) (.slice Ad m cd) m (vs.flatMap jcells) ?s1 (own_below r4 (below_new _ _)) ⟨w3.heap.size, 0, none⟩ 1 1 (jcells (kv id (.slice B sec.length d) made (1099511627776))) ?s2 rfl ?s3 (kv_ones _ _ _ _ _ _) ?s4 ?s5 ?s6 ?_
      case s1 => rfl
      case s2 => rfl
      case s3 => exact fun j u hj => new_cells w3 _ _ j u hj
      case s4 => unfold maxLen; omega
      case s5 => omega
      case s6 => exact Nat.le_trans r1 (below_new w3 _).size
      intro lv6 w6 hown6 hgr6 _ hat6
      have hbz := below_new w3 (.cells #[.string id, .slice B sec.length d, .int .i64 made, .int .i64 (1099511627776)] 27)
      have hR6 := rowK_more (Nat.le_trans r1 hbz.size) HEM.out r3 (fun i v x e1 e2 => (r5 i v x e1 e2).on hbz) (HIK.out.on hbz) hown6 hgr6 hat6
      obtain ⟨A6, c6, rfl⟩ := hR6.form
      have hBW := HB7.out.size
      have HB6 := Lib.hid ((below_more HB3.out hbz).grown hgr6 (Nat.le_trans (Nat.le_trans hBW r1) hbz.size) (fun k e => Nat.le_trans hBW (r4.lt k e).1))
      have HE := Lib.hid (HRES.out A6 c6 w6 HB6.out (hR6.list (Q := fun _ => True) (fun _ _ => trivial) (fun _ _ => trivial) (by omega)))
      clear hown6 hgr6 hat6 hbz r1 r2 r3 r4 r5 hi0 hz0 hz1 hz2 hR6 y0 y1 y2 y3
      go_frame
      go_wp2
      go_ret2
      exact HE.out
  · obtain ⟨j, em⟩ : ∃ j, n = j + 1 := ⟨n - 1, by omega⟩
    have hm1 : (n : Int) - 1 = (j : Int) := by omega
    have hml : j < n := by omega
    obtain ⟨b, off, z, A1, c1, rfl, _, _, hx, _, s0, s1, s2, s3⟩ := HKS.out.elem (i := j) (by rw [HN.out]; exact hml)
    have hlast := Kq.last_at (by rw [HN.out]; exact em) hx
    have h0k : decide (0 < (n : Int)) = true := decide_eq_true (by omega)
    clear hx em
    by_cases hold : made < z.made
    · have HNE : Hid (∀ W', Below W1.heap.size W1 W' → RotEnd (fun _ => True) (Kq.rotate l ⟨id, sec, made, ends⟩ life) w (.returned (.tuple #[.slice none 0 0, .int .i64 90])) W') := fun W' hW => HNO.out W' hW (fun h => by
        have : z.made ≤ made := h.2.2.2.2.2 z hlast
        omega)
      have dold : decide (made < z.made) = true := decide_eq_true hold
      clear hlast
      go_upto_region 4 with (fail)
      go_quiet (fail)
      go_upto_region 5 with (fail)
      generalize hw7 : World.drewN W1 _ = w7
      have HE := Lib.hid (HNE.out w7 (by rw [← hw7]; exact drewN_below _ _))
      clear hw7
      go_wp2
      go_ret2
      exact HE.out
    · have HOLD : Hid (∀ y, l.getLast? = some y → y.made ≤ made) := fun y hy => by
        rw [hlast] at hy
        injection hy with hy
        subst hy
        omega
      have dold : decide (made < z.made) = false := decide_eq_false hold
      clear hlast
      go_upto_region 4 with (fail)
      go_quiet (fail)
      go_upto_region 6 with (fail)
      clear s0 s1 s2 s3 hold dold
      generalize hw7 : World.drewN W1 _ = w7
      have hb7 : Below W1.heap.size W1 w7 := by rw [← hw7]; exact drewN_below _ _
      have HOK := Lib.hid (HF.out HOLD.out)
      have HB7 := Lib.hid (below_more HB.out hb7)
      have HL7 := Lib.hid (HL1.out.below hb7 HL1.out.lt)
      have HK7 := Lib.hid (HK1.out.on hb7).low
      obtain ⟨⟨_, _, y2, _⟩, _⟩ := HL7.out.four
      have hD := refDrop_any l _ c _ made w7 (HKS.out.on hb7).low HN.out (fun _ h => h)
      clear hw7 hb7
      go_wp2_with fail
      refine hD.mono ?_
      rintro e w3 ⟨lv, rfl, hrow, hb3⟩
      clear hD y2
      obtain ⟨m, em⟩ : ∃ m, (Kq.drop made l).length = m := ⟨_, rfl⟩
      rw [em] at hrow
      obtain ⟨Ad, cd, rfl⟩ := hrow.form
      have HEM := Lib.hid em
      have HROW := Lib.hid hrow
      have HB37 := Lib.hid hb3
      have HB3 := Lib.hid (below_more HB7.out hb3)
      obtain ⟨⟨y0, y1, y2, y3⟩, _⟩ := (HL7.out.below hb3 HL7.out.lt).four
      clear em hrow hb3
      by_cases h8 : 8 ≤ m
      · have d8 : decide ((8 : Int) ≤ (m : Int)) = true := decide_eq_true (by omega)
        have HE : Hid (RotEnd (fun _ => True) (Kq.rotate l ⟨id, sec, made, ends⟩ life) w (.returned (.tuple #[.slice none 0 0, .int .i64 91])) w3) := RotEnd.no (Kq.rot_full HOK.out (by show ¬ (Kq.drop made l).length < 8; rw [HEM.out]; omega)) (.inr rfl) HB3.out
        go_wp2
        go_ret2
        exact HE.out
      have d8 : decide ((8 : Int) ≤ (m : Int)) = false := decide_eq_false (by omega)
      by_cases h9 : life < 1099511627776 - made
      · have d9 : decide (life < 1099511627776 - made) = true := decide_eq_true h9
        have HLE : Hid (Kq.lived made life = made + life) := by unfold Hid Kq.lived; rw [if_pos h9]
        go_upto_region 12 with (fail)
        obtain ⟨r1, r2, vs, r3, r4, r5⟩ := HROW.out
        obtain ⟨i0, hi0, hz0, hz1, hz2⟩ := info_parts infoKey
        have HRES : Hid (∀ A' c' w', Below w.heap.size w w' → KsIs w' (fun _ => True) (.slice A' (m + 1) c') (Kq.drop made l ++ [⟨id, sec, made, made + life⟩]) → RotEnd (fun _ => True) (Kq.rotate l ⟨id, sec, made, ends⟩ life) w (.returned (.tuple #[.slice A' (m + 1) c', .int .i64 0])) w') := fun A' c' w' hb hK => ⟨hb, by
          rw [Kq.rot_ok HOK.out (by show (Kq.drop made l).length < 8; rw [HEM.out]; omega)]
          have e : (Kq.drop made l ++ [⟨id, sec, made, made + life⟩] : List Kq.K).length = m + 1 := by rw [List.length_append, HEM.out]; rfl
          have e2 : Kq.newest ⟨id, sec, made, ends⟩ life = ⟨id, sec, made, made + life⟩ := by unfold Kq.newest; simp only; rw [HLE.out]
          show ∃ A c, _ ∧ KsIs w' _ (.slice A (Kq.drop made l ++ [Kq.newest ⟨id, sec, made, ends⟩ life]).length c) (Kq.drop made l ++ [Kq.newest ⟨id, sec, made, ends⟩ life])
          rw [e2, e]
          exact ⟨A', c', rfl, hK⟩⟩
        have HIK : Hid (IsK w3 (fun b => b < w7.heap.size ∧ (Value.slice Ad m cd).ownBlock ≠ some b) (kv id (.slice B sec.length d) made (made + life)) ⟨id, sec, made, made + life⟩) := by
          obtain ⟨A', c', e, hS, hl, i1, i2⟩ := HK7.out
          injection e with e
          injection e with e
          simp only [List.cons.injEq, Value.slice.injEq, and_true, true_and] at e
          obtain ⟨rfl, rfl⟩ := e
          have h5 : I64 (made + life) := by constructor <;> omega
          exact ⟨B, d, rfl, hS.keep (ok' := fun b => b < w7.heap.size ∧ (Value.slice Ad m cd).ownBlock ≠ some b) (fun b hb _ => ⟨⟨hb, fun e => by
            have := (HROW.out.lt b e).1
            have hb' : b < w7.heap.size := hb
            omega⟩, HB37.out.block b hb⟩) HB37.out.size, hl, i1, h5⟩
        repeat ((fail_if_success (with_reducible show wpList _ _ _ (⟨some 78, _, _, _, _, _⟩ :: _) _ _)); first | go_values | go_skip | go_guarded | go_step | go_upon | go_back | go_simp)
        with_reducible refine wpList_append_own_at _ rfl (.tmp 68) (.tmp 77) 22 rfl w7.heap.size 27 i0 (kv ByteArray.empty nilS 0 0) 4 56 Try.underlying22 hi0 hz0 hz1 hz2 rfl (by decide) (.slice Ad m cd) m (vs.flatMap jcells) ?s1 (own_below r4 (below_new _ _)) ⟨w3.heap.size, 0, none⟩ 1 1 (jcells (kv id (.slice B sec.length d) made (made + life))) ?s2 rfl ?s3 (kv_ones _ _ _ _ _ _) ?s4 ?s5 ?s6 ?_
        case s1 => rfl
        case s2 => rfl
        case s3 => exact fun j u hj => new_cells w3 _ _ j u hj
        case s4 => unfold maxLen; omega
        case s5 => omega
        case s6 => exact Nat.le_trans r1 (below_new w3 _).size
        intro lv6 w6 hown6 hgr6 _ hat6
        have hbz := below_new w3 (.cells #[.string id, .slice B sec.length d, .int .i64 made, .int .i64 (made + life)] 27)
        have hR6 := rowK_more (Nat.le_trans r1 hbz.size) HEM.out r3 (fun i v x e1 e2 => (r5 i v x e1 e2).on hbz) (HIK.out.on hbz) hown6 hgr6 hat6
        obtain ⟨A6, c6, rfl⟩ := hR6.form
        have hBW := HB7.out.size
        have HB6 := Lib.hid ((below_more HB3.out hbz).grown hgr6 (Nat.le_trans (Nat.le_trans hBW r1) hbz.size) (fun k e => Nat.le_trans hBW (r4.lt k e).1))
        have HE := Lib.hid (HRES.out A6 c6 w6 HB6.out (hR6.list (Q := fun _ => True) (fun _ _ => trivial) (fun _ _ => trivial) (by omega)))
        clear hown6 hgr6 hat6 hbz r1 r2 r3 r4 r5 hi0 hz0 hz1 hz2 hR6 y0 y1 y2 y3
        go_frame
        go_wp2
        go_ret2
        exact HE.out
      · have d9 : decide (life < 1099511627776 - made) = false := decide_eq_false h9
        have HLE : Hid (Kq.lived made life = 1099511627776) := by unfold Hid Kq.lived; rw [if_neg h9]
        go_upto_region 12 with (fail)
        obtain ⟨r1, r2, vs, r3, r4, r5⟩ := HROW.out
        obtain ⟨i0, hi0, hz0, hz1, hz2⟩ := info_parts infoKey
        have HRES : Hid (∀ A' c' w', Below w.heap.size w w' → KsIs w' (fun _ => True) (.slice A' (m + 1) c') (Kq.drop made l ++ [⟨id, sec, made, 1099511627776⟩]) → RotEnd (fun _ => True) (Kq.rotate l ⟨id, sec, made, ends⟩ life) w (.returned (.tuple #[.slice A' (m + 1) c', .int .i64 0])) w') := fun A' c' w' hb hK => ⟨hb, by
          rw [Kq.rot_ok HOK.out (by show (Kq.drop made l).length < 8; rw [HEM.out]; omega)]
          have e : (Kq.drop made l ++ [⟨id, sec, made, 1099511627776⟩] : List Kq.K).length = m + 1 := by rw [List.length_append, HEM.out]; rfl
          have e2 : Kq.newest ⟨id, sec, made, ends⟩ life = ⟨id, sec, made, 1099511627776⟩ := by unfold Kq.newest; simp only; rw [HLE.out]
          show ∃ A c, _ ∧ KsIs w' _ (.slice A (Kq.drop made l ++ [Kq.newest ⟨id, sec, made, ends⟩ life]).length c) (Kq.drop made l ++ [Kq.newest ⟨id, sec, made, ends⟩ life])
          rw [e2, e]
          exact ⟨A', c', rfl, hK⟩⟩
        have HIK : Hid (IsK w3 (fun b => b < w7.heap.size ∧ (Value.slice Ad m cd).ownBlock ≠ some b) (kv id (.slice B sec.length d) made (1099511627776)) ⟨id, sec, made, 1099511627776⟩) := by
          obtain ⟨A', c', e, hS, hl, i1, i2⟩ := HK7.out
          injection e with e
          injection e with e
          simp only [List.cons.injEq, Value.slice.injEq, and_true, true_and] at e
          obtain ⟨rfl, rfl⟩ := e
          have h5 : I64 (1099511627776) := by constructor <;> omega
          exact ⟨B, d, rfl, hS.keep (ok' := fun b => b < w7.heap.size ∧ (Value.slice Ad m cd).ownBlock ≠ some b) (fun b hb _ => ⟨⟨hb, fun e => by
            have := (HROW.out.lt b e).1
            have hb' : b < w7.heap.size := hb
            omega⟩, HB37.out.block b hb⟩) HB37.out.size, hl, i1, h5⟩
        repeat ((fail_if_success (with_reducible show wpList _ _ _ (⟨some 78, _, _, _, _, _⟩ :: _) _ _)); first | go_values | go_skip | go_guarded | go_step | go_upon | go_back | go_simp)
        with_reducible refine wpList_append_own_at _ rfl (.tmp 68) (.tmp 77) 22 rfl w7.heap.size 27 i0 (kv ByteArray.empty nilS 0 0) 4 56 Try.underlying22 hi0 hz0 hz1 hz2 rfl (by decide) (.slice Ad m cd) m (vs.flatMap jcells) ?s1 (own_below r4 (below_new _ _)) ⟨w3.heap.size, 0, none⟩ 1 1 (jcells (kv id (.slice B sec.length d) made (1099511627776))) ?s2 rfl ?s3 (kv_ones _ _ _ _ _ _) ?s4 ?s5 ?s6 ?_
        case s1 => rfl
        case s2 => rfl
        case s3 => exact fun j u hj => new_cells w3 _ _ j u hj
        case s4 => unfold maxLen; omega
        case s5 => omega
        case s6 => exact Nat.le_trans r1 (below_new w3 _).size
        intro lv6 w6 hown6 hgr6 _ hat6
        have hbz := below_new w3 (.cells #[.string id, .slice B sec.length d, .int .i64 made, .int .i64 (1099511627776)] 27)
        have hR6 := rowK_more (Nat.le_trans r1 hbz.size) HEM.out r3 (fun i v x e1 e2 => (r5 i v x e1 e2).on hbz) (HIK.out.on hbz) hown6 hgr6 hat6
        obtain ⟨A6, c6, rfl⟩ := hR6.form
        have hBW := HB7.out.size
        have HB6 := Lib.hid ((below_more HB3.out hbz).grown hgr6 (Nat.le_trans (Nat.le_trans hBW r1) hbz.size) (fun k e => Nat.le_trans hBW (r4.lt k e).1))
        have HE := Lib.hid (HRES.out A6 c6 w6 HB6.out (hR6.list (Q := fun _ => True) (fun _ _ => trivial) (fun _ _ => trivial) (by omega)))
        clear hown6 hgr6 hat6 hbz r1 r2 r3 r4 r5 hi0 hz0 hz1 hz2 hR6 y0 y1 y2 y3
        go_frame
        go_wp2
        go_ret2
        exact HE.out
end Go.Proofs.Ythklgpflaghojaa
