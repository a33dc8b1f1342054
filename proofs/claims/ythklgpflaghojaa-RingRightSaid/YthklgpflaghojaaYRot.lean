/-
  The contract of Rotate.
-/
import Derived.Test.YthklgpflaghojaaYDrop
import Derived.Test.YthklgpflaghojaaYFits
namespace Go.Proofs.Ythklgpflaghojaa
open Go.RowKit

/-- What Rotate answers. -/
def RotEnd (ok : Nat → Prop) (res : Except Int (List Kq.K)) (w : World) (e : Ending) (w' : World) : Prop := Below w.heap.size w w' ∧ match res with
  | .ok m => ∃ A c, e = .returned (.tuple #[.slice A m.length c, .int .i64 0]) ∧ KsIs w' ok (.slice A m.length c) m
  | .error n => e = .returned (.tuple #[.slice none 0 0, .int .i64 n]) ∧ (n = 90 ∨ n = 91)
theorem RotEnd.no {ok : Nat → Prop} {res : Except Int (List Kq.K)} {n : Int} {w w' : World} (h : res = .error n) (hn : n = 90 ∨ n = 91) (hb : Below w.heap.size w w') : RotEnd ok res w (.returned (.tuple #[.slice none 0 0, .int .i64 n])) w' := ⟨hb, by rw [h]; exact ⟨rfl, hn⟩⟩
theorem Kq.lived_min (made life : Int) : Kq.lived made life = made + min life (1099511627776 - made) := by
  unfold Kq.lived Kq.maxC
  split <;> omega
theorem Kq.rot_key {l : List Kq.K} {k : Kq.K} {life : Int} (h : ¬ (1 ≤ life ∧ k.made < Kq.maxC ∧ Kq.Fits l k)) : Kq.rotate l k life = .error 90 := by unfold Kq.rotate; rw [if_neg h]
theorem Kq.rot_full {l : List Kq.K} {k : Kq.K} {life : Int} (h : 1 ≤ life ∧ k.made < Kq.maxC ∧ Kq.Fits l k) (h8 : ¬ (Kq.drop k.made l).length < 8) : Kq.rotate l k life = .error 91 := by unfold Kq.rotate; rw [if_pos h, if_neg h8]
theorem Kq.rot_ok {l : List Kq.K} {k : Kq.K} {life : Int} (h : 1 ≤ life ∧ k.made < Kq.maxC ∧ Kq.Fits l k) (h8 : (Kq.drop k.made l).length < 8) : Kq.rotate l k life = .ok (Kq.drop k.made l ++ [Kq.newest k life]) := by unfold Kq.rotate; rw [if_pos h, if_pos h8]

set_option maxHeartbeats 1000000 in
set_option maxRecDepth 100000 in
theorem rotate_any {ok ok' : Nat → Prop} (l : List Kq.K) (A : Option Addr) (c n : Nat) (x : Kq.K) (v : Value) (life : Int) (w : World) (hL : KsIs w ok (.slice A n c) l) (hn : l.length = n) (h : IsK w ok' v x) (hi : I64 life) :
    Calls Try.prog 14 #[.slice A n c, v, .int .i64 life] w (RotEnd (w.heap.size ≤ ·) (Kq.rotate l x life) w) := by
  obtain ⟨B, d, rfl, hS, hlt, hm1, hm2⟩ := h
  obtain ⟨id, sec, made, ends⟩ := x
  simp only at *
  obtain ⟨W1, eW1⟩ : ∃ W1, W1 = w.alloc (.cells #[.string id, .slice B sec.length d, .int .i64 made, .int .i64 ends] 27) := ⟨_, rfl⟩
  have hb1 : Below w.heap.size w W1 := by rw [eW1]; exact below_new _ _
  have hl1 : Lies W1 w.heap.size 27 [.string id, .slice B sec.length d, .int .i64 made, .int .i64 ends] := by rw [eW1]; exact Lies.new_ rfl
  have hK1 : IsK W1 ok' (kv id (.slice B sec.length d) made ends) ⟨id, sec, made, ends⟩ := IsK.on ⟨B, d, rfl, hS, hlt, hm1, hm2⟩ hb1
  have hL1 := hL.on hb1
  have hF := fits_any l A c n _ _ W1 hL1 hn hK1
  have HB := Lib.hid hb1
  have HL1 := Lib.hid hl1
  have HK1 := Lib.hid hK1
  have HKS := Lib.hid hL1
  have HN := Lib.hid hn
  have HSZ : Hid (W1.heap.size = w.heap.size + 1) := by unfold Hid; rw [eW1]; simp
  rw [eW1] at hF
  have HW := Lib.hid eW1
  clear hb1 hl1 hK1 hL1 hL hn hS hlt eW1
  by_cases h1 : life < 1
  · have d1 : decide (life < 1) = true := decide_eq_true h1
    have HE : Hid (RotEnd (w.heap.size ≤ ·) (Kq.rotate l ⟨id, sec, made, ends⟩ life) w (.returned (.tuple #[.slice none 0 0, .int .i64 90])) W1) := RotEnd.no (Kq.rot_key (fun h => by have := h.1; omega)) (.inl rfl) HB.out
    rw [HW.out] at HE
    clear hF
    go_enter Try.func14, Try.ntmps14
    go_wp2
    go_ret2
    exact HE.out
  have d1 : decide (life < 1) = false := decide_eq_false h1
  by_cases h2 : 1099511627776 ≤ made
  · have d2 : decide (1099511627776 ≤ made) = true := decide_eq_true h2
    have HE : Hid (RotEnd (w.heap.size ≤ ·) (Kq.rotate l ⟨id, sec, made, ends⟩ life) w (.returned (.tuple #[.slice none 0 0, .int .i64 90])) W1) := RotEnd.no (Kq.rot_key (fun h => by have : made < 1099511627776 := h.2.1; omega)) (.inl rfl) HB.out
    rw [HW.out] at HE
    clear hF
    go_enter Try.func14, Try.ntmps14
    go_wp2
    go_ret2
    exact HE.out
  have d2 : decide (1099511627776 ≤ made) = false := decide_eq_false h2
  go_enter Try.func14, Try.ntmps14
  go_wp2_with fail
  refine hF.mono ?_
  rintro e w2 hh
  rw [← HW.out] at hh
  clear hF
  obtain ⟨hb2, ⟨hf, rfl⟩ | ⟨hf, rfl⟩⟩ := hh
  rotate_left
  · have HE : Hid (RotEnd (w.heap.size ≤ ·) (Kq.rotate l ⟨id, sec, made, ends⟩ life) w (.returned (.tuple #[.slice none 0 0, .int .i64 90])) w2) := RotEnd.no (Kq.rot_key (fun h => hf h.2.2)) (.inl rfl) (below_more HB.out hb2)
    clear hf hb2
    go_wp2
    go_ret2
    exact HE.out
  have HOK : Hid (1 ≤ life ∧ made < Kq.maxC ∧ Kq.Fits l ⟨id, sec, made, ends⟩) := ⟨by omega, by show made < 1099511627776; omega, hf⟩
  have h0 : 0 ≤ made := hf.2.2.1
  obtain ⟨⟨y0, y1, y2, y3⟩, _⟩ := (HL1.out.below hb2 HL1.out.lt).four
  have hD := drop_any l A c n made w2 (HKS.out.on hb2) HN.out
  have HB2 := Lib.hid (below_more HB.out hb2)
  have HL2 := Lib.hid (HL1.out.below hb2 HL1.out.lt)
  have HK2 := Lib.hid (HK1.out.on hb2)
  clear hf hb2
  go_wp2_with fail
  refine hD.mono ?_
  rintro e w3 ⟨lv, rfl, hrow, hb3⟩
  clear hD y0 y1 y2 y3
  obtain ⟨m, em⟩ : ∃ m, (Kq.drop made l).length = m := ⟨_, rfl⟩
  rw [em] at hrow
  obtain ⟨Ad, cd, rfl⟩ := hrow.form
  have HEM := Lib.hid em
  have HROW := Lib.hid hrow
  have HB3 := Lib.hid (below_more HB2.out hb3)
  have HL3 := Lib.hid (HL2.out.below hb3 HL2.out.lt)
  have HK3 := Lib.hid (HK2.out.on hb3)
  clear em hrow hb3
  by_cases h8 : 8 ≤ m
  · have d8 : decide ((8 : Int) ≤ (m : Int)) = true := decide_eq_true (by omega)
    have HE : Hid (RotEnd (w.heap.size ≤ ·) (Kq.rotate l ⟨id, sec, made, ends⟩ life) w (.returned (.tuple #[.slice none 0 0, .int .i64 91])) w3) := RotEnd.no (Kq.rot_full HOK.out (by show ¬ (Kq.drop made l).length < 8; rw [HEM.out]; omega)) (.inr rfl) HB3.out
    go_wp2
    go_ret2
    exact HE.out
  have d8 : decide ((8 : Int) ≤ (m : Int)) = false := decide_eq_false (by omega)
  have hC := copied_any _ _ w3 HK3.out
  obtain ⟨⟨y0, y1, y2, y3⟩, _⟩ := HL3.out.four
  go_wp2_with fail
  refine hC.mono ?_
  rintro e w4 ⟨A4, c4, rfl, hK4, hb4⟩
  clear hC y0 y1 y2 y3
  simp only at *
  have hl4 := HL3.out.below hb4 HL3.out.lt
  have hlv : (made + if 1099511627776 - made < life then 1099511627776 - made else life) = Kq.lived made life := by
    unfold Kq.lived Kq.maxC
    split <;> split <;> omega
  have y2 := ((hl4.alloc (.cells #[.string id, .slice A4 sec.length c4, .int .i64 made, .int .i64 ends] 27))).four.1.2.2.1
  have HLV := Lib.hid hlv
  have HK4 := Lib.hid hK4
  have HB4 := Lib.hid (below_more HB3.out hb4)
  have HROW4 := Lib.hid (HROW.out.on hb4)
  have HLT := Lib.hid HROW.out.lt
  clear hl4 hlv hK4 hb4
  go_upto_region 8 with (fail)
  rw [HLV.out]
  generalize (if 1099511627776 - made < life then 1099511627776 - made else life) = MN
  obtain ⟨LV, eLV⟩ : ∃ LV, Kq.lived made life = LV := ⟨_, rfl⟩
  obtain ⟨W5, eW5⟩ : ∃ W5, W5 = w4.alloc (.cells #[.string id, .slice A4 sec.length c4, .int .i64 made, .int .i64 LV] 27) := ⟨_, rfl⟩
  rw [eLV, ← eW5]
  have hb5 : Below w4.heap.size w4 W5 := by rw [eW5]; exact below_new _ _
  have hl5 : Lies W5 w4.heap.size 27 [.string id, .slice A4 sec.length c4, .int .i64 made, .int .i64 LV] := by rw [eW5]; exact Lies.new_ rfl
  obtain ⟨⟨z0, z1, z2, z3⟩, _⟩ := hl5.four
  have HLE := Lib.hid eLV
  have HRES : Hid (∀ A' c' w', Below w.heap.size w w' → KsIs w' (w.heap.size ≤ ·) (.slice A' (m + 1) c') (Kq.drop made l ++ [⟨id, sec, made, LV⟩]) → RotEnd (w.heap.size ≤ ·) (Kq.rotate l ⟨id, sec, made, ends⟩ life) w (.returned (.tuple #[.slice A' (m + 1) c', .int .i64 0])) w') := fun A' c' w' hb hK => ⟨hb, by
    rw [Kq.rot_ok HOK.out (by show (Kq.drop made l).length < 8; rw [HEM.out]; omega)]
    have e : (Kq.drop made l ++ [⟨id, sec, made, LV⟩] : List Kq.K).length = m + 1 := by rw [List.length_append, HEM.out]; rfl
    have e2 : Kq.newest ⟨id, sec, made, ends⟩ life = ⟨id, sec, made, LV⟩ := by unfold Kq.newest; simp only; rw [HLE.out]
    show ∃ A c, _ ∧ KsIs w' _ (.slice A (Kq.drop made l ++ [Kq.newest ⟨id, sec, made, ends⟩ life]).length c) (Kq.drop made l ++ [Kq.newest ⟨id, sec, made, ends⟩ life])
    rw [e2, e]
    exact ⟨A', c', rfl, hK⟩⟩
  obtain ⟨r1, r2, vs, r3, r4, r5⟩ := HROW4.out.on hb5
  obtain ⟨i0, hi0, hz0, hz1, hz2⟩ := info_parts infoKey
  have hsz : w4.heap.size ≤ W5.heap.size := hb5.size
  have HIK : Hid (IsK W5 (fun b => w2.heap.size ≤ b ∧ (Value.slice Ad m cd).ownBlock ≠ some b) (kv id (.slice A4 sec.length c4) made LV) ⟨id, sec, made, LV⟩) := by
    obtain ⟨A', c', e, hS, hl, i1, i2⟩ := HK4.out
    injection e with e
    injection e with e
    simp only [List.cons.injEq, Value.slice.injEq, and_true, true_and] at e
    obtain ⟨rfl, rfl⟩ := e
    refine ⟨A4, c4, rfl, (hS.keep (ok' := fun b => w2.heap.size ≤ b ∧ (Value.slice Ad m cd).ownBlock ≠ some b) (fun b hb _ => ⟨⟨Nat.le_trans HROW.out.ge hb, fun e => by
      have := (HLT.out b e).2
      have hb' : w3.heap.size ≤ b := hb
      omega⟩, rfl⟩) (Nat.le_refl _)).on hb5, hl, i1, ?_⟩
    have h1 := Kq.lived_le made life HOK.out.1 HOK.out.2.1
    rw [HLE.out] at h1
    obtain ⟨h1, h2⟩ := h1
    have h2 : LV ≤ 1099511627776 := h2
    have h5 : I64 LV := ⟨by omega, by omega⟩
    exact h5
  clear eW5 eLV y2
  repeat ((fail_if_success (with_reducible show wpList _ _ _ (⟨some 44, _, _, _, _, _⟩ :: _) _ _)); first | go_values | go_skip | go_guarded | go_step | go_upon | go_back | go_simp)
  with_reducible refine wpList_append_own_at _ rfl (.tmp 41) (.tmp 43) 22 rfl w2.heap.size 27 i0 (kv ByteArray.empty nilS 0 0) 4 56 Try.underlying22 hi0 hz0 hz1 hz2 rfl (by decide) (.slice Ad m cd) m (vs.flatMap jcells) ?s1 (own_below r4 (below_new _ _)) ⟨W5.heap.size, 0, none⟩ 1 1 (jcells (kv id (.slice A4 sec.length c4) made LV)) ?s2 rfl ?s3 (kv_ones _ _ _ _ _ _) ?s4 ?s5 ?s6 ?_
  case s1 => rfl
  case s2 => rfl
  case s3 => exact fun j u hj => new_cells W5 _ _ j u hj
  case s4 => unfold maxLen; omega
  case s5 => omega
  case s6 => exact Nat.le_trans r1 (below_new W5 _).size
  intro lv6 w6 hown6 hgr6 _ hat6
  have hbz := below_new W5 (.cells #[.string id, .slice A4 sec.length c4, .int .i64 made, .int .i64 LV] 27)
  have hR6 := rowK_more (Nat.le_trans r1 hbz.size) HEM.out r3 (fun i v x e1 e2 => (r5 i v x e1 e2).on hbz) (HIK.out.on hbz) hown6 hgr6 hat6
  obtain ⟨A6, c6, rfl⟩ := hR6.form
  have hBW := HB2.out.size
  have HB6 := Lib.hid (((below_more (below_more HB4.out hb5) hbz).grown hgr6 (Nat.le_trans (Nat.le_trans hBW r1) hbz.size) (fun k e => Nat.le_trans hBW (r4.lt k e).1)))
  have HE := Lib.hid (HRES.out A6 c6 w6 HB6.out (hR6.list (Q := (w.heap.size ≤ ·)) (fun b hb => Nat.le_trans hBW hb) (fun b hb => Nat.le_trans hBW hb) (by omega)))
  clear hown6 hgr6 hat6 hbz r1 r2 r3 r4 r5 hi0 hz0 hz1 hz2 hR6 hb5 hl5 z0 z1 z2 z3
  go_frame
  go_wp2
  go_ret2
  exact HE.out
end Go.Proofs.Ythklgpflaghojaa
