/-
  The document's with: an object of its own with a name more.
-/
import Derived.Test.YtoocejcoaojaiaaDoorVWith
import Derived.Test.YtoocejcoaojaiaaDoorSlotsL
import Derived.Test.YtoocejcoaojaiaaDoorJOnto
namespace Go.Proofs.YtoocejcoaojaiaaDoor
open Go.RowKit

theorem lit26 (a : Array Value) (h : a.size = 26) : ∃ x0 x1 x2 x3 x4 x5 x6 x7 x8 x9 x10 x11 x12 x13 x14 x15 x16 x17 x18 x19 x20 x21 x22 x23 x24 x25, a = #[x0, x1, x2, x3, x4, x5, x6, x7, x8, x9, x10, x11, x12, x13, x14, x15, x16, x17, x18, x19, x20, x21, x22, x23, x24, x25] := by
  obtain ⟨l⟩ := a
  match l, h with
  | [x0, x1, x2, x3, x4, x5, x6, x7, x8, x9, x10, x11, x12, x13, x14, x15, x16, x17, x18, x19, x20, x21, x22, x23, x24, x25], _ => exact ⟨x0, x1, x2, x3, x4, x5, x6, x7, x8, x9, x10, x11, x12, x13, x14, x15, x16, x17, x18, x19, x20, x21, x22, x23, x24, x25, rfl⟩
theorem own_apart {w : World} {B B' n n' : Nat} {v v' : Value} {xs ys : List Value} (h : w.ownsRow B 9 1 v n xs) (h' : w.ownsRow B' 28 6 v' n' ys) : ∀ b, v.ownBlock = some b → v'.ownBlock ≠ some b := by
  intro b e e'
  rcases h.2 with ⟨rfl, _⟩ | ⟨g, cap, cur, rfl, _, hg, _⟩
  · cases e
  rcases h'.2 with ⟨rfl, _⟩ | ⟨g', cap', cur', rfl, _, hg', _⟩
  · cases e'
  have e : g = b := by simpa [Value.ownBlock] using e
  have e' : g' = b := by simpa [Value.ownBlock] using e'
  subst e e'
  rw [hg] at hg'
  injection hg' with hg'
  injection hg' with _ h2 _
  exact absurd h2 (by decide)
/-- The world while the region runs. -/
structure WithI (w w4 : World) (B : Nat) (nv : Value) (n : Nat) (xs : List Value) (lv : Value) (m : Nat) (ys uc : List Value) (t : Value) (L : Array Bool) (W : World) : Prop where
  below : Below w.heap.size w W
  grown : w4.heap.size ≤ W.heap.size
  arg : Lies W (w.heap.size + 1) 28 uc
  out : L.getD 9 true = false → Lies W (w.heap.size + 2) 28 zero6
  names : L.getD 3 true = false → W.ownsRow B 9 1 nv n xs
  list : L.getD 7 true = false → W.ownsRow B 28 6 lv m ys
  call : L.getD 8 true = true → L.getD 3 true = true ∧ L.getD 7 true = true
  done : L.getD 9 true = true → L.getD 3 true = true ∧ L.getD 7 true = true ∧ ∃ A n' c A' m' c', Lies W (w.heap.size + 2) 28 [.int .i64 5, .bool false, .int .i64 0, .string ByteArray.empty, .slice A n' c, .slice A' m' c'] ∧ W.ownsRow B 9 1 (.slice A n' c) (n + 1) (xs ++ [t]) ∧ W.ownsRow B 28 6 (.slice A' m' c') (m + 1) (ys ++ uc)
/-- What lies in the region's slots. -/
def WithF (w4 : World) (B : Nat) (nv : Value) (n : Nat) (xs : List Value) (lv : Value) (m : Nat) (ys uc : List Value) (t : Value) (_ : Array Bool) : Nat → Value → World → Prop
  | 0, v, _ => v = nv
  | 1, v, _ => v = t
  | 2, v, W => ∃ p, v = .slice (some ⟨p, 0, none⟩) 1 1 ∧ w4.heap.size ≤ p ∧ Lies W p 9 [t]
  | 3, v, W => ∃ A n' c, v = .slice A n' c ∧ W.ownsRow B 9 1 (.slice A n' c) (n + 1) (xs ++ [t])
  | 4, v, _ => v = lv
  | 5, v, _ => v = .agg uc.toArray
  | 6, v, W => ∃ p, v = .slice (some ⟨p, 0, none⟩) 1 1 ∧ w4.heap.size ≤ p ∧ Lies W p 28 uc
  | 7, v, W => ∃ A n' c, v = .slice A n' c ∧ W.ownsRow B 28 6 (.slice A n' c) (m + 1) (ys ++ uc)
  | 8, v, W => ∃ A n' c A' m' c', v = jv 5 false 0 ByteArray.empty (.slice A n' c) (.slice A' m' c') ∧ W.ownsRow B 9 1 (.slice A n' c) (n + 1) (xs ++ [t]) ∧ W.ownsRow B 28 6 (.slice A' m' c') (m + 1) (ys ++ uc)
  | _, _, _ => True
section
variable {w w4 W W' : World} {B n m i : Nat} {nv lv t : Value} {xs ys uc : List Value} {L : Array Bool}
theorem WithI.on (h : WithI w w4 B nv n xs lv m ys uc t L W) (h3 : i ≠ 3) (h7 : i ≠ 7) (h9 : i ≠ 9) (h8 : i = 8 → L.getD 3 true = true ∧ L.getD 7 true = true) (hb : Below W.heap.size W W') : WithI w w4 B nv n xs lv m ys uc t (L.setIfInBounds i true) W' := by
  refine ⟨below_more h.below hb, Nat.le_trans h.grown hb.size, h.arg.below hb h.arg.lt, fun e => ?_, fun e => ?_, fun e => ?_, fun e => ?_, fun e => ?_⟩
  · rw [getD_set h9] at e; exact (h.out e).below hb (h.out e).lt
  · rw [getD_set h3] at e; exact own_below (h.names e) hb
  · rw [getD_set h7] at e; exact own_below (h.list e) hb
  · by_cases h : i = 8
    · exact ⟨getD_mono (h8 h).1, getD_mono (h8 h).2⟩
    · rw [getD_set h] at e
      rename_i hI
      exact ⟨getD_mono (hI.call e).1, getD_mono (hI.call e).2⟩
  · rw [getD_set h9] at e
    obtain ⟨a, b, A, n', c, A', m', c', k1, k2, k3⟩ := h.done e
    exact ⟨getD_mono a, getD_mono b, A, n', c, A', m', c', k1.below hb k1.lt, own_below k2 hb, own_below k3 hb⟩
theorem WithF.on (hb : Below W.heap.size W W') : ∀ j u, WithF w4 B nv n xs lv m ys uc t L j u W → WithF w4 B nv n xs lv m ys uc t (L.setIfInBounds i true) j u W' := by
  intro j u h
  match j, h with
  | 0, h => exact h
  | 1, h => exact h
  | 2, ⟨p, h1, h2, h4⟩ => exact ⟨p, h1, h2, h4.below hb h4.lt⟩
  | 3, ⟨A, n', c, h1, h2⟩ => exact ⟨A, n', c, h1, own_below h2 hb⟩
  | 4, h => exact h
  | 5, h => exact h
  | 6, ⟨p, h1, h2, h4⟩ => exact ⟨p, h1, h2, h4.below hb h4.lt⟩
  | 7, ⟨A, n', c, h1, h2⟩ => exact ⟨A, n', c, h1, own_below h2 hb⟩
  | 8, ⟨A, n', c, A', m', c', h1, h2, h4⟩ => exact ⟨A, n', c, A', m', c', h1, own_below h2 hb, own_below h4 hb⟩
  | j + 9, _ => exact trivial
end
/-- How the document's with ends. -/
def WithREnd (ok : Nat → Prop) (ns : List (List Nat)) (l : List Jq.J) (w : World) (e : Ending) (w' : World) : Prop :=
  ∃ A n c A' n' c', e = .returned (jv 5 false 0 ByteArray.empty (.slice A n c) (.slice A' n' c')) ∧ SlIs w' (fun b => ok b ∨ w.heap.size ≤ b) (.slice A n c) ns.length (tcells ns) ∧ ListIs w' (fun b => ok b ∨ w.heap.size ≤ b) (.slice A' n' c') l ∧ Below w.heap.size w w'

set_option maxHeartbeats 1000000 in
set_option maxRecDepth 100000 in
theorem refWith_any {ok : Nat → Prop} {ns : List (List Nat)} {l : List Jq.J} {nv lv u : Value} {y : Jq.J} {t : List Nat} {kd : Int} (w : World) (hS : SlIs w ok nv ns.length (tcells ns)) (hL : ListIs w ok lv l) (hJ : IsJ w ok u y) (hn : ns.length ≤ 1000) (hl : l.length ≤ 1000) :
    Calls Tryd.prog 33 #[jv kd false 0 ByteArray.empty nv lv, .string (strOf t), u] w (WithREnd ok (ns ++ [t]) (l ++ [y]) w) := by
  obtain ⟨A9, c9, rfl⟩ := hS.form
  obtain ⟨A0, c0, rfl⟩ := hL.form
  obtain ⟨B1, d1, B2, d2, rfl⟩ := hJ.form
  obtain ⟨n, en⟩ : ∃ n, ns.length = n := ⟨_, rfl⟩
  obtain ⟨m, em⟩ : ∃ m, l.length = m := ⟨_, rfl⟩
  rw [en] at hS hn
  rw [em] at hL hl
  rw [en, em]
  obtain ⟨W0, eW0⟩ : ∃ W0, W0 = ((w.alloc (.cells #[.int .i64 kd, .bool false, .int .i64 0, .string ByteArray.empty, .slice A9 n c9, .slice A0 m c0] 28)).alloc (.cells #[.int .i64 y.kind, .bool y.bool, .int .i64 y.int, .string (strOf y.text), .slice B1 y.names.length d1, .slice B2 y.list.length d2] 28)).alloc (.cells #[.int .i64 0, .bool false, .int .i64 0, .string { data := #[] }, .slice none 0 0, .slice none 0 0] 28) := ⟨_, rfl⟩
  have hb0 : Below w.heap.size w W0 := by rw [eW0]; exact ((one_alloc _ _).alloc (by simp) _).alloc (by simp; omega) _
  have hs0 : W0.heap.size = w.heap.size + 3 := by rw [eW0]; simp
  have hv0 : Lies W0 w.heap.size 28 [.int .i64 kd, .bool false, .int .i64 0, .string ByteArray.empty, .slice A9 n c9, .slice A0 m c0] := by rw [eW0]; exact ((Lies.new_ rfl).alloc _).alloc _
  have hu0 : Lies W0 (w.heap.size + 1) 28 [.int .i64 y.kind, .bool y.bool, .int .i64 y.int, .string (strOf y.text), .slice B1 y.names.length d1, .slice B2 y.list.length d2] := by rw [eW0]; exact (Lies.new_ (by simp)).alloc _
  have hz0 : Lies W0 (w.heap.size + 2) 28 zero6 := by rw [eW0]; exact Lies.new_ (by simp)
  have HW0 := Lib.hid eW0
  have HB0 := Lib.hid hb0
  have HS0 := Lib.hid hs0
  have HV0 := Lib.hid hv0
  have HU0 := Lib.hid hu0
  have HZ0 := Lib.hid hz0
  have HS := Lib.hid hS
  have HL := Lib.hid hL
  have HJ := Lib.hid hJ
  have HN := Lib.hid en
  have HM := Lib.hid em
  have hvw : ∃ W1, W1 = W0.alloc (.cells #[] 9) := ⟨_, rfl⟩
  obtain ⟨W1, eW1⟩ := hvw
  have hb1 : Below W0.heap.size W0 W1 := by rw [eW1]; exact one_alloc _ _
  obtain ⟨⟨_, _, _, _, z4, z5⟩, _⟩ := (hv0.below hb1 hv0.lt).six
  have how1 : W1.ownsRow W0.heap.size 9 1 (.slice (some ⟨w.heap.size + 1 + 1 + 1, 0, none⟩) 0 0) 0 [] := by
    have := World.ownsRow_made (base := W0.heap.size) (e := 9) (size := 1) W0 #[] 0 (Nat.le_refl _) (Nat.zero_le _) rfl
    rw [eW1]
    rw [hs0] at this ⊢
    exact this
  obtain ⟨i1, hi1, hy0, hy1, hy2⟩ := info_parts infoText
  have HW1 := Lib.hid eW1
  have HB1 := Lib.hid hb1
  have hz4w : (w.alloc (.cells #[.int .i64 kd, .bool false, .int .i64 0, .string ByteArray.empty, .slice A9 n c9, .slice A0 m c0] 28)) = (w.alloc (.cells #[.int .i64 kd, .bool false, .int .i64 0, .string ByteArray.empty, .slice A9 n c9, .slice A0 m c0] 28)) := rfl
  clear hS hL hJ hb0 hv0 hu0 hz0 en em hb1 hz4w
  rw [eW1, eW0] at z4 z5
  clear eW0 eW1
  go_enter Tryd.func33, Tryd.ntmps33
  repeat ((fail_if_success (with_reducible show wpList _ _ _ (⟨some 12, _, _, _, _, _⟩ :: _) _ _)); first | go_values | go_skip | go_guarded | go_step | go_upon | go_back | go_simp)
  rw [← HW0.out, ← HW1.out]
  clear z4 z5
  with_reducible refine append_rows rfl (.tmp 9) (.tmp 11) 25 rfl (base := W0.heap.size) (n := n) (size := 1) (bytes := 16) (h := w.heap.size + 1 + 1 + 1) (A := A9) (c := c9) (cs := tcells ns) 9 i1 (.string ByteArray.empty) Tryd.underlying25 hi1 hy0 hy1 hy2 rfl (by decide) ?s1 ?s2 how1 (HS.out.on (below_more HB0.out HB1.out)) (by rw [tcells_length, HN.out, Nat.mul_one]) (tcells_ones _) (by omega) (by unfold maxLen; omega) HB1.out.size ?_
  case s1 => rfl
  case s2 => rfl
  intro v2 w2 hown2 hgr2 hat2
  obtain ⟨A2, c2, rfl⟩ := own_slice hown2
  have hs1 : W1.heap.size = w.heap.size + 4 := by rw [HW1.out]; simp [hs0]
  have hb2 : Below W0.heap.size W0 w2 := HB1.out.grown hgr2 HB1.out.size (fun k e => by injection e with e; omega)
  obtain ⟨W3, eW3⟩ : ∃ W3, W3 = w2.alloc (.cells #[] 28) := ⟨_, rfl⟩
  have hb3 : Below w2.heap.size w2 W3 := by rw [eW3]; exact one_alloc _ _
  have hs3 : W3.heap.size = w2.heap.size + 1 := by rw [eW3]; simp
  have hsz2 := hgr2.size
  have hbw3 : Below W0.heap.size W0 W3 := below_more hb2 hb3
  have how3 : W3.ownsRow W0.heap.size 28 6 (.slice (some ⟨w2.heap.size, 0, none⟩) 0 0) 0 [] := by
    rw [eW3]
    exact World.ownsRow_made (base := W0.heap.size) (e := 28) (size := 6) w2 #[] 0 hb2.size (Nat.zero_le _) rfl
  obtain ⟨vs, hvS0, hvl, hl88, hel⟩ := HL.out
  have hvS := hvS0.on (below_more HB0.out hbw3)
  clear hvS0
  rw [HM.out] at hvS hvl
  have hv1 := row_ones (hvl.trans HM.out.symm) hel
  have hflat : (vs.flatMap jcells).length = m * 6 := by
    rw [List.length_flatMap]
    have : vs.map (fun v => (jcells v).length) = List.replicate m 6 := by
      apply List.ext_getElem
      · simp [hvl]
      · intro i h1 h2
        simp at h1
        rw [List.getElem_map, List.getElem_replicate]
        exact jcells_len (hel i _ (l[i]'(by rw [HM.out]; omega)) (List.getElem?_eq_getElem _) (List.getElem?_eq_getElem _))
    rw [this]
    simp
  obtain ⟨i0, hi0, hj0, hj1, hj2⟩ := info_parts infoJson
  have HV3 := Lib.hid (HV0.out.below hbw3 HV0.out.lt)
  have HU3 := Lib.hid (HU0.out.below hbw3 HU0.out.lt)
  have HZ3 := Lib.hid (HZ0.out.below hbw3 HZ0.out.lt)
  have HN3 := Lib.hid (own_below hown2 hb3)
  have HBW3 := Lib.hid hbw3
  have HW3 := Lib.hid eW3
  have HOW3 := Lib.hid how3
  have HEL := Lib.hid hel
  have HVL := Lib.hid hvl
  have HVS := Lib.hid hvS
  have HV1 := Lib.hid hv1
  have HFL := Lib.hid hflat
  have HHW : Hid (w2.heap.size < W3.heap.size ∧ W0.heap.size ≤ w2.heap.size) := ⟨by omega, hb2.size⟩
  clear hown2 hgr2 hat2 how1 hb2 hb3 hbw3 how3 hvS hvl hel hv1 hflat eW3 hs1 hs3 hsz2 hi1 hy0 hy1 hy2
  go_frame
  go_upto_region 2 with (fail)
  obtain ⟨⟨_, _, _, _, _, z5⟩, _⟩ := HV3.out.six
  rw [HW3.out] at z5
  repeat ((fail_if_success (with_reducible show wpList _ _ _ (⟨some 16, _, _, _, _, _⟩ :: _) _ _)); first | go_values | go_skip | go_guarded | go_step | go_upon | go_back | go_simp)
  rw [← HW3.out]
  clear z5
  with_reducible refine append_rows rfl (.tmp 13) (.tmp 15) 26 rfl (base := W0.heap.size) (n := m) (size := 6) (bytes := 88) (h := w2.heap.size) (A := A0) (c := c0) (cs := vs.flatMap jcells) 28 i0 (jv 0 false 0 ByteArray.empty nilS nilS) Tryd.underlying26 hi0 hj0 hj1 hj2 rfl (by decide) ?s1 ?s2 HOW3.out HVS.out HFL.out HV1.out (by omega) (by unfold maxLen; omega) HBW3.out.size ?_
  case s1 => rfl
  case s2 => rfl
  intro v4 w4 hown4 hgr4 hat4
  obtain ⟨A4, c4, rfl⟩ := own_slice hown4
  have hb4 : Below W0.heap.size W0 w4 := HBW3.out.grown hgr4 HBW3.out.size (fun k e => by injection e with e; have := HHW.out; omega)
  have hn4 := HN3.out.kept hgr4 (.inr (fun e => own_apart HN3.out HOW3.out w2.heap.size e rfl))
  have hu4 : Lies w4 (w.heap.size + 1) 28 [.int .i64 y.kind, .bool y.bool, .int .i64 y.int, .string (strOf y.text), .slice B1 y.names.length d1, .slice B2 y.list.length d2] := HU0.out.below hb4 HU0.out.lt
  have hz4 : Lies w4 (w.heap.size + 2) 28 zero6 := HZ0.out.below hb4 HZ0.out.lt
  have hbw4 : Below w.heap.size w w4 := below_more HB0.out hb4
  obtain ⟨B, eB⟩ : ∃ B, W0.heap.size = B := ⟨_, rfl⟩
  have hBs : B = w.heap.size + 3 := by rw [← eB]; exact HS0.out
  have hB4 : B ≤ w4.heap.size := by rw [← eB]; exact hb4.size
  rw [eB] at hown4 hn4
  have HU4 := Lib.hid hu4
  have HZ4 := Lib.hid hz4
  have HBW4 := Lib.hid hbw4
  have HN4 := Lib.hid hn4
  have HL4 := Lib.hid hown4
  have HBS := Lib.hid hBs
  have HB4 := Lib.hid hB4
  clear hown4 hgr4 hat4 hb4 hn4 hu4 hz4 hbw4 eB hBs hB4 hi0 hj0 hj1 hj2 hs0 hl88
  go_frame
  go_upto_region 3 with (fail)
  clear HW0 HW1 HW3 HS0 HB0 HB1 HV0 HU0 HZ0 HV3 HU3 HZ3 HN3 HBW3 HOW3 HHW HS HL
  refine wp_region_slotsL (by kernel_rfl) (WithI w w4 B (.slice A2 n c2) n (tcells ns) (.slice A4 m c4) m (vs.flatMap jcells) [.int .i64 y.kind, .bool y.bool, .int .i64 y.int, .string (strOf y.text), .slice B1 y.names.length d1, .slice B2 y.list.length d2] (.string (strOf t))) (WithF w4 B (.slice A2 n c2) n (tcells ns) (.slice A4 m c4) m (vs.flatMap jcells) [.int .i64 y.kind, .bool y.bool, .int .i64 y.int, .string (strOf y.text), .slice B1 y.names.length d1, .slice B2 y.list.length d2] (.string (strOf t))) ⟨HBW4.out.drew, Nat.le_refl _, HU4.out, fun _ => HZ4.out, fun _ => HN4.out.drew, fun _ => HL4.out.drew, (fun h => by simp at h), fun h => by simp at h⟩ (by kernel_rfl) ?step ?fin
  case step =>
    intro i o ho listed a W hinv hun hall K' hK
    have hI := hinv.world
    have hB4 := HB4.out
    have hBS := HBS.out
    match i, ho with
    | 0, ho =>
      obtain rfl := oper_at ho rfl
      have E1 : a.tmps[7]? = some (.slice A2 n c2) := hinv.old 7 (by simp)
      refine slot_value rfl (w' := W) (v := .slice A2 n c2) ?_ ?_
      · go_simp
      · exact hK _ _ (hI.on (by decide) (by decide) (by decide) (fun e => by cases e) (Below.refl _ _)) rfl (fun j u _ => WithF.on (Below.refl _ _) j u)
    | 1, ho =>
      obtain rfl := oper_at ho rfl
      have E1 : a.tmps[1]? = some (.string (strOf t)) := hinv.old 1 (by simp)
      refine slot_value rfl (w' := W) (v := .string (strOf t)) ?_ ?_
      · go_simp
      · exact hK _ _ (hI.on (by decide) (by decide) (by decide) (fun e => by cases e) (Below.refl _ _)) rfl (fun j u _ => WithF.on (Below.refl _ _) j u)
    | 2, ho =>
      obtain rfl := oper_at ho rfl
      obtain ⟨u0, E0, hv0⟩ := hinv.arg 1 _ 18 rfl (hall ⟨1, .data⟩ (by simp) rfl) rfl
      obtain rfl : u0 = .string (strOf t) := hv0
      refine slot_value rfl (w' := W.alloc (.cells #[.string (strOf t)] 9)) (v := .slice (some ⟨W.heap.size, 0, none⟩) 1 1) ?_ ?_
      · go_simp
      · exact hK _ _ (hI.on (by decide) (by decide) (by decide) (fun e => by cases e) (one_alloc _ _)) ⟨W.heap.size, rfl, hI.grown, Lies.new_ rfl⟩ (fun j u _ => WithF.on (one_alloc _ _) j u)
    | 3, ho =>
      obtain rfl := oper_at ho rfl
      obtain ⟨u0, E0, hv0⟩ := hinv.arg 0 _ 17 rfl (hall ⟨0, .data⟩ (by simp) rfl) rfl
      obtain rfl : u0 = .slice A2 n c2 := hv0
      obtain ⟨u1, E1, p, rfl, hpb, hlp⟩ := hinv.arg 2 _ 19 rfl (hall ⟨2, .data⟩ (by simp) rfl) rfl
      have hrow := hI.names hun
      obtain ⟨i1, hi1, hy0, hy1, hy2⟩ := info_parts infoText
      obtain ⟨v', w', hr, h2, h3, _, h5⟩ := run_append_own_at (P := Tryd.prog) W B 25 25 9 i1 (.string ByteArray.empty) 1 16 Tryd.underlying25 hi1 hy0 hy1 hy2 rfl (by decide) (.slice A2 n c2) n (tcells ns) hrow ⟨p, 0, none⟩ 1 1 [.string (strOf t)] rfl (fun j u hj => by rw [Addr.add_lit, Nat.zero_add]; exact (hlp.cell j).trans hj) (fun u hu => by simp at hu; subst hu; rfl) (by unfold maxLen; omega) (by omega) (Nat.le_trans hB4 hI.grown)
      have hp3 : some p ≠ (Value.slice A2 n c2).ownBlock := fun e => by have := (HN4.out.lt p e.symm).2; omega
      have far : ∀ k, k < w.heap.size + 3 → W.heap[k]? = w'.heap[k]? := fun k hk => (h3.block k (by have := hI.grown; omega) (fun e => by have := (HN4.out.lt k e.symm).1; omega)).symm
      have hl' := hI.list
      obtain ⟨A3, m3, c3, rfl⟩ : ∃ A m c, v' = .slice A m c := by obtain ⟨A, c, h⟩ := own_slice h2; exact ⟨A, _, c, h⟩
      have hno : listed.getD 9 true = false := by
        cases hb : listed.getD 9 true with
        | false => rfl
        | true => have := (hI.done hb).1; rw [hun] at this; cases this
      refine slot_value rfl (w' := w') (v := .slice A3 m3 c3) ?_ ?_
      · simp [execOp, resolve, invoke, builtin, Act.eval, E0, E1, hr, Result.andThen]
      · refine hK _ _ ⟨hI.below.trans ⟨h3.os, h3.tape, h3.output, h3.size, fun k hk => (far k (by omega)).symm⟩, Nat.le_trans hI.grown h3.size, hI.arg.grown h3 (fun e => by have := (HN4.out.lt _ e.symm).1; omega), fun _ => (hI.out hno).grown h3 (fun e => by have := (HN4.out.lt _ e.symm).1; omega), (fun e => by rw [getD_set_self] at e; cases e), (fun e => ?_), (fun e => ⟨getD_set_self _ _, by rw [getD_set (by decide)] at e; exact getD_mono (hI.call e).2⟩), fun e => ?_⟩ ⟨A3, m3, c3, rfl, h2⟩ ?_
        · rw [getD_set (by decide)] at e
          exact (hl' e).kept h3 (apart_l (own_apart hrow (hl' e)))
        · rw [getD_set (by decide), hno] at e; cases e
        · intro j u hsl hu
          match j, hu, hsl with
          | 0, hu, _ => exact hu
          | 1, hu, _ => exact hu
          | 2, ⟨p', k1, k2, k3⟩, _ => exact ⟨p', k1, k2, k3.grown h3 (fun e => by have := (HN4.out.lt p' e.symm).2; omega)⟩
          | 3, _, ⟨_, _, _, hl, _⟩ => rw [hun] at hl; cases hl
          | 4, hu, _ => exact hu
          | 5, hu, _ => exact hu
          | 6, ⟨p', k1, k2, k3⟩, _ => exact ⟨p', k1, k2, k3.grown h3 (fun e => by have := (HN4.out.lt p' e.symm).2; omega)⟩
          | 7, ⟨A, n', c, k1, k2⟩, _ => exact ⟨A, n', c, k1, k2.kept h3 (apart_l (own_apart hrow k2))⟩
          | 8, _, ⟨_, _, _, hl, _⟩ => have := (hI.call hl).1; rw [hun] at this; cases this
          | j + 9, _, _ => exact trivial
    | 4, ho =>
      obtain rfl := oper_at ho rfl
      have E1 : a.tmps[8]? = some (.slice A4 m c4) := hinv.old 8 (by simp)
      refine slot_value rfl (w' := W) (v := .slice A4 m c4) ?_ ?_
      · go_simp
      · exact hK _ _ (hI.on (by decide) (by decide) (by decide) (fun e => by cases e) (Below.refl _ _)) rfl (fun j u _ => WithF.on (Below.refl _ _) j u)
    | 5, ho =>
      obtain rfl := oper_at ho rfl
      have E1 : a.tmps[5]? = some (.pointer (some ⟨w.heap.size + 1, 0, none⟩)) := hinv.old 5 (by simp)
      obtain ⟨⟨z0, z1, z2, z3, z4, z5⟩, _⟩ := hI.arg.six
      refine slot_value rfl (w' := W) (v := .agg #[.int .i64 y.kind, .bool y.bool, .int .i64 y.int, .string (strOf y.text), .slice B1 y.names.length d1, .slice B2 y.list.length d2]) ?_ ?_
      · go_simp
      · exact hK _ _ (hI.on (by decide) (by decide) (by decide) (fun e => by cases e) (Below.refl _ _)) rfl (fun j u _ => WithF.on (Below.refl _ _) j u)
    | 6, ho =>
      obtain rfl := oper_at ho rfl
      obtain ⟨u0, E0, hv0⟩ := hinv.arg 5 _ 22 rfl (hall ⟨5, .data⟩ (by simp) rfl) rfl
      obtain rfl : u0 = .agg #[.int .i64 y.kind, .bool y.bool, .int .i64 y.int, .string (strOf y.text), .slice B1 y.names.length d1, .slice B2 y.list.length d2] := hv0
      refine slot_value rfl (w' := W.alloc (.cells #[.int .i64 y.kind, .bool y.bool, .int .i64 y.int, .string (strOf y.text), .slice B1 y.names.length d1, .slice B2 y.list.length d2] 28)) (v := .slice (some ⟨W.heap.size, 0, none⟩) 1 1) ?_ ?_
      · go_simp
      · exact hK _ _ (hI.on (by decide) (by decide) (by decide) (fun e => by cases e) (one_alloc _ _)) ⟨W.heap.size, rfl, hI.grown, Lies.new_ rfl⟩ (fun j u _ => WithF.on (one_alloc _ _) j u)
    | 7, ho =>
      obtain rfl := oper_at ho rfl
      obtain ⟨u0, E0, hv0⟩ := hinv.arg 4 _ 21 rfl (hall ⟨4, .data⟩ (by simp) rfl) rfl
      obtain rfl : u0 = .slice A4 m c4 := hv0
      obtain ⟨u1, E1, p, rfl, hpb, hlp⟩ := hinv.arg 6 _ 23 rfl (hall ⟨6, .data⟩ (by simp) rfl) rfl
      have hrow := hI.list hun
      obtain ⟨i0, hi0, hj0, hj1, hj2⟩ := info_parts infoJson
      obtain ⟨v', w', hr, h2, h3, _, h5⟩ := run_append_own_at (P := Tryd.prog) W B 26 26 28 i0 (jv 0 false 0 ByteArray.empty nilS nilS) 6 88 Tryd.underlying26 hi0 hj0 hj1 hj2 rfl (by decide) (.slice A4 m c4) m (vs.flatMap jcells) hrow ⟨p, 0, none⟩ 1 1 [.int .i64 y.kind, .bool y.bool, .int .i64 y.int, .string (strOf y.text), .slice B1 y.names.length d1, .slice B2 y.list.length d2] rfl (fun j u hj => by rw [Addr.add_lit, Nat.zero_add]; exact (hlp.cell j).trans hj) (jv_ones _ _ _ _ _ _ _ _ _ _) (by unfold maxLen; omega) (by omega) (Nat.le_trans hB4 hI.grown)
      have far : ∀ k, k < w.heap.size + 3 → W.heap[k]? = w'.heap[k]? := fun k hk => (h3.block k (by have := hI.grown; omega) (fun e => by have := (HL4.out.lt k e.symm).1; omega)).symm
      have hn' := hI.names
      obtain ⟨A3, m3, c3, rfl⟩ : ∃ A m c, v' = .slice A m c := by obtain ⟨A, c, h⟩ := own_slice h2; exact ⟨A, _, c, h⟩
      have hno : listed.getD 9 true = false := by
        cases hb : listed.getD 9 true with
        | false => rfl
        | true => have := (hI.done hb).2.1; rw [hun] at this; cases this
      refine slot_value rfl (w' := w') (v := .slice A3 m3 c3) ?_ ?_
      · simp [execOp, resolve, invoke, builtin, Act.eval, E0, E1, hr, Result.andThen]
      · refine hK _ _ ⟨hI.below.trans ⟨h3.os, h3.tape, h3.output, h3.size, fun k hk => (far k (by omega)).symm⟩, Nat.le_trans hI.grown h3.size, hI.arg.grown h3 (fun e => by have := (HL4.out.lt _ e.symm).1; omega), fun _ => (hI.out hno).grown h3 (fun e => by have := (HL4.out.lt _ e.symm).1; omega), (fun e => ?_), (fun e => by rw [getD_set_self] at e; cases e), (fun e => ⟨by rw [getD_set (by decide)] at e; exact getD_mono (hI.call e).1, getD_set_self _ _⟩), fun e => ?_⟩ ⟨A3, m3, c3, rfl, h2⟩ ?_
        · rw [getD_set (by decide)] at e
          exact (hn' e).kept h3 (apart_n (own_apart (hn' e) hrow))
        · rw [getD_set (by decide), hno] at e; cases e
        · intro j u hsl hu
          match j, hu, hsl with
          | 0, hu, _ => exact hu
          | 1, hu, _ => exact hu
          | 2, ⟨p', k1, k2, k3⟩, _ => exact ⟨p', k1, k2, k3.grown h3 (fun e => by have := (HL4.out.lt p' e.symm).2; omega)⟩
          | 3, ⟨A, n', c, k1, k2⟩, _ => exact ⟨A, n', c, k1, k2.kept h3 (apart_n (own_apart k2 hrow))⟩
          | 4, hu, _ => exact hu
          | 5, hu, _ => exact hu
          | 6, ⟨p', k1, k2, k3⟩, _ => exact ⟨p', k1, k2, k3.grown h3 (fun e => by have := (HL4.out.lt p' e.symm).2; omega)⟩
          | 7, _, ⟨_, _, _, hl, _⟩ => rw [hun] at hl; cases hl
          | 8, _, ⟨_, _, _, hl, _⟩ => have := (hI.call hl).2; rw [hun] at this; cases this
          | j + 9, _, _ => exact trivial
    | 8, ho =>
      obtain rfl := oper_at ho rfl
      have l3 : listed.getD 3 true = true := listed_of (hall ⟨3, .data⟩ (by simp) rfl)
      have l7 : listed.getD 7 true = true := listed_of (hall ⟨7, .data⟩ (by simp) rfl)
      obtain ⟨u0, E0, A5, m5, c5, rfl, k1⟩ := hinv.arg 3 _ 20 rfl (hall ⟨3, .data⟩ (by simp) rfl) rfl
      obtain ⟨u1, E1, A6, m6, c6, rfl, k2⟩ := hinv.arg 7 _ 24 rfl (hall ⟨7, .data⟩ (by simp) rfl) rfl
      refine slot_call rfl (f := 45) (args := #[.slice A5 m5 c5, .slice A6 m6 c6]) ?_ (refObject_any A5 A6 m5 m6 c5 c6 W) ?_
      · go_simp
      · rintro e w' ⟨rfl, hb⟩
        exact ⟨_, rfl, hK _ _ (hI.on (by decide) (by decide) (by decide) (fun _ => ⟨l3, l7⟩) hb) ⟨A5, m5, c5, A6, m6, c6, rfl, own_below k1 hb, own_below k2 hb⟩ (fun j u _ => WithF.on hb j u)⟩
    | 9, ho =>
      obtain rfl := oper_at ho rfl
      have l8 : listed.getD 8 true = true := listed_of (hall ⟨8, .data⟩ (by simp) rfl)
      obtain ⟨u0, E0, A5, m5, c5, A6, m6, c6, rfl, k1, k2⟩ := hinv.arg 8 _ 25 rfl (hall ⟨8, .data⟩ (by simp) rfl) rfl
      have E6 : a.tmps[6]? = some (.pointer (some ⟨w.heap.size + 1 + 1, 0, none⟩)) := hinv.old 6 (by simp)
      have hz := hI.out hun
      obtain ⟨⟨x0, x1, x2, x3, x4, x5⟩, g0, g1, g2, g3, g4, g5⟩ := hz.six
      have hg : W.grownBy (put6 W (w.heap.size + 2) (.int .i64 5) (.bool false) (.int .i64 0) (.string ByteArray.empty) (.slice A5 m5 c5) (.slice A6 m6 c6)) (some (w.heap.size + 2)) := gb_put6
      have q1 := k1.kept hg (.inr (fun e => by have := (k1.lt _ e).1; omega))
      have q2 := k2.kept hg (.inr (fun e => by have := (k2.lt _ e).1; omega))
      refine slot_skip rfl (w' := put6 W (w.heap.size + 2) (.int .i64 5) (.bool false) (.int .i64 0) (.string ByteArray.empty) (.slice A5 m5 c5) (.slice A6 m6 c6)) ?_ ?_
      · go_simp
      · refine hK _ _ ⟨hI.below.trans (gb_down hg hI.below.size (by omega)), Nat.le_trans hI.grown hg.size, hI.arg.grown hg (by simp), (fun e => by rw [getD_set_self] at e; cases e), (fun e => ?_), (fun e => ?_), (fun e => by rw [getD_set (by decide)] at e; exact ⟨getD_mono (hI.call e).1, getD_mono (hI.call e).2⟩), fun _ => ⟨getD_mono (hI.call l8).1, getD_mono (hI.call l8).2, A5, m5, c5, A6, m6, c6, hz.put6, q1, q2⟩⟩ trivial ?_
        · rw [getD_set (by decide), (hI.call l8).1] at e; cases e
        · rw [getD_set (by decide), (hI.call l8).2] at e; cases e
        · intro j u hsl hu
          match j, hu, hsl with
          | 0, hu, _ => exact hu
          | 1, hu, _ => exact hu
          | 2, ⟨p', k1, k2, k3⟩, _ => exact ⟨p', k1, k2, k3.grown hg (by simp; omega)⟩
          | 3, ⟨A, n', c, k1, k2⟩, _ => exact ⟨A, n', c, k1, k2.kept hg (.inr (fun e => by have := (k2.lt _ e).1; omega))⟩
          | 4, hu, _ => exact hu
          | 5, hu, _ => exact hu
          | 6, ⟨p', k1, k2, k3⟩, _ => exact ⟨p', k1, k2, k3.grown hg (by simp; omega)⟩
          | 7, ⟨A, n', c, k1, k2⟩, _ => exact ⟨A, n', c, k1, k2.kept hg (.inr (fun e => by have := (k2.lt _ e).1; omega))⟩
          | 8, ⟨A, n', c, A', m', c', k1, k2, k3⟩, _ => exact ⟨A, n', c, A', m', c', k1, k2.kept hg (.inr (fun e => by have := (k2.lt _ e).1; omega)), k3.kept hg (.inr (fun e => by have := (k3.lt _ e).1; omega))⟩
          | j + 9, _, _ => exact trivial
    | i + 10, ho => simp at ho
  case fin =>
    intro listed a W hinv hall
    have hI := hinv.world
    obtain ⟨_, _, A5, m5, c5, A6, m6, c6, hlp, k1, k2⟩ := hI.done (hall 9)
    have E6 : a.tmps[6]? = some (.pointer (some ⟨w.heap.size + 1 + 1, 0, none⟩)) := hinv.old 6 (by simp)
    have hsz := hinv.size
    have hdf := hinv.defers
    obtain ⟨tm, df⟩ := a
    simp only at hsz hdf E6
    obtain ⟨x0, x1, x2, x3, x4, x5, x6, x7, x8, x9, x10, x11, x12, x13, x14, x15, x16, x17, x18, x19, x20, x21, x22, x23, x24, x25, rfl⟩ := lit26 tm (by rw [hsz]; rfl)
    subst hdf
    simp only [List.getElem?_toArray, List.getElem?_cons_zero, List.getElem?_cons_succ, Option.some.injEq] at E6
    subst E6
    obtain ⟨⟨q0, q1, q2, q3, q4, q5⟩, _⟩ := hlp.six
    obtain ⟨Ax, cx, e1⟩ := own_slice k1
    obtain ⟨rfl, rfl, rfl⟩ : A5 = Ax ∧ m5 = n + 1 ∧ c5 = cx := by injection e1 with a b c; exact ⟨a, b, c⟩
    obtain ⟨Ay, cy, e2⟩ := own_slice k2
    obtain ⟨rfl, rfl, rfl⟩ : A6 = Ay ∧ m6 = m + 1 ∧ c6 = cy := by injection e2 with a b c; exact ⟨a, b, c⟩
    have HE : Hid (WithREnd ok (ns ++ [t]) (l ++ [y]) w (.returned (jv 5 false 0 ByteArray.empty (.slice A5 (n + 1) c5) (.slice A6 (m + 1) c6))) W) := by
      refine ⟨_, _, _, _, _, _, rfl, ?_, ?_, hI.below⟩
      · have e : tcells (ns ++ [t]) = tcells ns ++ [.string (strOf t)] := by simp [tcells]
        rw [e, List.length_append, HN.out]
        exact (own_slIs k1).keep (fun b hb _ => ⟨.inr (by have := HBS.out; have hb : B ≤ b := hb; omega), rfl⟩) (Nat.le_refl _)
      · refine ⟨vs ++ [jv y.kind y.bool y.int (strOf y.text) (.slice B1 y.names.length d1) (.slice B2 y.list.length d2)], ?_, by simp [HVL.out, HM.out], by rw [List.length_append, HM.out]; simp; omega, fun i v x h1 h2 => ?_⟩
        · rw [List.flatMap_append, List.length_append, HM.out]
          have := (own_slIs k2).keep (ok' := fun b => ok b ∨ w.heap.size ≤ b) (fun b hb _ => ⟨.inr (by have := HBS.out; have hb : B ≤ b := hb; omega), rfl⟩) (Nat.le_refl _)
          simpa [jcells] using this
        · by_cases hi : i < m
          · rw [List.getElem?_append_left (by rw [HVL.out]; exact hi)] at h1
            rw [List.getElem?_append_left (by rw [HM.out]; exact hi)] at h2
            exact ((HEL.out i v x h1 h2).on hI.below).keep (fun _ h _ => ⟨.inl h, rfl⟩) (Nat.le_refl _)
          · rw [List.getElem?_append_right (by rw [HVL.out]; omega), HVL.out] at h1
            rw [List.getElem?_append_right (by rw [HM.out]; omega), HM.out] at h2
            have hi0 : i - m = 0 := by
              have := (List.getElem?_eq_some_iff.1 h2).1
              simp at this; omega
            rw [hi0] at h1 h2
            simp at h1 h2
            subst h1 h2
            exact (HJ.out.on hI.below).keep (fun _ h _ => ⟨.inl h, rfl⟩) (Nat.le_refl _)
    clear e1 e2 k1 k2 hlp hI hinv hall hsz
    go_wp2
    exact bodyPost_ret (v := jv 5 false 0 ByteArray.empty (.slice A5 (n + 1) c5) (.slice A6 (m + 1) c6)) (by simp [results, Tryd.results33, go_sem, q0, q1, q2, q3, q4, q5]) rfl HE.out
end Go.Proofs.YtoocejcoaojaiaaDoor
