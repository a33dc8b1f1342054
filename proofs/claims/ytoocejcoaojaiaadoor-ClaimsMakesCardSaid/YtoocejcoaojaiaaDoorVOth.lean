/-
  withOthers: what an object has that is not the tokens' own.
-/
import Derived.Test.YtoocejcoaojaiaaDoorVOwn
import Derived.Test.YtoocejcoaojaiaaDoorVRes
import Derived.Test.YtoocejcoaojaiaaDoorQI
namespace Go.Proofs.YtoocejcoaojaiaaDoor
open Go.RowKit Go.Sort

/-- What there is of the first k. -/
def othRows (x : Jq.J) (k : Nat) : List (List Nat × Jq.J) := ((x.names.zip x.list).take k).filter fun r => decide (¬ Vq.Reserved r.1)
theorem oth_zero (x : Jq.J) : othRows x 0 = [] := rfl
theorem oth_all {x : Jq.J} (h5 : x.kind = 5) (hl : x.names.length = x.list.length) {k : Nat} (hk : x.names.length ≤ k) : othRows x k = Vq.moreRows x := by
  unfold othRows Vq.moreRows
  rw [if_pos ⟨h5, hl⟩, List.take_of_length_le (by rw [List.length_zip]; omega)]
theorem oth_succ {x : Jq.J} {k : Nat} {t : List Nat} {y : Jq.J} (h1 : x.names[k]? = some t) (h2 : x.list[k]? = some y) : othRows x (k + 1) = othRows x k ++ (if Vq.Reserved t then [] else [(t, y)]) := by
  unfold othRows
  have hz : (x.names.zip x.list)[k]? = some (t, y) := by rw [List.getElem?_zip_eq_some]; exact ⟨h1, h2⟩
  obtain ⟨hlt, he⟩ := List.getElem?_eq_some_iff.1 hz
  rw [List.take_succ_eq_append_getElem hlt, he, List.filter_append]
  congr 1
  by_cases hr : Vq.Reserved t
  · rw [if_pos hr, List.filter_cons_of_neg (by simp [hr])]; rfl
  · rw [if_neg hr, List.filter_cons_of_pos (by simp [hr])]; rfl
theorem oth_len (x : Jq.J) (k : Nat) : (othRows x k).length ≤ x.list.length := by
  unfold othRows
  refine Nat.le_trans (List.length_filter_le _ _) ?_
  rw [List.length_take, List.length_zip]
  omega
theorem more_none {x : Jq.J} (h : ¬ (x.kind = 5 ∧ x.names.length = x.list.length)) : Vq.moreRows x = [] := by unfold Vq.moreRows; rw [if_neg h]
section
variable {nv lv nv1 lv1 nv2 lv2 : Value} {w W W2 : World}
theorem Two.refl (nv lv : Value) (w : World) : Two nv lv nv lv w w := ⟨rfl, rfl, rfl, Nat.le_refl _, fun _ _ h1 h2 => ⟨rfl, h1, h2⟩⟩
theorem Two.trans (h1 : Two nv lv nv1 lv1 w W) (h2 : Two nv1 lv1 nv2 lv2 W W2) : Two nv lv nv2 lv2 w W2 :=
  ⟨h2.os.trans h1.os, h2.tape.trans h1.tape, h2.output.trans h1.output, Nat.le_trans h1.size h2.size, fun k hk a b => by
    obtain ⟨e1, a1, b1⟩ := h1.block k hk a b
    obtain ⟨e2, a2, b2⟩ := h2.block k (Nat.lt_of_lt_of_le hk h1.size) a1 b1
    exact ⟨e2.trans e1, a2, b2⟩⟩
theorem Two.more (h1 : Two nv lv nv1 lv1 w W) (h2 : Below w.heap.size W W2) : Two nv lv nv1 lv1 w W2 :=
  ⟨h2.os.trans h1.os, h2.tape.trans h1.tape, h2.output.trans h1.output, Nat.le_trans h1.size h2.size, fun k hk a b => by
    obtain ⟨e1, a1, b1⟩ := h1.block k hk a b
    exact ⟨(h2.block k hk).trans e1, a1, b1⟩⟩
end
/-- On the way. -/
structure OthSt (B : Nat) (ns : List (List Nat)) (l : List Jq.J) (nv lv : Value) (xc : List Value) (rs : List (List Nat × Jq.J)) (nv' lv' : Value) (w W : World) : Prop where
  two : Two nv lv nv' lv' w W
  row : ObjRow B (ns ++ rs.map (·.1)) (l ++ rs.map (·.2)) nv' lv' W
  var : Lies W w.heap.size 28 [.int .i64 5, .bool false, .int .i64 0, .string ByteArray.empty, nv', lv']
  more : Lies W (w.heap.size + 1) 28 xc
  out : Lies W (w.heap.size + 2) 28 zero6
  off : ∀ k, w.heap.size ≤ k → k ≤ w.heap.size + 2 → nv'.ownBlock ≠ some k ∧ lv'.ownBlock ≠ some k
section
variable {B : Nat} {ns : List (List Nat)} {l : List Jq.J} {nv lv nv' lv' nv2 lv2 : Value} {xc : List Value} {rs : List (List Nat × Jq.J)} {w W W' : World}
theorem OthSt.more_ (h : OthSt B ns l nv lv xc rs nv' lv' w W) (hb : Below W.heap.size W W') : OthSt B ns l nv lv xc rs nv' lv' w W' :=
  ⟨h.two.more (hb.mono h.two.size), h.row.on hb, h.var.below hb h.var.lt, h.more.below hb h.more.lt, h.out.below hb h.out.lt, h.off⟩
theorem OthSt.next {r : List Nat × Jq.J} (h : OthSt B ns l nv lv xc rs nv' lv' w W) (hB : B ≤ w.heap.size) (hO : ObjRow B (ns ++ rs.map (·.1) ++ [r.1]) (l ++ rs.map (·.2) ++ [r.2]) nv2 lv2 W') (hT : Two nv' lv' nv2 lv2 W W') :
    Lies W' w.heap.size 28 [.int .i64 5, .bool false, .int .i64 0, .string ByteArray.empty, nv', lv'] ∧ OthSt B ns l nv lv xc (rs ++ [r]) nv2 lv2 w (put6 W' w.heap.size (.int .i64 5) (.bool false) (.int .i64 0) (.string ByteArray.empty) nv2 lv2) := by
  have hv := hT.lies h.var (h.off _ (Nat.le_refl _) (by omega))
  have hlt := h.out.lt
  have hoff : ∀ k, w.heap.size ≤ k → k ≤ w.heap.size + 2 → nv2.ownBlock ≠ some k ∧ lv2.ownBlock ≠ some k := fun k h1 h2 => (hT.block k (by omega) (h.off k h1 h2).1 (h.off k h1 h2).2).2
  refine ⟨hv, ⟨(h.two.trans hT).more (gb_down gb_put6 (by have := hT.size; have := h.two.size; omega) (Nat.le_refl _)), ?_, hv.put6, ?_, ?_, hoff⟩⟩
  · rw [List.map_append, List.map_append, ← List.append_assoc, ← List.append_assoc]
    exact hO.off gb_put6 hB (hoff _ (Nat.le_refl _) (by omega)).1 (hoff _ (Nat.le_refl _) (by omega)).2
  · exact (hT.lies h.more (h.off _ (by omega) (by omega))).grown gb_put6 (by simp)
  · exact (hT.lies h.out (h.off _ (by omega) (by omega))).grown gb_put6 (by simp)
theorem OthSt.ends (h : OthSt B ns l nv lv xc rs nv' lv' w W) (hB : B ≤ w.heap.size) :
    WithEnd B (ns ++ rs.map (·.1)) (l ++ rs.map (·.2)) nv lv w (.returned (jv 5 false 0 ByteArray.empty nv' lv')) (put6 W (w.heap.size + 2) (.int .i64 5) (.bool false) (.int .i64 0) (.string ByteArray.empty) nv' lv') :=
  ⟨nv', lv', rfl, h.row.off gb_put6 (by omega) (h.off _ (by omega) (by omega)).1 (h.off _ (by omega) (by omega)).2, h.two.more (gb_down gb_put6 (by have := h.two.size; omega) (by omega))⟩
end

set_option maxHeartbeats 1000000 in
set_option maxRecDepth 100000 in
theorem others_any {B : Nat} {ns : List (List Nat)} {l : List Jq.J} {nv lv v : Value} {x : Jq.J} (w : World) (hO : ObjRow B ns l nv lv w) (hJ : IsJ w (· < B) v x) (hn : l.length ≤ 10) (hx : x.list.length ≤ 100) :
    Calls Tryd.prog 29 #[jv 5 false 0 ByteArray.empty nv lv, v] w (WithEnd B (ns ++ (Vq.moreRows x).map (·.1)) (l ++ (Vq.moreRows x).map (·.2)) nv lv w) := by
  obtain ⟨A9, c9, e9⟩ := own_slice hO.names
  obtain ⟨A0, c0, e0⟩ : ∃ A c, lv = .slice A l.length c := by obtain ⟨_, _, h, _⟩ := hO.rows; exact own_slice h
  obtain ⟨yv, lx, rfl, _, _, _, hS, hns, _, hL⟩ := hJ.parts
  obtain ⟨B1, d1, rfl⟩ := hS.form
  obtain ⟨B2, d2, rfl⟩ := hL.form
  subst e9 e0
  obtain ⟨N, eN⟩ : ∃ N, x.names.length = N := ⟨_, rfl⟩
  obtain ⟨M, eM⟩ : ∃ M, x.list.length = M := ⟨_, rfl⟩
  rw [eN] at hS
  rw [eM] at hL hx
  rw [eN, eM]
  obtain ⟨n, en⟩ : ∃ n, ns.length = n := ⟨_, rfl⟩
  have em : l.length = n := by rw [← hO.len]; exact en
  rw [en, em]
  obtain ⟨W0, eW0⟩ : ∃ W0, W0 = ((w.alloc (.cells #[.int .i64 5, .bool false, .int .i64 0, .string ByteArray.empty, .slice A9 n c9, .slice A0 n c0] 28)).alloc (.cells #[.int .i64 x.kind, .bool x.bool, .int .i64 x.int, .string (strOf x.text), .slice B1 N d1, .slice B2 M d2] 28)).alloc (.cells #[.int .i64 0, .bool false, .int .i64 0, .string { data := #[] }, .slice none 0 0, .slice none 0 0] 28) := ⟨_, rfl⟩
  have hb0 : Below w.heap.size w W0 := by rw [eW0]; exact ((one_alloc _ _).alloc (by simp) _).alloc (by simp; omega) _
  have hlt := hO.lt
  rw [en, em] at hlt
  have hO' := hO
  rw [en, em] at hO'
  have hst : OthSt B ns l (.slice A9 n c9) (.slice A0 n c0) [.int .i64 x.kind, .bool x.bool, .int .i64 x.int, .string (strOf x.text), .slice B1 N d1, .slice B2 M d2] [] (.slice A9 n c9) (.slice A0 n c0) w W0 := by
    refine ⟨(Two.refl _ _ _).more hb0, ?_, ?_, ?_, ?_, fun k h1 _ => ⟨fun e => by have := (hlt.1 k e).2; omega, fun e => by have := (hlt.2 k e).2; omega⟩⟩
    · have := hO'.on hb0
      simpa using this
    · rw [eW0]; exact ((Lies.new_ rfl).alloc _).alloc _
    · rw [eW0]; exact (Lies.new_ (by simp)).alloc _
    · rw [eW0]; exact Lies.new_ (by simp)
  have HW0 := Lib.hid eW0
  have HS0 := Lib.hid hst
  have HO := Lib.hid hO'
  have HNS := Lib.hid hns
  have HXS := Lib.hid hS
  have HXL := Lib.hid hL
  have HN := Lib.hid eN
  have HM := Lib.hid eM
  have HBB := Lib.hid hO.size
  have HLEN := Lib.hid em
  have HM1 := Lib.hid hx
  have HN1 := Lib.hid hn
  obtain ⟨⟨y0, _, _, _, y4, y5⟩, _⟩ := hst.more.six
  rw [eW0] at y0 y4 y5
  clear hO hO' hns hS hL hb0 hlt hJ eN eM en em eW0 hx hn
  by_cases hc : x.kind = 5 ∧ N = M
  rotate_left
  · have HMR : Hid (Vq.moreRows x = []) := more_none (fun h => hc ⟨h.1, by rw [← HN.out, ← HM.out]; exact h.2⟩)
    rw [HMR.out]
    have HE : Hid (∀ o o' o'', WithEnd B (ns ++ ([] : List (List Nat × Jq.J)).map (·.1)) (l ++ ([] : List (List Nat × Jq.J)).map (·.2)) (.slice A9 n c9) (.slice A0 n c0) w (.returned (jv 5 false 0 ByteArray.empty (.slice A9 n c9) (.slice A0 n c0))) (((w.alloc o).alloc o').alloc o'')) := fun o o' o'' => by
      have hb : Below w.heap.size w (((w.alloc o).alloc o').alloc o'') := ((one_alloc _ _).alloc (by simp) _).alloc (by simp; omega) _
      refine ⟨_, _, rfl, ?_, (Two.refl _ _ _).more hb⟩
      simpa using HO.out.on hb
    have hdd : (x.kind != 5) = true ∨ ((x.kind != 5) = false ∧ ((N : Int) != (M : Int)) = true) := by
      by_cases h5 : x.kind = 5
      · exact .inr ⟨by rw [h5]; rfl, by rw [bne_iff_ne]; intro h; exact hc ⟨h5, by omega⟩⟩
      · exact .inl (by rw [bne_iff_ne]; exact h5)
    clear hc
    rcases hdd with d1 | ⟨d1, d2⟩
    all_goals
      go_enter Tryd.func29, Tryd.ntmps29
      go_wp2
      exact bodyPost_ret (v := jv 5 false 0 ByteArray.empty (.slice A9 n c9) (.slice A0 n c0)) (by simp [results, Tryd.results29, go_sem]) rfl (HE.out _ _ _)
  obtain ⟨h5, rfl⟩ := hc
  have d5 : (x.kind != 5) = false := by rw [h5]; rfl
  have d6 : ((N : Int) != (N : Int)) = false := by simp
  have HMR : Hid (∀ k, N ≤ k → othRows x k = Vq.moreRows x) := fun k hk => oth_all h5 (by rw [HN.out, HM.out]) (by rw [HN.out]; exact hk)
  clear h5
  have hN100 : N ≤ 100 := HM1.out
  go_enter Tryd.func29, Tryd.ntmps29
  go_wp2_with fail
  go_loopw [23] (fun i wr => ∃ k : Nat, i = .int .i64 k ∧ k ≤ N ∧ ∃ nv' lv', Hid (OthSt B ns l (.slice A9 n c9) (.slice A0 n c0) [.int .i64 x.kind, .bool x.bool, .int .i64 x.int, .string (strOf x.text), .slice B1 N d1, .slice B2 N d2] (othRows x k) nv' lv' w wr)) (fun i _ => N - (intOf i).toNat)
  case atStart => exact ⟨0, rfl, Nat.zero_le _, .slice A9 n c9, .slice A0 n c0, by rw [oth_zero, ← HW0.out]; exact HS0⟩
  case round =>
    clear y0 y4 y5
    obtain ⟨k, rfl, hk, nv', lv', HSt⟩ := hrel
    obtain ⟨A1, m1, c1, rfl⟩ : ∃ A m c, nv' = .slice A m c := by obtain ⟨A, c, h⟩ := own_slice HSt.out.row.names; exact ⟨A, _, c, h⟩
    obtain ⟨A2, m2, c2, rfl⟩ : ∃ A m c, lv' = .slice A m c := by obtain ⟨_, _, h, _⟩ := HSt.out.row.rows; obtain ⟨A, c, h⟩ := own_slice h; exact ⟨A, _, c, h⟩
    by_cases hlt : k < N
    · have hbB : Below B w wr := HSt.out.two.below HO.out
      obtain ⟨b, off, t, e1, _, _, _, hp, p0⟩ := slIs_text (HXS.out.keep (ok' := (· < B)) (fun b hb _ => ⟨hb, hbB.block b hb⟩) hbB.size) HN.out hlt
      obtain ⟨b2, off2, y, C1, d1, C2, d2, e2, _, _, hx, hJy, s0, s1, s2, s3, s4, s5⟩ := (HXL.out.keep (ok' := (· < B)) (fun b hb _ => ⟨hb, hbB.block b hb⟩) hbB.size).elem (by rw [HM.out]; exact hlt)
      subst e1 e2
      have HT := Lib.hid (HNS.out t (List.mem_of_getElem? hp))
      have hR := reserved_any t HT.out.2 wr
      have HSC := Lib.hid (oth_succ hp hx)
      have HJY := Lib.hid hJy
      clear hp hx hJy hbB
      by_cases hres : Vq.Reserved t
      · rw [decide_eq_true hres] at hR
        have HQ := HSt.out
        rw [show othRows x k = othRows x (k + 1) by rw [HSC.out, if_pos hres, List.append_nil]] at HQ
        have HQH := Lib.hid HQ
        clear hres HQ s0 s1 s2 s3 s4 s5
        go_wp2_with fail
        refine hR.mono ?_
        rintro e w1 ⟨rfl, rfl⟩
        clear hR p0
        go_wp2
        go_roundw
        case rel => exact ⟨k + 1, by go_num, hlt, _, _, HQH⟩
        case measure => simp [intOf]; omega
      · rw [decide_eq_false hres] at hR
        have HRS : Hid (othRows x (k + 1) = othRows x k ++ [(t, y)]) := by unfold Hid; rw [HSC.out, if_neg hres]
        clear hres
        go_upto_region 6 with (fail)
        go_wp2_with fail
        refine hR.mono ?_
        rintro e w1 ⟨rfl, rfl⟩
        clear hR p0
        go_upto_region 7 with (fail)
        have hst := HSt.out
        obtain ⟨⟨z0, z1, z2, z3, z4, z5⟩, _⟩ := hst.var.six
        obtain ⟨⟨_, _, _, _, _, y5⟩, _⟩ := hst.more.six
        have k0 := cell_regrown z0
        have k1 := cell_regrown z1
        have k2 := cell_regrown z2
        have k3 := cell_regrown z3
        have k4 := cell_regrown z4
        have k5 := cell_regrown z5
        have km := cell_regrown y5
        have t0 := cell_regrown s0
        have t1 := cell_regrown s1
        have t2 := cell_regrown s2
        have t3 := cell_regrown s3
        have t4 := cell_regrown s4
        have t5 := cell_regrown s5
        have hlo : (0 : Int) ≤ (k : Int) := by omega
        have hhi : (k : Int) < (N : Int) := by omega
        clear z0 z1 z2 z3 z4 z5 y5 s0 s1 s2 s3 s4 s5 hst
        refine wp_region_quiet_tail 7 (by kernel_rfl) (by kernel_rfl) (by kernel_rfl) (by kernel_rfl) (by kernel_rfl) ?_
        simp only [List.take_succ_cons, List.take_zero, List.drop_succ_cons, List.drop_zero]
        repeat (go_big_quiet_step (fail))
        refine wpQuiet_nil ?_
        intro w' hw'
        obtain ⟨⟨dq, osq⟩, hw''⟩ := hw'
        subst hw''
        have hfin := below_regrown wr dq osq
        generalize hWq : grow (redrawn wr dq) osq = Wa at hfin ⊢
        clear k0 k1 k2 k3 k4 k5 km t0 t1 t2 t3 t4 t5 hWq hlo hhi
        have HSa := Lib.hid (HSt.out.more_ hfin)
        have HLE : Hid ((l ++ (othRows x k).map (·.2)).length ≤ 1000) := by
          unfold Hid
          rw [List.length_append, List.length_map]
          have h1 := oth_len x k
          have h2 := HM.out
          have h3 := HN1.out
          omega
        have hC := with_any Wa HSa.out.row (HJY.out.on hfin) HT.out HLE.out
        clear hfin
        go_wp2_with fail
        refine hC.mono ?_
        rintro e Wb ⟨nv', lv', rfl, hO', hT'⟩
        clear hC
        obtain ⟨A3, m3, c3, rfl⟩ : ∃ A m c, nv' = .slice A m c := by obtain ⟨A, c, h⟩ := own_slice hO'.names; exact ⟨A, _, c, h⟩
        obtain ⟨A4, m4, c4, rfl⟩ : ∃ A m c, lv' = .slice A m c := by obtain ⟨_, _, h, _⟩ := hO'.rows; obtain ⟨A, c, h⟩ := own_slice h; exact ⟨A, _, c, h⟩
        obtain ⟨hl', hs'⟩ := HSa.out.next (r := (t, y)) HBB.out hO' hT'
        rw [← HRS.out] at hs'
        obtain ⟨⟨x0, x1, x2, x3, x4, x5⟩, g0, g1, g2, g3, g4, g5⟩ := hl'.six
        have HS' := Lib.hid hs'
        clear hl' hs' hO' hT'
        go_wp2
        go_roundw
        case rel => exact ⟨k + 1, by go_num, hlt, _, _, HS'⟩
        case measure => simp [intOf]; omega
    · obtain rfl : k = N := by omega
      have hd3 : decide ((k : Int) < (k : Int)) = false := by simp
      have hE := HSt.out.ends HBB.out
      rw [HMR.out k (Nat.le_refl _)] at hE
      have HE := Lib.hid hE
      obtain ⟨⟨x0, x1, x2, x3, x4, x5⟩, _⟩ := HSt.out.var.six
      obtain ⟨_, g0, g1, g2, g3, g4, g5⟩ := HSt.out.out.six
      obtain ⟨⟨q0, q1, q2, q3, q4, q5⟩, _⟩ := (HSt.out.out.put6 (a := .int .i64 5) (b := .bool false) (c := .int .i64 0) (d := .string ByteArray.empty) (e := .slice A1 m1 c1) (f := .slice A2 m2 c2)).six
      clear hE
      go_wp2
      exact bodyPost_ret (v := jv 5 false 0 ByteArray.empty (.slice A1 m1 c1) (.slice A2 m2 c2)) (by simp [results, Tryd.results29, go_sem, q0, q1, q2, q3, q4, q5]) rfl HE.out
end Go.Proofs.YtoocejcoaojaiaaDoor
