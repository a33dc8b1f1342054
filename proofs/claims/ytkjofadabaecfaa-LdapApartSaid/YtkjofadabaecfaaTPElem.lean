/-
  The reader's element, at all levels.
-/
import Derived.Test.YtkjofadabaecfaaTPAll
namespace Go.Proofs.Ytkjofadabaecfaa
open Go.RowKit

section
variable {W w wr : World} {R d : Nat} {q : List Nat} {res : Except Nat (Bq.T × Nat)}
theorem gb_put3 {r : Option Nat} {g : Nat} {a b c : Value} (h : w.grownBy wr r) (hg : w.heap.size ≤ g) : w.grownBy (Go.Proofs.Ytkjofadabaecfaa.put3 wr g a b c) r :=
  ⟨h.os, h.tape, h.output, Nat.le_trans h.size (Nat.le_of_eq put3_size.symm), fun k hk hr => (put3_far (by omega)).trans (h.block k hk hr)⟩
theorem Rd.put3 {g : Nat} {a b c : Value} (h : Rd W R d q wr) (hg : W.heap.size ≤ g) (hR : R ≠ g) : Rd W R d q (Go.Proofs.Ytkjofadabaecfaa.put3 wr g a b c) := by
  obtain ⟨A, C, hl, hq⟩ := h.box
  exact ⟨below_put3 h.below hg, h.le, h.deep, A, C, ((hl.far hR _).far hR _).far hR _, hq⟩
theorem el_no {n : Nat} {i : Int} {a b c : Value} (h : res = .error n) (hi : i = (n : Int)) (hn : 0 < n) (hg : w.grownBy wr (some R)) : ElEnd W R d q res w (.returned (.tuple #[tv 0 nilS nilS, .int .i64 i])) (put3 wr w.heap.size a b c) := by
  subst hi; rw [h]; exact ⟨gb_put3 hg (Nat.le_refl _), hn, rfl⟩
theorem el_yes {t : Bq.T} {m C : Nat} {A1 A2 : Option Addr} {c1 c2 : Nat} {a b c : Value} (h : res = .ok (t, m)) (hJ : IsT wr (C ≤ ·) (tv t.tag (.slice A1 t.bytes.length c1) (.slice A2 t.list.length c2)) t) (hC : w.heap.size < C) (hg : w.grownBy wr (some R)) (hR : R < w.heap.size) (hd : Rd W R d (q.drop m) wr) (hW : W.heap.size ≤ w.heap.size) :
    ElEnd W R d q res w (.returned (.tuple #[tv t.tag (.slice A1 t.bytes.length c1) (.slice A2 t.list.length c2), .int .i64 0])) (put3 wr w.heap.size a b c) := by
  rw [h]; exact ⟨gb_put3 hg (Nat.le_refl _), A1, c1, A2, c2, rfl, (hJ.put3 hC).from (Nat.le_of_lt hC), hd.put3 hW (by omega)⟩
theorem PartsEnd.cases {w' : World} {e : Ending} (h : PartsEnd W R d q w e w') : w.grownBy w' (some R) ∧ ((∃ a r n k, q = a :: r ∧ ¬ a % 32 = 31 ∧ Bq.sized r = some (n, k) ∧ k + n ≤ r.length ∧ ∃ A c, e = .returned (.tuple #[.int .u8 (a : Int), .slice A n c, .bool true]) ∧ ArgIs W A c ((r.drop k).take n) ∧ Rd W R d (r.drop (k + n)) w') ∨
    ((∀ lv, Bq.read lv q = .error 60) ∧ ∃ (x : Int) (v : Value), e = .returned (.tuple #[.int .u8 x, v, .bool false]))) := h
end

set_option maxHeartbeats 1000000 in
set_option maxRecDepth 100000 in
theorem elem_step (lv : Nat) (hA : ∀ m, lv = m + 1 → AllOk m) : ElemOk lv := by
  intro W R d q w hd h
  obtain ⟨RES, eRES⟩ : ∃ RES, Bq.read lv q = RES := ⟨_, rfl⟩
  rw [eRES]
  obtain ⟨W0, eW0⟩ : ∃ W0, W0 = w.alloc (.cells zero3.toArray 60) := ⟨_, rfl⟩
  have hb0 : Below w.heap.size w W0 := by rw [eW0]; exact (Below.refl _ _).alloc (Nat.le_refl _) _
  have hl0 : Lies W0 w.heap.size 60 zero3 := by rw [eW0]; exact Lies.new_ rfl
  have hP := parts_any W R d q W0 (h.more hb0)
  rw [eW0] at hP
  have hRw : R < w.heap.size := h.lt
  have hWw : W.heap.size ≤ w.heap.size := h.below.size
  have HB256 := Lib.hid h.bytes
  have HB0 := Lib.hid hb0
  have HL0 := Lib.hid hl0
  have HW0 := Lib.hid eW0
  have HRES := Lib.hid eRES
  have HAA := Lib.hid hA
  have HDD := Lib.hid hd
  have hd16 : d ≤ 16 := by omega
  clear eRES eW0 hb0 hl0 h hA hd
  go_enter Try.func49, Try.ntmps49
  go_wp2_with fail
  refine hP.mono ?_
  intro e w1 hh
  rw [← HW0.out] at hh
  clear hP
  obtain ⟨hg1, ⟨a, r, n, k, rfl, h31, hz, hkn, A1, c1, rfl, hX, hrd⟩ | ⟨hbad, x, v, rfl⟩⟩ := hh.cases
  rotate_left
  · have hl1 := HL0.out.grown hg1 (fun e => by injection e with e; omega)
    have HE : Hid (ElEnd W R d q RES w (.returned (.tuple #[tv 0 nilS nilS, .int .i64 60])) (put3 w1 w.heap.size (.int .u8 0) nilS nilS)) := el_no (n := 60) (by rw [← HRES.out, hbad]) rfl (by decide) (gb_trans (gb_below HB0.out) hg1)
    have HZ := Lib.hid (Lies.put3 (a := .int .u8 0) (b := nilS) (c := nilS) hl1)
    obtain ⟨⟨z0, z1, z2⟩, f0, f1, f2⟩ := hl1.three
    clear hh hg1 hbad hl1
    go_wp2
    refine bodyPost_ret (v := .tuple #[tv 0 nilS nilS, .int .i64 60]) ?_ rfl ?_
    · have hz := HZ.out
      unfold put3 at hz
      generalize World.setCell (World.setCell (World.setCell w1 _ _) _ _) _ _ = w9 at hz ⊢
      obtain ⟨⟨z0, z1, z2⟩, _⟩ := hz.three
      simp [results, Try.results49, go_sem, z0, z1, z2]
    · exact HE.out
  have hl1 := HL0.out.grown hg1 (fun e => by injection e with e; omega)
  have hgw := gb_trans (gb_below (r := some R) HB0.out) hg1
  have ha : a < 256 := HB256.out a (by simp)
  have hn65 := (Bq.sized_size (fun x hx => HB256.out x (by simp [hx])) hz).1
  have hres := HRES.out
  rw [Bq.read_cons, if_neg h31, hz] at hres
  simp only at hres
  rw [if_neg (by omega)] at hres
  obtain ⟨X, eX⟩ : ∃ X, (r.drop k).take n = X := ⟨_, rfl⟩
  have hXl : X.length = n := by rw [← eX, List.length_take, List.length_drop]; omega
  rw [eX] at hres hX
  have HX := Lib.hid hX
  have HXL := Lib.hid hXl
  have HX256 : Hid (∀ x ∈ X, x < 256) := hX.2.2.1
  have HRD := Lib.hid hrd
  have HR2 := Lib.hid hres
  have HGW := Lib.hid hgw
  have HL1 := Lib.hid hl1
  have hH := hasList_any a ha w1
  have hw1 : w.heap.size < w1.heap.size := hl1.lt
  clear hh hg1 hz eX hX hXl hrd hres hgw hl1 h31
  go_wp2_with fail
  refine hH.mono ?_
  rintro e w2 ⟨rfl, ⟨h32, rfl⟩ | ⟨h32, rfl⟩⟩
  rotate_left
  · have HR3 : Hid (RES = .ok (.mk a X [], 1 + k + n)) := by unfold Hid; rw [← HR2.out, if_pos (by omega)]
    clear hH h32
    repeat ((fail_if_success (with_reducible show wpList _ _ _ (⟨some 24, _, _, _, _, _⟩ :: _) _ _)); first | go_values | go_skip | go_guarded | go_step | go_upon | go_back | go_simp)
    have hXA := HX.out.on HRD.out.below
    with_reducible refine append_arg rfl (.const (.slice none 0 0)) (.tmp 23) ?s0 w1.heap.size _ 0 (u8s []) A1 c1 X (World.ownsRow_nil _ _ _ _) hXA ?s1 ?s2 ?s3 ?s4 ?_
    case s0 => rfl
    case s1 => rfl
    case s2 => exact congrArg (fun n => Value.slice A1 n c1) HXL.out.symm
    case s3 => have := HXL.out; omega
    case s4 => exact Nat.le_refl _
    intro v5 w5 hown5 hgr5
    rw [Nat.zero_add] at hown5
    have hb5 : Below w1.heap.size w1 w5 := (Below.refl _ _).grown hgr5 (Nat.le_refl _) (fun b e => nomatch e)
    have e5 : u8s [] ++ u8s X = u8s X := rfl
    rw [e5] at hown5
    obtain ⟨A5, c5, rfl⟩ := own_slice hown5
    have hl5 := HL1.out.below hb5 HL1.out.lt
    have HE : Hid (ElEnd W R d (a :: r) RES w (.returned (.tuple #[tv a (.slice A5 X.length c5) nilS, .int .i64 0])) (put3 w5 w.heap.size (.int .u8 (a : Int)) (.slice A5 X.length c5) nilS)) :=
      el_yes (t := .mk a X []) (m := 1 + k + n) (C := w1.heap.size) (A2 := none) (c2 := 0) HR3.out (.mk (vs := []) ha (own_slIs hown5) ⟨by have := HXL.out; omega, HX256.out⟩ (SlIs.nil _ _) rfl (Nat.zero_le _) (fun i v x h => by simp at h)) hw1 (gb_trans HGW.out (gb_below hb5)) hRw
        (by rw [show 1 + k + n = (k + n) + 1 from by omega, List.drop_succ_cons]; exact HRD.out.more hb5) hWw
    have HZ := Lib.hid (hl5.put3 (a := .int .u8 (a : Int)) (b := .slice A5 X.length c5) (c := nilS))
    obtain ⟨⟨z0, z1, z2⟩, f0, f1, f2⟩ := hl5.three
    clear hown5 hgr5 hb5 e5 hl5 hXA
    go_frame
    go_wp2
    refine bodyPost_ret (v := .tuple #[tv a (.slice A5 X.length c5) nilS, .int .i64 0]) ?_ rfl ?_
    · have hz := HZ.out
      unfold put3 at hz
      generalize World.setCell (World.setCell (World.setCell w5 _ _) _ _) _ _ = w9 at hz ⊢
      obtain ⟨⟨z0, z1, z2⟩, _⟩ := hz.three
      simp [results, Try.results49, go_sem, z0, z1, z2]
    · exact HE.out
  have hres := HR2.out
  rw [if_neg (by omega)] at hres
  have HR3 := Lib.hid hres
  obtain ⟨A9, c9, hlr, _⟩ := HRD.out.box
  have hf := full_any d hd16 w1
  have y0 := hlr.cell 0
  simp only [List.getElem?_cons_zero] at y0
  clear hH h32 hlr hres
  go_wp2_with fail
  refine hf.mono ?_
  rintro e w2 ⟨hb2, ⟨h16, rfl⟩ | ⟨h16, rfl⟩⟩
  · have hl2 := HL1.out.below hb2 HL1.out.lt
    have HE : Hid (ElEnd W R d (a :: r) RES w (.returned (.tuple #[tv 0 nilS nilS, .int .i64 61])) (put3 w2 w.heap.size (.int .u8 0) nilS nilS)) := el_no (n := 61) (by
      have h0 : lv = 0 := by have := HDD.out; omega
      subst h0
      exact HR3.out.symm) rfl (by decide) (gb_trans HGW.out (gb_below hb2))
    have HZ := Lib.hid (Lies.put3 (a := .int .u8 0) (b := nilS) (c := nilS) hl2)
    obtain ⟨⟨z0, z1, z2⟩, f0, f1, f2⟩ := hl2.three
    clear hf hb2 hl2 h16 y0
    go_wp2
    refine bodyPost_ret (v := .tuple #[tv 0 nilS nilS, .int .i64 61]) ?_ rfl ?_
    · have hz := HZ.out
      unfold put3 at hz
      generalize World.setCell (World.setCell (World.setCell w2 _ _) _ _) _ _ = w9 at hz ⊢
      obtain ⟨⟨z0, z1, z2⟩, _⟩ := hz.three
      simp [results, Try.results49, go_sem, z0, z1, z2]
    · exact HE.out
  obtain ⟨m, rfl⟩ : ∃ m, lv = m + 1 := ⟨lv - 1, by have := HDD.out; omega⟩
  have hrd2 := HRD.out.more hb2
  have hl2 := HL1.out.below hb2 HL1.out.lt
  obtain ⟨A9, c9, hlr, _⟩ := hrd2.box
  have hi := inner_any d hd16 w2
  have y2 := hlr.cell 0
  simp only [List.getElem?_cons_zero] at y2
  have HRD2 := Lib.hid hrd2
  have HL2 := Lib.hid hl2
  have HG2 := Lib.hid (gb_trans HGW.out (gb_below (r := some R) hb2))
  clear hf hlr hrd2 hl2 hb2 h16 y0
  go_wp2_with fail
  refine hi.mono ?_
  rintro e w3 ⟨rfl, hb3⟩
  clear hi y2
  have HRD3 := Lib.hid (HRD2.out.more hb3)
  have HL3 := Lib.hid (HL2.out.below hb3 HL2.out.lt)
  have HG3 := Lib.hid (gb_trans HG2.out (gb_below (r := some R) hb3))
  clear hb3 HRD2 HL2 HG2 HL1 HGW HRD
  obtain ⟨W4, eW4⟩ : ∃ W4, W4 = w3.alloc (.cells #[.int .i64 ((d : Int) + 1), .slice A1 n c1] 87) := ⟨_, rfl⟩
  have hb4 : Below w3.heap.size w3 W4 := by rw [eW4]; exact (Below.refl _ _).alloc (Nat.le_refl _) _
  have hz4 : W4.heap.size = w3.heap.size + 1 := by rw [eW4]; simp
  have hl4 : Lies W4 w3.heap.size 87 [.int .i64 ((d + 1 : Nat) : Int), .slice A1 n c1] := by rw [eW4]; exact Lies.new_ rfl
  have hbW3 : Below W.heap.size W w3 := HRD3.out.below
  have hIN : Rd W w3.heap.size (d + 1) X W4 := ⟨hbW3.trans (hb4.mono hbW3.size), hbW3.size, by have := HDD.out; omega, A1, c1, by rw [HXL.out]; exact hl4, HX.out⟩
  have hC := HAA.out m rfl W w3.heap.size (d + 1) X W4 (by have := HDD.out; omega) (by rw [HXL.out]; exact hn65) hIN
  rw [HXL.out] at hC
  have HW4 := Lib.hid eW4
  have HB4 := Lib.hid hb4
  have HZ4 := Lib.hid hz4
  rw [eW4] at hC
  clear eW4 hb4 hl4 hIN hbW3 hz4
  go_wp2_with fail
  refine hC.mono ?_
  intro e w5 hh
  clear hC
  rw [← HW4.out] at hh
  obtain ⟨hg5, hh⟩ := hh.cases
  have hb5 : Below w3.heap.size w3 w5 := HB4.out.trans (gb_down hg5 (by have := HZ4.out; omega) (Nat.le_refl _))
  have hl5 := HL3.out.below hb5 HL3.out.lt
  have hg5w := gb_trans HG3.out (gb_below (r := some R) hb5)
  rcases hh with ⟨l, A6, c6, hr, rfl, vs, hv1, hv2, hv3, hv4⟩ | ⟨j, hr, hj, rfl⟩
  · have HE : Hid (ElEnd W R d (a :: r) RES w (.returned (.tuple #[tv a nilS (.slice A6 l.length c6), .int .i64 0])) (put3 w5 w.heap.size (.int .u8 (a : Int)) nilS (.slice A6 l.length c6))) :=
      el_yes (t := .mk a [] l) (m := 1 + k + n) (C := W4.heap.size) (A1 := none) (c1 := 0) (by rw [← HR3.out, hr]; rfl) (.mk (vs := vs) ha (SlIs.nil _ _) ⟨Nat.zero_le _, fun _ h => nomatch h⟩ hv1 hv2 hv3 hv4) (by have := HZ4.out; have := HL3.out.lt; omega) hg5w hRw
        (by rw [show 1 + k + n = (k + n) + 1 from by omega, List.drop_succ_cons]; exact HRD3.out.more hb5) hWw
    have HZ := Lib.hid (hl5.put3 (a := .int .u8 (a : Int)) (b := nilS) (c := .slice A6 l.length c6))
    obtain ⟨⟨z0, z1, z2⟩, f0, f1, f2⟩ := hl5.three
    clear hg5 hb5 hl5 hg5w hr hv1 hv2 hv3 hv4
    go_wp2
    refine bodyPost_ret (v := .tuple #[tv a nilS (.slice A6 l.length c6), .int .i64 0]) ?_ rfl ?_
    · have hz := HZ.out
      unfold put3 at hz
      generalize World.setCell (World.setCell (World.setCell w5 _ _) _ _) _ _ = w9 at hz ⊢
      obtain ⟨⟨z0, z1, z2⟩, _⟩ := hz.three
      simp [results, Try.results49, go_sem, z0, z1, z2]
    · exact HE.out
  · have hdj : ((j : Int) != 0) = true := by rw [bne_iff_ne]; omega
    have HE : Hid (ElEnd W R d (a :: r) RES w (.returned (.tuple #[tv 0 nilS nilS, .int .i64 (j : Int)])) (put3 w5 w.heap.size (.int .u8 0) nilS nilS)) := el_no (n := j) (by rw [← HR3.out, hr]; rfl) rfl hj hg5w
    have HZ := Lib.hid (Lies.put3 (a := .int .u8 0) (b := nilS) (c := nilS) hl5)
    obtain ⟨⟨z0, z1, z2⟩, f0, f1, f2⟩ := hl5.three
    clear hg5 hb5 hl5 hg5w hr hj
    go_wp2
    refine bodyPost_ret (v := .tuple #[tv 0 nilS nilS, .int .i64 (j : Int)]) ?_ rfl ?_
    · have hz := HZ.out
      unfold put3 at hz
      generalize World.setCell (World.setCell (World.setCell w5 _ _) _ _) _ _ = w9 at hz ⊢
      obtain ⟨⟨z0, z1, z2⟩, _⟩ := hz.three
      simp [results, Try.results49, go_sem, z0, z1, z2]
    · exact HE.out
theorem elem_all : ∀ lv, ElemOk lv
  | 0 => elem_step 0 fun m e => by omega
  | n + 1 => elem_step (n + 1) fun m e => by
    have : n = m := by omega
    subst this
    exact all_step n (elem_all n)
end Go.Proofs.Ytkjofadabaecfaa
