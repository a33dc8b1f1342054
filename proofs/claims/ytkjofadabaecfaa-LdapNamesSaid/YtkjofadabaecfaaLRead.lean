/-
  The program's read: a message taken apart.
-/
import Derived.Test.YtkjofadabaecfaaLKind
import Derived.Test.YtkjofadabaecfaaTPDec
import Derived.Test.YtkjofadabaecfaaTPNum
import Derived.Deep.RegionHeld
namespace Go.Proofs.Ytkjofadabaecfaa
open Go.RowKit

theorem bel_alloc {w w1 : World} (h : Below w.heap.size w w1) (o : Obj) : Below w.heap.size w (w1.alloc o) := h.alloc h.size o
/-- How a message's reading ends. -/
def MsgEnd (k : Bq.K) (S : List Nat) (w : World) (e : Ending) (w' : World) : Prop := Below w.heap.size w w' ∧
  ((∃ (n : Nat) (p q r : List Nat) (A1 A2 A3 : Option Addr) (c1 c2 c3 : Nat), Bq.put k n p q r = some S ∧ e = .returned (.tuple #[.int .i64 (n : Int), .agg #[.slice A1 p.length c1, .slice A2 q.length c2, .slice A3 r.length c3], .bool true]) ∧ ArgIs w' A1 c1 p ∧ ArgIs w' A2 c2 q ∧ ArgIs w' A3 c3 r) ∨
   ((∀ n p q r, Bq.put k n p q r ≠ some S) ∧ e = .returned (.tuple #[.int .i64 0, .agg #[nilS, nilS, nilS], .bool false])))
theorem MsgEnd.no {k : Bq.K} {S : List Nat} {w w' : World} (h : ∀ n p q r, Bq.put k n p q r ≠ some S) (hb : Below w.heap.size w w') : MsgEnd k S w (.returned (.tuple #[.int .i64 0, .agg #[nilS, nilS, nilS], .bool false])) w' := ⟨hb, .inr ⟨h, rfl⟩⟩
theorem MsgEnd.drew {k : Bq.K} {S : List Nat} {w w' : World} {e : Ending} (h : MsgEnd k S w e w') : MsgEnd k S w e w'.drew := by
  obtain ⟨hb, h⟩ := h
  refine ⟨hb.drew, ?_⟩
  rcases h with ⟨n, p, q, r, A1, A2, A3, c1, c2, c3, h1, h2, h3, h4, h5⟩ | h
  · exact .inl ⟨n, p, q, r, A1, A2, A3, c1, c2, c3, h1, h2, h3.drew, h4.drew, h5.drew⟩
  · exact .inr h
abbrev nil3 : List Value := [nilS, nilS, nilS]

/-- What holds while the parts are taken over. -/
def LRel (P : Nat) (w8 : World) (a b c : Value) (i : Value) (wr : World) : Prop :=
  ∃ j : Nat, i = .int .i64 j ∧ j ≤ 3 ∧ w8.grownBy wr (some P) ∧ Lies wr P 50 (([a, b, c].take j) ++ nil3.drop j)
theorem gb_next {w8 wr : World} {P j : Nat} {v : Value} {o : Obj} (hg : w8.grownBy wr (some P)) : w8.grownBy ((wr.setCell ⟨P, j, none⟩ v).alloc o) (some P) :=
  ⟨hg.os, hg.tape, hg.output, Nat.le_trans hg.size (by simp [World.setCell]), fun k hk hne => by
    have h1 : k ≠ P := fun e => hne (by rw [e])
    have h2 : k < (wr.setCell ⟨P, j, none⟩ v).heap.size := Nat.lt_of_lt_of_le hk (by simpa [World.setCell] using hg.size)
    rw [Below.heap_alloc _ _ _ h2, Below.heap_setCell _ _ _ _ h1]
    exact hg.block k hk hne⟩
section
variable {P : Nat} {w8 wr : World} {a b c : Value} {o : Obj}
theorem LRel.next0 (hg : w8.grownBy wr (some P)) (h : Lies wr P 50 (([a, b, c].take 0) ++ nil3.drop 0)) : LRel P w8 a b c (.int .i64 1) ((wr.setCell ⟨P, 0, none⟩ a).alloc o) :=
  ⟨1, rfl, by omega, gb_next hg, (h.put 0 a).alloc o⟩
theorem LRel.next1 (hg : w8.grownBy wr (some P)) (h : Lies wr P 50 (([a, b, c].take 1) ++ nil3.drop 1)) : LRel P w8 a b c (.int .i64 2) ((wr.setCell ⟨P, 1, none⟩ b).alloc o) :=
  ⟨2, rfl, by omega, gb_next hg, (h.put 1 b).alloc o⟩
theorem LRel.next2 (hg : w8.grownBy wr (some P)) (h : Lies wr P 50 (([a, b, c].take 2) ++ nil3.drop 2)) : LRel P w8 a b c (.int .i64 3) ((wr.setCell ⟨P, 2, none⟩ c).alloc o) :=
  ⟨3, rfl, by omega, gb_next hg, (h.put 2 c).alloc o⟩
end
theorem lies_three {w : World} {g : Nat} {ty : TypeId} {a b c : Value} (h : Lies w g ty [a, b, c]) : (w.cell? ⟨g, 0, none⟩ = some a ∧ w.cell? ⟨g, 1, none⟩ = some b ∧ w.cell? ⟨g, 2, none⟩ = some c) ∧ (w.frozen? ⟨g, 0, none⟩ = false ∧ w.frozen? ⟨g, 1, none⟩ = false ∧ w.frozen? ⟨g, 2, none⟩ = false) := h.three

set_option maxHeartbeats 1000000 in
set_option maxRecDepth 100000 in
theorem read_any {k : Bq.K} (hk : Bq.Two k) (S : List Nat) (A : Option Addr) (c : Nat) (w : World) (hS : ArgIs w A c S) :
    Calls Try.prog 25 #[kv k, .slice A S.length c] w (MsgEnd k S w) := by
  obtain ⟨K0, eK⟩ : ∃ K0, w.heap.size = K0 := ⟨_, rfl⟩
  have HL0 : Hid (∀ W0, ((w.alloc (.cells (kcells k).toArray 47)).alloc (.cells nil3.toArray 50)).alloc (.cells nil3.toArray 50) = W0 → Below w.heap.size w W0 ∧ Lies W0 K0 47 (kcells k) ∧ Lies W0 (K0 + 1) 50 nil3 ∧ Lies W0 (K0 + 2) 50 nil3) := by
    intro W0 h
    subst h
    exact ⟨below_alloc (below_alloc ((Below.refl _ _).alloc (Nat.le_refl _) _) _) _, ((Lies.new_ eK.symm).alloc _).alloc _, (Lies.new_ (by simp; omega)).alloc _, Lies.new_ (by simp; omega)⟩
  go_enter Try.func25, Try.ntmps25
  go_upto_region 2 with (fail)
  generalize hW0 : World.alloc (World.alloc (World.alloc w _) _) _ = W0
  obtain ⟨hb0, hK, hR, hP⟩ := HL0.out _ hW0
  have hD := decode_any S A c W0 (hS.on hb0)
  have h256 := Lib.hid hS.2.2.1
  have HB0 := Lib.hid hb0
  have HK := Lib.hid hK
  have HR := Lib.hid hR
  have HP := Lib.hid hP
  have hKK : K0 < W0.heap.size := hK.lt
  have hKR : K0 + 1 < W0.heap.size := hR.lt
  have hKP : K0 + 2 < W0.heap.size := hP.lt
  have hwK : w.heap.size ≤ K0 := Nat.le_of_eq eK
  clear hb0 hK hR hP hW0 HL0 eK hS
  go_wp2_with fail
  refine hD.mono ?_
  intro e w1 hh
  clear hD
  rcases hh.cases with ⟨t, A1, c1, A2, c2, hr, rfl, hJ, hb1⟩ | ⟨m, hr, hm, rfl, hb1⟩
  rotate_left
  · have hd : ((m : Int) != 0) = true := by rw [bne_iff_ne]; omega
    have hno : ∀ n p q r, Bq.put k n p q r ≠ some S := fun n p q r h => by
      rw [Bq.put_back h] at hr
      cases hr
    go_upto_region 4 with (fail)
    generalize hW2 : World.alloc w1 _ = W2
    have hb2 : Below W0.heap.size W0 W2 := by rw [← hW2]; exact below_alloc hb1 _
    have hR2 := HR.out.below hb2 hKR
    have hP2 := HP.out.below hb2 hKP
    have HE : Hid (MsgEnd k S w (.returned (.tuple #[.int .i64 0, .agg #[nilS, nilS, nilS], .bool false])) (put3 W2 (K0 + 1) nilS nilS nilS)) := MsgEnd.no hno (below_put3 (below_more HB0.out hb2) (by omega))
    have HZ := Lib.hid (Lies.put3 (a := nilS) (b := nilS) (c := nilS) hR2)
    obtain ⟨⟨z0, z1, z2⟩, _⟩ := hP2.three
    obtain ⟨⟨y0, y1, y2⟩, f0, f1, f2⟩ := hR2.three
    clear hW2 hb2 hR2 hP2 hno hm hr hh hb1 hd
    go_region_law (fail)
    all_goals
      go_wp2
      refine bodyPost_ret (v := .tuple #[.int .i64 0, .agg #[nilS, nilS, nilS], .bool false]) ?_ rfl ?_
      · have hz := HZ.out
        unfold put3 at hz
        generalize World.setCell (World.setCell (World.setCell W2 _ _) _ _) _ _ = w9 at hz ⊢
        obtain ⟨⟨x0, x1, x2⟩, _⟩ := hz.three
        simp [results, Try.results25, go_sem, x0, x1, x2]
      · exact MsgEnd.drew HE.out
  obtain ⟨N, eN⟩ : ∃ N, t.list.length = N := ⟨_, rfl⟩
  rw [eN] at hJ ⊢
  have hJ1 := hJ
  obtain ⟨W2, eW2⟩ : ∃ W2, W2 = w1.alloc (.cells #[.int .u8 (t.tag : Int), .slice A1 t.bytes.length c1, .slice A2 N c2] 60) := ⟨_, rfl⟩
  have hT : Lies W2 w1.heap.size 60 [.int .u8 (t.tag : Int), .slice A1 t.bytes.length c1, .slice A2 N c2] := by rw [eW2]; exact Lies.new_ rfl
  have hb12 : Below w1.heap.size w1 W2 := by rw [eW2]; exact (Below.refl _ _).alloc (Nat.le_refl _) _
  have hb2 : Below W0.heap.size W0 W2 := below_more hb1 hb12
  have hJ2 := hJ1.on hb12
  have hM := made_any _ t 48 [2, k.g] (some ⟨w1.heap.size + 1, 0, none⟩) 2 (W2.alloc (.cells #[.int .u8 2, .int .u8 (k.g : Int)] 5)) (hJ2.on ((Below.refl _ _).alloc (Nat.le_refl _) _)) (arg_made (by rfl) (by rw [eW2]; simp) rfl (by rcases hk with rfl | rfl <;> decide) (by simp))
  have hK2 := HK.out.below hb2 hKK
  have zk := hK2.cell 0
  simp only [List.getElem?_cons_zero] at zk
  rw [eW2] at hM zk
  have HT := Lib.hid hT
  have HJ2 := Lib.hid hJ2
  have HB2 := Lib.hid hb2
  have HW2 := Lib.hid eW2
  have HRR := Lib.hid hr
  have HN := Lib.hid eN
  clear hh hJ hb1 hJ1 hT hb12 hb2 hJ2 hK2 eW2 hr eN
  go_wp2_with fail
  refine hM.mono ?_
  rw [← HW2.out]
  rintro e w3 ⟨hb3, ⟨hm, rfl⟩ | ⟨hm, rfl⟩⟩
  rotate_left
  · have hno : ∀ n p q r, Bq.put k n p q r ≠ some S := fun n p q r h => by
      obtain ⟨x, y, u, v, z, h1, h2, h3, h4, _⟩ := Bq.put_made h
      rw [HRR.out] at h1
      injection h1 with h1
      exact hm (by rw [h1]; exact ⟨rfl, by simp [Bq.T.list, h2, h4]⟩)
    clear hM
    go_upto_region 4 with (fail)
    have hb03 : Below W0.heap.size W0 w3 := below_more HB2.out (below_more ((Below.refl _ _).alloc (Nat.le_refl _) _) hb3)
    have hR2 := HR.out.below hb03 hKR
    have hP2 := HP.out.below hb03 hKP
    have HE : Hid (MsgEnd k S w (.returned (.tuple #[.int .i64 0, .agg #[nilS, nilS, nilS], .bool false])) (put3 w3 (K0 + 1) nilS nilS nilS)) := MsgEnd.no hno (below_put3 (below_more HB0.out hb03) (by omega))
    have HZ := Lib.hid (Lies.put3 (a := nilS) (b := nilS) (c := nilS) hR2)
    obtain ⟨⟨z0, z1, z2⟩, _⟩ := hP2.three
    obtain ⟨⟨y0, y1, y2⟩, f0, f1, f2⟩ := hR2.three
    clear hb03 hR2 hP2 hno hm hb3
    go_region_law (fail)
    all_goals
      go_wp2
      refine bodyPost_ret (v := .tuple #[.int .i64 0, .agg #[nilS, nilS, nilS], .bool false]) ?_ rfl ?_
      · have hz := HZ.out
        unfold put3 at hz
        generalize World.setCell (World.setCell (World.setCell w3 _ _) _ _) _ _ = w9 at hz ⊢
        obtain ⟨⟨x0, x1, x2⟩, _⟩ := hz.three
        simp [results, Try.results25, go_sem, x0, x1, x2]
      · exact MsgEnd.drew HE.out
  clear hM
  obtain ⟨ht, hl⟩ := hm
  obtain ⟨x, y, hlist, hx, hy⟩ : ∃ x y, t.list = [x, y] ∧ x.tag = 2 ∧ y.tag = k.g := by
    match hq : t.list, hl with
    | [x, y], hl =>
      simp only [List.map_cons, List.map_nil, List.cons.injEq, and_true] at hl
      exact ⟨x, y, rfl, hl.1, hl.2⟩
    | [], hl => simp at hl
    | [_], hl => simp at hl
    | _ :: _ :: _ :: _, hl => simp at hl
  obtain rfl : 2 = N := by rw [← HN.out, hlist]; rfl
  have hb23 : Below W2.heap.size W2 w3 := below_more ((Below.refl _ _).alloc (Nat.le_refl _) _) hb3
  have hb03 : Below W0.heap.size W0 w3 := below_more HB2.out hb23
  obtain ⟨⟨_, _, z2⟩, _⟩ := (HT.out.below hb23 HT.out.lt).three
  have hTlt : w1.heap.size < w3.heap.size := Nat.lt_of_lt_of_le HT.out.lt hb23.size
  obtain ⟨bv, lv, etv, _, _, _, hLI⟩ := (HJ2.out.on hb23).parts
  simp only [Value.agg.injEq, Array.mk.injEq, List.cons.injEq, and_true] at etv
  obtain ⟨_, rfl, rfl⟩ := etv
  rw [hlist] at hLI
  obtain ⟨b, off, x', X1, d1, X2, d2, rfl, _, hblt, hx', hJx, s0, s1, s2⟩ := hLI.elem (i := 0) (by simp)
  obtain rfl : x = x' := by simpa using hx'
  obtain ⟨b', off', y', Y1, e1, Y2, e2, hbo, _, _, hy', hJy, t0, t1, t2⟩ := hLI.elem (i := 1) (by simp)
  obtain rfl : y = y' := by simpa using hy'
  injection hbo with hbo
  injection hbo with hbo1 hbo2
  subst hbo1 hbo2
  obtain ⟨M, eM⟩ : ∃ M, y.list.length = M := ⟨_, rfl⟩
  rw [eM] at t2 hJy
  have HM := Lib.hid eM
  have HJX := Lib.hid hJx
  have HJY := Lib.hid hJy
  have HX := Lib.hid hx
  have HY := Lib.hid hy
  have HLIST := Lib.hid hlist
  have HTT := Lib.hid ht
  have HB3 := Lib.hid hb03
  rw [Nat.zero_mul, Nat.add_zero] at s0 s1 s2
  rw [Nat.one_mul] at t0 t1 t2
  rw [hx] at s0
  rw [hy] at t0
  have KP : Hid (∀ W, Below w3.heap.size w3 W → W.cell? ⟨w1.heap.size, 2, none⟩ = some (.slice (some ⟨b, off, none⟩) 2 c2) ∧ (W.cell? ⟨b, off, none⟩ = some (.int .u8 2) ∧ W.cell? ⟨b, off + 1, none⟩ = some (.slice X1 x.bytes.length d1) ∧ W.cell? ⟨b, off + 2, none⟩ = some (.slice X2 x.list.length d2)) ∧
      W.cell? ⟨b, off + 3, none⟩ = some (.int .u8 (k.g : Int)) ∧ W.cell? ⟨b, off + 3 + 1, none⟩ = some (.slice Y1 y.bytes.length e1) ∧ W.cell? ⟨b, off + 3 + 2, none⟩ = some (.slice Y2 M e2)) := fun W hb =>
    ⟨(hb.cell (p := ⟨w1.heap.size, 2, none⟩) hTlt).trans z2, ⟨(hb.cell (p := ⟨b, off, none⟩) hblt).trans s0, (hb.cell (p := ⟨b, off + 1, none⟩) hblt).trans s1, (hb.cell (p := ⟨b, off + 2, none⟩) hblt).trans s2⟩,
      (hb.cell (p := ⟨b, off + 3, none⟩) hblt).trans t0, (hb.cell (p := ⟨b, off + 3 + 1, none⟩) hblt).trans t1, (hb.cell (p := ⟨b, off + 3 + 2, none⟩) hblt).trans t2⟩
  clear eM hl ht hx hy hlist hb23 hb03 hLI hx' hy' hJx hJy hb3 z2 s0 s1 s2 t0 t1 t2 hblt hTlt
  go_upto_region 5 with (fail)
  go_region_held (fun W => W.cell? ⟨w1.heap.size, 2, none⟩ = some (.slice (some ⟨b, off, none⟩) 2 c2) ∧ (W.cell? ⟨b, off, none⟩ = some (.int .u8 2) ∧ W.cell? ⟨b, off + 1, none⟩ = some (.slice X1 x.bytes.length d1) ∧ W.cell? ⟨b, off + 2, none⟩ = some (.slice X2 x.list.length d2)) ∧
      W.cell? ⟨b, off + 3, none⟩ = some (.int .u8 (k.g : Int)) ∧ W.cell? ⟨b, off + 3 + 1, none⟩ = some (.slice Y1 y.bytes.length e1) ∧ W.cell? ⟨b, off + 3 + 2, none⟩ = some (.slice Y2 M e2))
    ((refine KP.out _ ?_; repeat (first | exact Below.refl _ _ | refine Below.drew ?_ | refine bel_alloc ?_ _ | refine Below.setCell ?_ (by simp) _)))
    (fail)
  · generalize hW5 : World.drew _ = W5
    have hb35 : Below w3.heap.size w3 W5 := by rw [← hW5]; exact (bel_alloc (bel_alloc (Below.refl _ _) _) _).drew
    obtain ⟨hLN, hLA⟩ : Lies W5 (w3.heap.size) 60 [.int .u8 2, .slice X1 x.bytes.length d1, .slice X2 x.list.length d2] ∧ Lies W5 (w3.heap.size + 1) 60 [.int .u8 (k.g : Int), .slice Y1 y.bytes.length e1, .slice Y2 M e2] := by
      rw [← hW5]
      show Lies ((w3.alloc (.cells #[.int .u8 2, .slice X1 x.bytes.length d1, .slice X2 x.list.length d2] 60)).alloc (.cells #[.int .u8 (k.g : Int), .slice Y1 y.bytes.length e1, .slice Y2 M e2] 60)) _ _ _ ∧ Lies ((w3.alloc (.cells #[.int .u8 2, .slice X1 x.bytes.length d1, .slice X2 x.list.length d2] 60)).alloc (.cells #[.int .u8 (k.g : Int), .slice Y1 y.bytes.length e1, .slice Y2 M e2] 60)) _ _ _
      exact ⟨(Lies.new_ rfl).alloc _, Lies.new_ (by simp)⟩
    have hAlt : (w3.heap.size + 1) < W5.heap.size := hLA.lt
    have hb5 := below_more HB3.out hb35
    have hXA : ArgIs W5 X1 d1 x.bytes := by
      obtain ⟨_, _, ex, _, h1, h2, _⟩ := (HJX.out.on hb35).parts
      simp only [Value.agg.injEq, Array.mk.injEq, List.cons.injEq, and_true] at ex
      obtain ⟨_, rfl, _⟩ := ex
      exact h1.arg h2.2
    have hNum := number_any x.bytes X1 d1 W5 hXA
    obtain ⟨⟨_, z1, _⟩, _⟩ := hLN.three
    have HLA := Lib.hid hLA
    have HB5 := Lib.hid hb5
    have HJY5 := Lib.hid (HJY.out.on hb35)
    clear hW5 hLN hLA hXA hb5 hb35 HJY HJX KP
    obtain ⟨m, ok, hnp⟩ : ∃ m ok, numberP x.bytes = (m, ok) := ⟨_, _, rfl⟩
    rw [hnp] at hNum
    have HNP := Lib.hid hnp
    clear hnp
    go_wp2_with fail
    refine hNum.mono ?_
    rintro e w6 ⟨rfl, hb6⟩
    have hb06 := below_more HB5.out hb6
    cases ok
    · have hno : ∀ n p q r, Bq.put k n p q r ≠ some S := fun n p q r h => by
        obtain ⟨x', y', u, v, z, h1, h2, h3, _⟩ := Bq.put_made h
        rw [HRR.out] at h1
        injection h1 with h1
        have h4 : x = x' := by
          have := HLIST.out
          rw [h1] at this
          simp only [Bq.T.list, List.cons.injEq, and_true] at this
          exact this.1.symm
        have h5 := Bq.number_whole (Bq.put_ok h).1
        rw [← h3, ← h4, HNP.out] at h5
        simp at h5
      clear hNum
      go_upto_region 7 with (fail)
      go_quiet (fail)
      go_upto_region 8 with (fail)
      generalize hw7 : World.drewN w6 _ = w7
      have hb0w7 : Below W0.heap.size W0 w7 := by rw [← hw7]; exact below_more hb06 (drewN_below _ _)
      have hR2 := HR.out.below hb0w7 hKR
      have hP2 := HP.out.below hb0w7 hKP
      have HE : Hid (MsgEnd k S w (.returned (.tuple #[.int .i64 0, .agg #[nilS, nilS, nilS], .bool false])) (put3 w7 (K0 + 1) nilS nilS nilS)) := MsgEnd.no hno (below_put3 (below_more HB0.out hb0w7) (by omega))
      have HZ := Lib.hid (Lies.put3 (a := nilS) (b := nilS) (c := nilS) hR2)
      obtain ⟨⟨z0, z1, z2⟩, _⟩ := hP2.three
      obtain ⟨⟨y0, y1, y2⟩, f0, f1, f2⟩ := hR2.three
      clear hb06 hb0w7 hw7 hR2 hP2 hno hb6
      go_region_law (fail)
      all_goals
        go_wp2
        refine bodyPost_ret (v := .tuple #[.int .i64 0, .agg #[nilS, nilS, nilS], .bool false]) ?_ rfl ?_
        · have hz := HZ.out
          unfold put3 at hz
          generalize World.setCell (World.setCell (World.setCell w7 _ _) _ _) _ _ = w9 at hz ⊢
          obtain ⟨⟨x0, x1, x2⟩, _⟩ := hz.three
          simp [results, Try.results25, go_sem, x0, x1, x2]
        · exact MsgEnd.drew HE.out
    have hLA6 := HLA.out.below hb6 hAlt
    have hK6 := HK.out.below hb06 hKK
    have hJY6 := HJY5.out.on hb6
    rw [HY.out] at hJY6
    have hKPP : Hid (∀ W, Below w6.heap.size w6 W → (W.cell? ⟨(w3.heap.size + 1), 0, none⟩ = some (.int .u8 (k.g : Int)) ∧ W.cell? ⟨(w3.heap.size + 1), 1, none⟩ = some (.slice Y1 y.bytes.length e1) ∧ W.cell? ⟨(w3.heap.size + 1), 2, none⟩ = some (.slice Y2 M e2)) ∧ W.cell? ⟨K0, 0, none⟩ = some (.int .u8 (k.g : Int))) := fun W hb =>
      ⟨(hLA6.below hb hLA6.lt).three.1, (hK6.below hb hK6.lt).cell 0⟩
    have hM2 : Hid (∀ W, Below w6.heap.size w6 W → Calls Try.prog 41 #[.agg #[.int .u8 (k.g : Int), .slice Y1 y.bytes.length e1, .slice Y2 M e2], .int .u8 (k.g : Int), .slice (some ⟨K0, 1, none⟩) 3 3] W (Tells (Bq.Made y k.g [k.a, k.b, k.c]) W)) := fun W hb =>
      made_any _ y k.g [k.a, k.b, k.c] (some ⟨K0, 1, none⟩) 3 W (hJY6.on hb) ⟨by simp, by decide, by rcases hk with rfl | rfl <;> decide, fun _ => ⟨K0, 1, rfl, (hK6.below hb hK6.lt).lt, fun j x hj => ⟨by
        have := List.mem_of_getElem? hj
        rcases hk with rfl | rfl <;> (simp [Bq.bindK, Bq.boundK] at this; omega), by
        have h1 := (hK6.below hb hK6.lt).cell (1 + j)
        rw [h1, Nat.add_comm 1 j, List.getElem?_cons_succ]
        show (u8s [k.a, k.b, k.c])[j]? = _
        unfold u8s
        rw [List.getElem?_map, hj]
        rfl⟩⟩⟩
    have HB06 := Lib.hid hb06
    have HJY6 := Lib.hid hJY6
    have HLA6 := Lib.hid hLA6
    have hA6 : (w3.heap.size + 1) < w6.heap.size := hLA6.lt
    clear hNum hLA6 hK6 hJY6 hb06 hb6 HLA HJY5
    go_upto_region 7 with (fail)
    go_region_held (fun W => (W.cell? ⟨(w3.heap.size + 1), 0, none⟩ = some (.int .u8 (k.g : Int)) ∧ W.cell? ⟨(w3.heap.size + 1), 1, none⟩ = some (.slice Y1 y.bytes.length e1) ∧ W.cell? ⟨(w3.heap.size + 1), 2, none⟩ = some (.slice Y2 M e2)) ∧ W.cell? ⟨K0, 0, none⟩ = some (.int .u8 (k.g : Int)))
      ((refine hKPP.out _ ?_; first | exact (Below.refl _ _).drew | exact reg_a (by assumption)))
      (first | (go_at_call 41; refine (hM2.out _ (Below.refl _ _).drew).mono ?_; intro e w8 hh8; obtain ⟨made, rfl, hmade, hb8⟩ := hh8.as; clear hh8))
    have hb68 := reg_a hb8
    have hb08 := below_more HB06.out hb68
    cases made
    · have hno : ∀ n p q r, Bq.put k n p q r ≠ some S := fun n p q r h => by
        obtain ⟨x', y', u, v, z, h1, h2, h3, h4, h5, ⟨h6, h7, h8⟩, _⟩ := Bq.put_made h
        rw [HRR.out] at h1
        injection h1 with h1
        have h9 : y = y' := by
          have := HLIST.out
          rw [h1] at this
          simp only [Bq.T.list, List.cons.injEq, and_true] at this
          exact this.2.symm
        have := hmade.2 ⟨HY.out, by rw [h9, h5]; simp [h6, h7, h8]⟩
        cases this
      have hb0w8 := hb08
      clear hM2 hKPP hmade
      go_upto_region 8 with (fail)
      have hR2 := HR.out.below hb0w8 hKR
      have hP2 := HP.out.below hb0w8 hKP
      have HE : Hid (MsgEnd k S w (.returned (.tuple #[.int .i64 0, .agg #[nilS, nilS, nilS], .bool false])) (put3 w8 (K0 + 1) nilS nilS nilS)) := MsgEnd.no hno (below_put3 (below_more HB0.out hb0w8) (by omega))
      have HZ := Lib.hid (Lies.put3 (a := nilS) (b := nilS) (c := nilS) hR2)
      obtain ⟨⟨z0, z1, z2⟩, _⟩ := hP2.three
      obtain ⟨⟨y0, y1, y2⟩, f0, f1, f2⟩ := hR2.three
      clear hb0w8 hb08 hb68 hb8 hR2 hP2 hno
      go_region_law (fail)
      all_goals
        go_wp2
        refine bodyPost_ret (v := .tuple #[.int .i64 0, .agg #[nilS, nilS, nilS], .bool false]) ?_ rfl ?_
        · have hz := HZ.out
          unfold put3 at hz
          generalize World.setCell (World.setCell (World.setCell w8 _ _) _ _) _ _ = w9 at hz ⊢
          obtain ⟨⟨x0, x1, x2⟩, _⟩ := hz.three
          simp [results, Try.results25, go_sem, x0, x1, x2]
        · exact MsgEnd.drew HE.out
    obtain ⟨_, hyl⟩ := hmade.1 rfl
    obtain ⟨u, v, z, hylist, hu, hv, hz⟩ : ∃ u v z, y.list = [u, v, z] ∧ u.tag = k.a ∧ v.tag = k.b ∧ z.tag = k.c := by
      match hq : y.list, hyl with
      | [u, v, z], hyl =>
        simp only [List.map_cons, List.map_nil, List.cons.injEq, and_true] at hyl
        exact ⟨u, v, z, rfl, hyl.1, hyl.2.1, hyl.2.2⟩
      | [], hyl => simp at hyl
      | [_], hyl => simp at hyl
      | [_, _], hyl => simp at hyl
      | _ :: _ :: _ :: _ :: _, hyl => simp at hyl
    obtain rfl : 3 = M := by rw [← HM.out, hylist]; rfl
    have HPUT := Lib.hid (Bq.made_put hk h256.out HRR.out HTT.out HLIST.out HX.out HY.out hylist hu hv hz HNP.out)
    have hJY8 := HJY6.out.on hb68
    rw [← HY.out] at hJY8
    obtain ⟨bv, lv, etv, _, _, _, hLI⟩ := hJY8.parts
    simp only [Value.agg.injEq, Array.mk.injEq, List.cons.injEq, and_true] at etv
    obtain ⟨_, rfl, rfl⟩ := etv
    rw [hylist] at hLI
    obtain ⟨yb, yo, u', U1, g1, U2, g2, rfl, hybo, hyblt, hu', hJu, s0, s1, s2⟩ := hLI.elem (i := 0) (by simp)
    obtain rfl : u = u' := by simpa using hu'
    obtain ⟨yb1, yo1, v', V1, i1, V2, i2, hbo1, _, _, hv', hJv, t0, t1, t2⟩ := hLI.elem (i := 1) (by simp)
    obtain rfl : v = v' := by simpa using hv'
    obtain ⟨yb2, yo2, z', Z1, l1, Z2, l2, hbo2, _, _, hz', hJz, q0, q1, q2⟩ := hLI.elem (i := 2) (by simp)
    obtain rfl : z = z' := by simpa using hz'
    injection hbo1 with hbo1
    injection hbo1 with hbo11 hbo12
    subst hbo11 hbo12
    injection hbo2 with hbo2
    injection hbo2 with hbo21 hbo22
    subst hbo21 hbo22
    rw [Nat.zero_mul, Nat.add_zero] at s0 s1 s2
    rw [Nat.one_mul] at t0 t1 t2
    rw [show 2 * 3 = 6 from rfl] at q0 q1 q2
    have hybP : yb ≠ K0 + 2 := by have : W0.heap.size ≤ yb := hybo; omega
    have KP3 : Hid (∀ W, w8.grownBy W (some (K0 + 2)) → (W.cell? ⟨yb, yo, none⟩ = some (.int .u8 (u.tag : Int)) ∧ W.cell? ⟨yb, yo + 1, none⟩ = some (.slice U1 u.bytes.length g1) ∧ W.cell? ⟨yb, yo + 2, none⟩ = some (.slice U2 u.list.length g2)) ∧
        (W.cell? ⟨yb, yo + 3, none⟩ = some (.int .u8 (v.tag : Int)) ∧ W.cell? ⟨yb, yo + 3 + 1, none⟩ = some (.slice V1 v.bytes.length i1) ∧ W.cell? ⟨yb, yo + 3 + 2, none⟩ = some (.slice V2 v.list.length i2)) ∧
        (W.cell? ⟨yb, yo + 6, none⟩ = some (.int .u8 (z.tag : Int)) ∧ W.cell? ⟨yb, yo + 6 + 1, none⟩ = some (.slice Z1 z.bytes.length l1) ∧ W.cell? ⟨yb, yo + 6 + 2, none⟩ = some (.slice Z2 z.list.length l2))) := fun W hg => by
      have hc : ∀ o, W.cell? ⟨yb, o, none⟩ = w8.cell? ⟨yb, o, none⟩ := fun o => World.cell?_of_block (a := ⟨yb, o, none⟩) (hg.block yb hyblt (fun e => hybP (by injection e)))
      exact ⟨⟨(hc _).trans s0, (hc _).trans s1, (hc _).trans s2⟩, ⟨(hc _).trans t0, (hc _).trans t1, (hc _).trans t2⟩, (hc _).trans q0, (hc _).trans q1, (hc _).trans q2⟩
    have arg_of : ∀ (x : Bq.T) (B1 : Option Addr) (f1 : Nat) (lw : Value), IsT w8 (W0.heap.size ≤ ·) (tv x.tag (.slice B1 x.bytes.length f1) lw) x → ∀ W, (∀ b, W0.heap.size ≤ b → b < w8.heap.size → W.heap[b]? = w8.heap[b]?) → w8.heap.size ≤ W.heap.size → ArgIs W B1 f1 x.bytes := fun x B1 f1 lw hJ W hg hs => by
      obtain ⟨_, _, ex, _, h1, h2, _⟩ := (hJ.keep (w' := W) (ok' := fun _ => True) (fun b hb hlt => ⟨trivial, hg b hb hlt⟩) hs).parts
      simp only [Value.agg.injEq, Array.mk.injEq, List.cons.injEq, and_true] at ex
      obtain ⟨_, rfl, _⟩ := ex
      exact h1.arg h2.2
    have HARG := Lib.hid (And.intro (arg_of u U1 g1 _ hJu) (And.intro (arg_of v V1 i1 _ hJv) (arg_of z Z1 l1 _ hJz)))
    have hP8 := HP.out.below hb08 hKP
    have hR8 := HR.out.below hb08 hKR
    have hA8 := HLA6.out.below hb68 hA6
    have HR8 := Lib.hid hR8
    have HB08 := Lib.hid (below_more HB0.out hb08)
    have hRlt : K0 + 1 < w8.heap.size := hR8.lt
    have HST : Hid (LRel (K0 + 2) w8 (.slice U1 u.bytes.length g1) (.slice V1 v.bytes.length i1) (.slice Z1 z.bytes.length l1) (.int .i64 0) w8) := ⟨0, rfl, by omega, World.grownBy.refl _ _, hP8⟩
    obtain ⟨⟨_, _, z2⟩, _⟩ := hA8.three
    clear hM2 hKPP hmade hyl hylist hu hv hz hLI hu' hv' hz' hJu hJv hJz s0 s1 s2 t0 t1 t2 q0 q1 q2 arg_of hb8 hb68 hb08 hP8 hR8 hA8 hybo hyblt hJY8
    go_wp2_with fail
    go_loopw [61] (fun i wr => LRel (K0 + 2) w8 (.slice U1 u.bytes.length g1) (.slice V1 v.bytes.length i1) (.slice Z1 z.bytes.length l1) i wr) (fun i _ => 3 - (intOf i).toNat)
    case atStart => exact HST.out
    case round =>
      obtain ⟨j, rfl, hj, hg, hL⟩ := hrel
      obtain ⟨⟨s0, s1, s2⟩, ⟨t0, t1, t2⟩, q0, q1, q2⟩ := KP3.out _ hg
      have hPwr : K0 + 2 < wr.heap.size := hL.lt
      by_cases h3 : j = 3
      · subst h3
        have hLP : Lies wr (K0 + 2) 50 [.slice U1 u.bytes.length g1, .slice V1 v.bytes.length i1, .slice Z1 z.bytes.length l1] := hL
        have hRw := HR8.out.grown hg (fun e => by injection e with e; omega)
        have hbw : Below w.heap.size w wr := HB08.out.grown hg HB08.out.size (fun b e => by injection e with e; omega)
        have hfar : ∀ (x0 x1 x2 : Value) (b : Nat), W0.heap.size ≤ b → b < w8.heap.size → (put3 wr (K0 + 1) x0 x1 x2).heap[b]? = w8.heap[b]? := fun x0 x1 x2 b h1 h2 => by
          rw [put3_far (by omega)]
          exact hg.block b h2 (fun e => by injection e with e; omega)
        have hfs : ∀ (x0 x1 x2 : Value), w8.heap.size ≤ (put3 wr (K0 + 1) x0 x1 x2).heap.size := fun x0 x1 x2 => by rw [put3_size]; exact hg.size
        have HE : Hid (MsgEnd k S w (.returned (.tuple #[.int .i64 (m : Int), .agg #[.slice U1 u.bytes.length g1, .slice V1 v.bytes.length i1, .slice Z1 z.bytes.length l1], .bool true])) (put3 wr (K0 + 1) (.slice U1 u.bytes.length g1) (.slice V1 v.bytes.length i1) (.slice Z1 z.bytes.length l1))) :=
          ⟨below_put3 hbw (by omega), .inl ⟨m, u.bytes, v.bytes, z.bytes, U1, V1, Z1, g1, i1, l1, HPUT.out, rfl, HARG.out.1 _ (hfar _ _ _) (hfs _ _ _), HARG.out.2.1 _ (hfar _ _ _) (hfs _ _ _), HARG.out.2.2 _ (hfar _ _ _) (hfs _ _ _)⟩⟩
        have HZ := Lib.hid (Lies.put3 (a := .slice U1 u.bytes.length g1) (b := .slice V1 v.bytes.length i1) (c := .slice Z1 z.bytes.length l1) hRw)
        obtain ⟨⟨z0, z1, z2⟩, _⟩ := hLP.three
        obtain ⟨⟨y0, y1, y2⟩, f0, f1, f2⟩ := hRw.three
        clear hg hL hLP hRw hbw hfar hfs s0 s1 s2 t0 t1 t2 q0 q1 q2 hj
        go_upto_region 14 with (fail)
        go_region_law (fail)
        all_goals
          go_wp2
          refine bodyPost_ret (v := .tuple #[.int .i64 (m : Int), .agg #[.slice U1 u.bytes.length g1, .slice V1 v.bytes.length i1, .slice Z1 z.bytes.length l1], .bool true]) ?_ rfl ?_
          · have hz := HZ.out
            unfold put3 at hz
            generalize World.setCell (World.setCell (World.setCell wr _ _) _ _) _ _ = w9 at hz ⊢
            obtain ⟨⟨x0, x1, x2⟩, _⟩ := hz.three
            simp [results, Try.results25, go_sem, x0, x1, x2]
          · exact MsgEnd.drew HE.out
      have hj3 : j = 0 ∨ j = 1 ∨ j = 2 := by omega
      clear hj h3
      have HG := Lib.hid hg
      have HLL := Lib.hid hL
      clear hg hL
      rcases hj3 with rfl | rfl | rfl
      · have c0 := HLL.out.cell 0
        have f0 := HLL.out.free 0
        have HREL := Lib.hid (LRel.next0 (o := .cells #[.int .u8 (u.tag : Int), .slice U1 u.bytes.length g1, .slice U2 u.list.length g2] 60) HG.out HLL.out)
        go_wp2
        go_roundw
        case rel => exact HREL.out
        case measure => simp [intOf]
      · have c1 := HLL.out.cell 1
        have f1 := HLL.out.free 1
        have HREL := Lib.hid (LRel.next1 (o := .cells #[.int .u8 (v.tag : Int), .slice V1 v.bytes.length i1, .slice V2 v.list.length i2] 60) HG.out HLL.out)
        go_wp2
        go_roundw
        case rel => exact HREL.out
        case measure => simp [intOf]
      · have c2 := HLL.out.cell 2
        have f2 := HLL.out.free 2
        have HREL := Lib.hid (LRel.next2 (o := .cells #[.int .u8 (z.tag : Int), .slice Z1 z.bytes.length l1, .slice Z2 z.list.length l2] 60) HG.out HLL.out)
        go_wp2
        go_roundw
        case rel => exact HREL.out
        case measure => simp [intOf]
  · generalize hW5 : World.drew _ = W5
    have hb35 : Below w3.heap.size w3 W5 := by rw [← hW5]; exact (bel_alloc (bel_alloc (Below.refl _ _) _) _).drew
    obtain ⟨hLN, hLA⟩ : Lies W5 (w3.heap.size + 1) 60 [.int .u8 2, .slice X1 x.bytes.length d1, .slice X2 x.list.length d2] ∧ Lies W5 (w3.heap.size) 60 [.int .u8 (k.g : Int), .slice Y1 y.bytes.length e1, .slice Y2 M e2] := by
      rw [← hW5]
      show Lies ((w3.alloc (.cells #[.int .u8 (k.g : Int), .slice Y1 y.bytes.length e1, .slice Y2 M e2] 60)).alloc (.cells #[.int .u8 2, .slice X1 x.bytes.length d1, .slice X2 x.list.length d2] 60)) _ _ _ ∧ Lies ((w3.alloc (.cells #[.int .u8 (k.g : Int), .slice Y1 y.bytes.length e1, .slice Y2 M e2] 60)).alloc (.cells #[.int .u8 2, .slice X1 x.bytes.length d1, .slice X2 x.list.length d2] 60)) _ _ _
      exact ⟨Lies.new_ (by simp), (Lies.new_ rfl).alloc _⟩
    have hAlt : (w3.heap.size) < W5.heap.size := hLA.lt
    have hb5 := below_more HB3.out hb35
    have hXA : ArgIs W5 X1 d1 x.bytes := by
      obtain ⟨_, _, ex, _, h1, h2, _⟩ := (HJX.out.on hb35).parts
      simp only [Value.agg.injEq, Array.mk.injEq, List.cons.injEq, and_true] at ex
      obtain ⟨_, rfl, _⟩ := ex
      exact h1.arg h2.2
    have hNum := number_any x.bytes X1 d1 W5 hXA
    obtain ⟨⟨_, z1, _⟩, _⟩ := hLN.three
    have HLA := Lib.hid hLA
    have HB5 := Lib.hid hb5
    have HJY5 := Lib.hid (HJY.out.on hb35)
    clear hW5 hLN hLA hXA hb5 hb35 HJY HJX KP
    obtain ⟨m, ok, hnp⟩ : ∃ m ok, numberP x.bytes = (m, ok) := ⟨_, _, rfl⟩
    rw [hnp] at hNum
    have HNP := Lib.hid hnp
    clear hnp
    go_wp2_with fail
    refine hNum.mono ?_
    rintro e w6 ⟨rfl, hb6⟩
    have hb06 := below_more HB5.out hb6
    cases ok
    · have hno : ∀ n p q r, Bq.put k n p q r ≠ some S := fun n p q r h => by
        obtain ⟨x', y', u, v, z, h1, h2, h3, _⟩ := Bq.put_made h
        rw [HRR.out] at h1
        injection h1 with h1
        have h4 : x = x' := by
          have := HLIST.out
          rw [h1] at this
          simp only [Bq.T.list, List.cons.injEq, and_true] at this
          exact this.1.symm
        have h5 := Bq.number_whole (Bq.put_ok h).1
        rw [← h3, ← h4, HNP.out] at h5
        simp at h5
      clear hNum
      go_upto_region 7 with (fail)
      go_quiet (fail)
      go_upto_region 8 with (fail)
      generalize hw7 : World.drewN w6 _ = w7
      have hb0w7 : Below W0.heap.size W0 w7 := by rw [← hw7]; exact below_more hb06 (drewN_below _ _)
      have hR2 := HR.out.below hb0w7 hKR
      have hP2 := HP.out.below hb0w7 hKP
      have HE : Hid (MsgEnd k S w (.returned (.tuple #[.int .i64 0, .agg #[nilS, nilS, nilS], .bool false])) (put3 w7 (K0 + 1) nilS nilS nilS)) := MsgEnd.no hno (below_put3 (below_more HB0.out hb0w7) (by omega))
      have HZ := Lib.hid (Lies.put3 (a := nilS) (b := nilS) (c := nilS) hR2)
      obtain ⟨⟨z0, z1, z2⟩, _⟩ := hP2.three
      obtain ⟨⟨y0, y1, y2⟩, f0, f1, f2⟩ := hR2.three
      clear hb06 hb0w7 hw7 hR2 hP2 hno hb6
      go_region_law (fail)
      all_goals
        go_wp2
        refine bodyPost_ret (v := .tuple #[.int .i64 0, .agg #[nilS, nilS, nilS], .bool false]) ?_ rfl ?_
        · have hz := HZ.out
          unfold put3 at hz
          generalize World.setCell (World.setCell (World.setCell w7 _ _) _ _) _ _ = w9 at hz ⊢
          obtain ⟨⟨x0, x1, x2⟩, _⟩ := hz.three
          simp [results, Try.results25, go_sem, x0, x1, x2]
        · exact MsgEnd.drew HE.out
    have hLA6 := HLA.out.below hb6 hAlt
    have hK6 := HK.out.below hb06 hKK
    have hJY6 := HJY5.out.on hb6
    rw [HY.out] at hJY6
    have hKPP : Hid (∀ W, Below w6.heap.size w6 W → (W.cell? ⟨(w3.heap.size), 0, none⟩ = some (.int .u8 (k.g : Int)) ∧ W.cell? ⟨(w3.heap.size), 1, none⟩ = some (.slice Y1 y.bytes.length e1) ∧ W.cell? ⟨(w3.heap.size), 2, none⟩ = some (.slice Y2 M e2)) ∧ W.cell? ⟨K0, 0, none⟩ = some (.int .u8 (k.g : Int))) := fun W hb =>
      ⟨(hLA6.below hb hLA6.lt).three.1, (hK6.below hb hK6.lt).cell 0⟩
    have hM2 : Hid (∀ W, Below w6.heap.size w6 W → Calls Try.prog 41 #[.agg #[.int .u8 (k.g : Int), .slice Y1 y.bytes.length e1, .slice Y2 M e2], .int .u8 (k.g : Int), .slice (some ⟨K0, 1, none⟩) 3 3] W (Tells (Bq.Made y k.g [k.a, k.b, k.c]) W)) := fun W hb =>
      made_any _ y k.g [k.a, k.b, k.c] (some ⟨K0, 1, none⟩) 3 W (hJY6.on hb) ⟨by simp, by decide, by rcases hk with rfl | rfl <;> decide, fun _ => ⟨K0, 1, rfl, (hK6.below hb hK6.lt).lt, fun j x hj => ⟨by
        have := List.mem_of_getElem? hj
        rcases hk with rfl | rfl <;> (simp [Bq.bindK, Bq.boundK] at this; omega), by
        have h1 := (hK6.below hb hK6.lt).cell (1 + j)
        rw [h1, Nat.add_comm 1 j, List.getElem?_cons_succ]
        show (u8s [k.a, k.b, k.c])[j]? = _
        unfold u8s
        rw [List.getElem?_map, hj]
        rfl⟩⟩⟩
    have HB06 := Lib.hid hb06
    have HJY6 := Lib.hid hJY6
    have HLA6 := Lib.hid hLA6
    have hA6 : (w3.heap.size) < w6.heap.size := hLA6.lt
    clear hNum hLA6 hK6 hJY6 hb06 hb6 HLA HJY5
    go_upto_region 7 with (fail)
    go_region_held (fun W => (W.cell? ⟨(w3.heap.size), 0, none⟩ = some (.int .u8 (k.g : Int)) ∧ W.cell? ⟨(w3.heap.size), 1, none⟩ = some (.slice Y1 y.bytes.length e1) ∧ W.cell? ⟨(w3.heap.size), 2, none⟩ = some (.slice Y2 M e2)) ∧ W.cell? ⟨K0, 0, none⟩ = some (.int .u8 (k.g : Int)))
      ((refine hKPP.out _ ?_; first | exact (Below.refl _ _).drew | exact reg_a (by assumption)))
      (first | (go_at_call 41; refine (hM2.out _ (Below.refl _ _).drew).mono ?_; intro e w8 hh8; obtain ⟨made, rfl, hmade, hb8⟩ := hh8.as; clear hh8))
    have hb68 := reg_a hb8
    have hb08 := below_more HB06.out hb68
    cases made
    · have hno : ∀ n p q r, Bq.put k n p q r ≠ some S := fun n p q r h => by
        obtain ⟨x', y', u, v, z, h1, h2, h3, h4, h5, ⟨h6, h7, h8⟩, _⟩ := Bq.put_made h
        rw [HRR.out] at h1
        injection h1 with h1
        have h9 : y = y' := by
          have := HLIST.out
          rw [h1] at this
          simp only [Bq.T.list, List.cons.injEq, and_true] at this
          exact this.2.symm
        have := hmade.2 ⟨HY.out, by rw [h9, h5]; simp [h6, h7, h8]⟩
        cases this
      have hb0w8 := hb08
      clear hM2 hKPP hmade
      go_upto_region 8 with (fail)
      have hR2 := HR.out.below hb0w8 hKR
      have hP2 := HP.out.below hb0w8 hKP
      have HE : Hid (MsgEnd k S w (.returned (.tuple #[.int .i64 0, .agg #[nilS, nilS, nilS], .bool false])) (put3 w8 (K0 + 1) nilS nilS nilS)) := MsgEnd.no hno (below_put3 (below_more HB0.out hb0w8) (by omega))
      have HZ := Lib.hid (Lies.put3 (a := nilS) (b := nilS) (c := nilS) hR2)
      obtain ⟨⟨z0, z1, z2⟩, _⟩ := hP2.three
      obtain ⟨⟨y0, y1, y2⟩, f0, f1, f2⟩ := hR2.three
      clear hb0w8 hb08 hb68 hb8 hR2 hP2 hno
      go_region_law (fail)
      all_goals
        go_wp2
        refine bodyPost_ret (v := .tuple #[.int .i64 0, .agg #[nilS, nilS, nilS], .bool false]) ?_ rfl ?_
        · have hz := HZ.out
          unfold put3 at hz
          generalize World.setCell (World.setCell (World.setCell w8 _ _) _ _) _ _ = w9 at hz ⊢
          obtain ⟨⟨x0, x1, x2⟩, _⟩ := hz.three
          simp [results, Try.results25, go_sem, x0, x1, x2]
        · exact MsgEnd.drew HE.out
    obtain ⟨_, hyl⟩ := hmade.1 rfl
    obtain ⟨u, v, z, hylist, hu, hv, hz⟩ : ∃ u v z, y.list = [u, v, z] ∧ u.tag = k.a ∧ v.tag = k.b ∧ z.tag = k.c := by
      match hq : y.list, hyl with
      | [u, v, z], hyl =>
        simp only [List.map_cons, List.map_nil, List.cons.injEq, and_true] at hyl
        exact ⟨u, v, z, rfl, hyl.1, hyl.2.1, hyl.2.2⟩
      | [], hyl => simp at hyl
      | [_], hyl => simp at hyl
      | [_, _], hyl => simp at hyl
      | _ :: _ :: _ :: _ :: _, hyl => simp at hyl
    obtain rfl : 3 = M := by rw [← HM.out, hylist]; rfl
    have HPUT := Lib.hid (Bq.made_put hk h256.out HRR.out HTT.out HLIST.out HX.out HY.out hylist hu hv hz HNP.out)
    have hJY8 := HJY6.out.on hb68
    rw [← HY.out] at hJY8
    obtain ⟨bv, lv, etv, _, _, _, hLI⟩ := hJY8.parts
    simp only [Value.agg.injEq, Array.mk.injEq, List.cons.injEq, and_true] at etv
    obtain ⟨_, rfl, rfl⟩ := etv
    rw [hylist] at hLI
    obtain ⟨yb, yo, u', U1, g1, U2, g2, rfl, hybo, hyblt, hu', hJu, s0, s1, s2⟩ := hLI.elem (i := 0) (by simp)
    obtain rfl : u = u' := by simpa using hu'
    obtain ⟨yb1, yo1, v', V1, i1, V2, i2, hbo1, _, _, hv', hJv, t0, t1, t2⟩ := hLI.elem (i := 1) (by simp)
    obtain rfl : v = v' := by simpa using hv'
    obtain ⟨yb2, yo2, z', Z1, l1, Z2, l2, hbo2, _, _, hz', hJz, q0, q1, q2⟩ := hLI.elem (i := 2) (by simp)
    obtain rfl : z = z' := by simpa using hz'
    injection hbo1 with hbo1
    injection hbo1 with hbo11 hbo12
    subst hbo11 hbo12
    injection hbo2 with hbo2
    injection hbo2 with hbo21 hbo22
    subst hbo21 hbo22
    rw [Nat.zero_mul, Nat.add_zero] at s0 s1 s2
    rw [Nat.one_mul] at t0 t1 t2
    rw [show 2 * 3 = 6 from rfl] at q0 q1 q2
    have hybP : yb ≠ K0 + 2 := by have : W0.heap.size ≤ yb := hybo; omega
    have KP3 : Hid (∀ W, w8.grownBy W (some (K0 + 2)) → (W.cell? ⟨yb, yo, none⟩ = some (.int .u8 (u.tag : Int)) ∧ W.cell? ⟨yb, yo + 1, none⟩ = some (.slice U1 u.bytes.length g1) ∧ W.cell? ⟨yb, yo + 2, none⟩ = some (.slice U2 u.list.length g2)) ∧
        (W.cell? ⟨yb, yo + 3, none⟩ = some (.int .u8 (v.tag : Int)) ∧ W.cell? ⟨yb, yo + 3 + 1, none⟩ = some (.slice V1 v.bytes.length i1) ∧ W.cell? ⟨yb, yo + 3 + 2, none⟩ = some (.slice V2 v.list.length i2)) ∧
        (W.cell? ⟨yb, yo + 6, none⟩ = some (.int .u8 (z.tag : Int)) ∧ W.cell? ⟨yb, yo + 6 + 1, none⟩ = some (.slice Z1 z.bytes.length l1) ∧ W.cell? ⟨yb, yo + 6 + 2, none⟩ = some (.slice Z2 z.list.length l2))) := fun W hg => by
      have hc : ∀ o, W.cell? ⟨yb, o, none⟩ = w8.cell? ⟨yb, o, none⟩ := fun o => World.cell?_of_block (a := ⟨yb, o, none⟩) (hg.block yb hyblt (fun e => hybP (by injection e)))
      exact ⟨⟨(hc _).trans s0, (hc _).trans s1, (hc _).trans s2⟩, ⟨(hc _).trans t0, (hc _).trans t1, (hc _).trans t2⟩, (hc _).trans q0, (hc _).trans q1, (hc _).trans q2⟩
    have arg_of : ∀ (x : Bq.T) (B1 : Option Addr) (f1 : Nat) (lw : Value), IsT w8 (W0.heap.size ≤ ·) (tv x.tag (.slice B1 x.bytes.length f1) lw) x → ∀ W, (∀ b, W0.heap.size ≤ b → b < w8.heap.size → W.heap[b]? = w8.heap[b]?) → w8.heap.size ≤ W.heap.size → ArgIs W B1 f1 x.bytes := fun x B1 f1 lw hJ W hg hs => by
      obtain ⟨_, _, ex, _, h1, h2, _⟩ := (hJ.keep (w' := W) (ok' := fun _ => True) (fun b hb hlt => ⟨trivial, hg b hb hlt⟩) hs).parts
      simp only [Value.agg.injEq, Array.mk.injEq, List.cons.injEq, and_true] at ex
      obtain ⟨_, rfl, _⟩ := ex
      exact h1.arg h2.2
    have HARG := Lib.hid (And.intro (arg_of u U1 g1 _ hJu) (And.intro (arg_of v V1 i1 _ hJv) (arg_of z Z1 l1 _ hJz)))
    have hP8 := HP.out.below hb08 hKP
    have hR8 := HR.out.below hb08 hKR
    have hA8 := HLA6.out.below hb68 hA6
    have HR8 := Lib.hid hR8
    have HB08 := Lib.hid (below_more HB0.out hb08)
    have hRlt : K0 + 1 < w8.heap.size := hR8.lt
    have HST : Hid (LRel (K0 + 2) w8 (.slice U1 u.bytes.length g1) (.slice V1 v.bytes.length i1) (.slice Z1 z.bytes.length l1) (.int .i64 0) w8) := ⟨0, rfl, by omega, World.grownBy.refl _ _, hP8⟩
    obtain ⟨⟨_, _, z2⟩, _⟩ := hA8.three
    clear hM2 hKPP hmade hyl hylist hu hv hz hLI hu' hv' hz' hJu hJv hJz s0 s1 s2 t0 t1 t2 q0 q1 q2 arg_of hb8 hb68 hb08 hP8 hR8 hA8 hybo hyblt hJY8
    go_wp2_with fail
    go_loopw [61] (fun i wr => LRel (K0 + 2) w8 (.slice U1 u.bytes.length g1) (.slice V1 v.bytes.length i1) (.slice Z1 z.bytes.length l1) i wr) (fun i _ => 3 - (intOf i).toNat)
    case atStart => exact HST.out
    case round =>
      obtain ⟨j, rfl, hj, hg, hL⟩ := hrel
      obtain ⟨⟨s0, s1, s2⟩, ⟨t0, t1, t2⟩, q0, q1, q2⟩ := KP3.out _ hg
      have hPwr : K0 + 2 < wr.heap.size := hL.lt
      by_cases h3 : j = 3
      · subst h3
        have hLP : Lies wr (K0 + 2) 50 [.slice U1 u.bytes.length g1, .slice V1 v.bytes.length i1, .slice Z1 z.bytes.length l1] := hL
        have hRw := HR8.out.grown hg (fun e => by injection e with e; omega)
        have hbw : Below w.heap.size w wr := HB08.out.grown hg HB08.out.size (fun b e => by injection e with e; omega)
        have hfar : ∀ (x0 x1 x2 : Value) (b : Nat), W0.heap.size ≤ b → b < w8.heap.size → (put3 wr (K0 + 1) x0 x1 x2).heap[b]? = w8.heap[b]? := fun x0 x1 x2 b h1 h2 => by
          rw [put3_far (by omega)]
          exact hg.block b h2 (fun e => by injection e with e; omega)
        have hfs : ∀ (x0 x1 x2 : Value), w8.heap.size ≤ (put3 wr (K0 + 1) x0 x1 x2).heap.size := fun x0 x1 x2 => by rw [put3_size]; exact hg.size
        have HE : Hid (MsgEnd k S w (.returned (.tuple #[.int .i64 (m : Int), .agg #[.slice U1 u.bytes.length g1, .slice V1 v.bytes.length i1, .slice Z1 z.bytes.length l1], .bool true])) (put3 wr (K0 + 1) (.slice U1 u.bytes.length g1) (.slice V1 v.bytes.length i1) (.slice Z1 z.bytes.length l1))) :=
          ⟨below_put3 hbw (by omega), .inl ⟨m, u.bytes, v.bytes, z.bytes, U1, V1, Z1, g1, i1, l1, HPUT.out, rfl, HARG.out.1 _ (hfar _ _ _) (hfs _ _ _), HARG.out.2.1 _ (hfar _ _ _) (hfs _ _ _), HARG.out.2.2 _ (hfar _ _ _) (hfs _ _ _)⟩⟩
        have HZ := Lib.hid (Lies.put3 (a := .slice U1 u.bytes.length g1) (b := .slice V1 v.bytes.length i1) (c := .slice Z1 z.bytes.length l1) hRw)
        obtain ⟨⟨z0, z1, z2⟩, _⟩ := hLP.three
        obtain ⟨⟨y0, y1, y2⟩, f0, f1, f2⟩ := hRw.three
        clear hg hL hLP hRw hbw hfar hfs s0 s1 s2 t0 t1 t2 q0 q1 q2 hj
        go_upto_region 14 with (fail)
        go_region_law (fail)
        all_goals
          go_wp2
          refine bodyPost_ret (v := .tuple #[.int .i64 (m : Int), .agg #[.slice U1 u.bytes.length g1, .slice V1 v.bytes.length i1, .slice Z1 z.bytes.length l1], .bool true]) ?_ rfl ?_
          · have hz := HZ.out
            unfold put3 at hz
            generalize World.setCell (World.setCell (World.setCell wr _ _) _ _) _ _ = w9 at hz ⊢
            obtain ⟨⟨x0, x1, x2⟩, _⟩ := hz.three
            simp [results, Try.results25, go_sem, x0, x1, x2]
          · exact MsgEnd.drew HE.out
      have hj3 : j = 0 ∨ j = 1 ∨ j = 2 := by omega
      clear hj h3
      have HG := Lib.hid hg
      have HLL := Lib.hid hL
      clear hg hL
      rcases hj3 with rfl | rfl | rfl
      · have c0 := HLL.out.cell 0
        have f0 := HLL.out.free 0
        have HREL := Lib.hid (LRel.next0 (o := .cells #[.int .u8 (u.tag : Int), .slice U1 u.bytes.length g1, .slice U2 u.list.length g2] 60) HG.out HLL.out)
        go_wp2
        go_roundw
        case rel => exact HREL.out
        case measure => simp [intOf]
      · have c1 := HLL.out.cell 1
        have f1 := HLL.out.free 1
        have HREL := Lib.hid (LRel.next1 (o := .cells #[.int .u8 (v.tag : Int), .slice V1 v.bytes.length i1, .slice V2 v.list.length i2] 60) HG.out HLL.out)
        go_wp2
        go_roundw
        case rel => exact HREL.out
        case measure => simp [intOf]
      · have c2 := HLL.out.cell 2
        have f2 := HLL.out.free 2
        have HREL := Lib.hid (LRel.next2 (o := .cells #[.int .u8 (z.tag : Int), .slice Z1 z.bytes.length l1, .slice Z2 z.list.length l2] 60) HG.out HLL.out)
        go_wp2
        go_roundw
        case rel => exact HREL.out
        case measure => simp [intOf]
end Go.Proofs.Ytkjofadabaecfaa
