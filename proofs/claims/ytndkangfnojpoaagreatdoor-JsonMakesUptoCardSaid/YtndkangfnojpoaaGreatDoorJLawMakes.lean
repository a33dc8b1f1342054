/-
  The law JsonMakes.
-/
import Derived.Test.YtndkangfnojpoaaGreatDoorJMakers
import Derived.Test.YtndkangfnojpoaaGreatDoorJOnto
import Derived.Test.YtndkangfnojpoaaGreatDoorQJ
import Derived.Test.YtndkangfnojpoaaGreatDoorQK
import Derived.Test.YtndkangfnojpoaaGreatDoorJLawInts
namespace Go.Proofs.YtndkangfnojpoaaGreatDoor
open Go.RowKit

def intsJ (k : Nat) : List Jq.J := (List.range k).map fun i : Nat => Jq.intJ (i : Int)
theorem intsJ_succ (k : Nat) : intsJ (k + 1) = intsJ k ++ [Jq.intJ (k : Int)] := by
  unfold intsJ; rw [List.range_succ, List.map_append]; rfl
theorem intsJ_len (k : Nat) : (intsJ k).length = k := by simp [intsJ]

set_option maxHeartbeats 8000000 in
set_option maxRecDepth 100000 in
theorem lawMakes_any (s : ByteArray) (q : Int) (ns : List (List Nat)) (v : Value) (w : World) (hs : s.size ≤ 1048576) (h0 : -9223372036854775808 ≤ q ∧ q ≤ 9223372036854775807) (hH : Held w)
    (hS : SlIs w (fun _ => True) v ns.length (tcells ns)) (hns : ∀ p ∈ ns, p.length ≤ 1048576 ∧ ∀ y ∈ p, y < 256) (hnl : ns.length ≤ 1048576) :
    Calls Tryz.prog 7 #[.string s, .int .i64 q, v] w (IsTrue w) := by
  obtain ⟨A9, c9, rfl⟩ := hS.form
  have hns2 : ∀ p ∈ ns, p.length ≤ 140737488355328 ∧ ∀ y ∈ p, y < 256 := fun p hp => ⟨by have := (hns p hp).1; omega, (hns p hp).2⟩
  obtain ⟨N, eN⟩ : ∃ N, ns.length = N := ⟨_, rfl⟩
  have HN := Lib.hid eN
  rw [eN] at hS hnl
  rw [eN]
  have HS := Lib.hid hS
  have HNS := Lib.hid hns2
  have HH := Lib.hid hH
  have HTX : Hid (∀ (w' : World) (ok : Nat → Prop), IsJ w' ok (jv 3 false 0 s nilS nilS) (.mk 3 false 0 (numsOf s) [] [])) := fun w' ok => by
    have := isJ_plain w' ok (k := 3) (n := 0) (b := false) (t := numsOf s) (by omega) (by omega) ⟨by rw [numsOf_length]; omega, numsOf_lt s⟩
    rwa [strOf_numsOf] at this
  have HIN : Hid (∀ (w' : World) (ok : Nat → Prop), IsJ w' ok (jv 2 false q ByteArray.empty nilS nilS) (Jq.intJ q)) := fun w' ok => isJ_int w' ok h0.1 h0.2
  clear eN hS hns hns2 hH hs h0
  go_enter Tryz.func7, Tryz.ntmps7
  go_wp2_with fail
  go_loopw [7, 14] (fun lv i wr => ∃ k : Nat, i = .int .i64 k ∧ k ≤ N ∧ RowJ w.heap.size k (intsJ k) lv wr ∧ Below w.heap.size w wr) (fun _ i _ => N - (intOf i).toNat)
  case atStart => exact ⟨0, rfl, Nat.zero_le _, RowJ.nil (Nat.le_refl _), Below.refl _ _⟩
  case round =>
    obtain ⟨k, rfl, hkN, hrow, hb⟩ := hrel
    by_cases hlt : k < N
    · obtain ⟨r1, r2, vs, r3, r4, r5⟩ := hrow
      obtain ⟨i0, hi, hz0, hz1, hz2⟩ := info_parts infoJson
      repeat ((fail_if_success (with_reducible show wpList _ _ _ (⟨some 21, _, _, _, _, _⟩ :: _) _ _)); first | go_values | go_skip | go_guarded | go_step | go_upon | go_back | go_simp)
      with_reducible refine wpList_append_own_at _ rfl (.tmp 17) (.tmp 20) 23 rfl w.heap.size 25 i0 (jv 0 false 0 ByteArray.empty nilS nilS) 6 88 Tryz.underlying23 hi hz0 hz1 hz2 rfl (by decide) u7 k (vs.flatMap jcells) ?s1 (r4.alloc _) ⟨wr.heap.size, 0, none⟩ 1 1 (jcells (jv 2 false k ByteArray.empty nilS nilS)) ?s2 rfl ?s3 (jv_ones _ _ _ _ _ _ _ _ _ _) ?s4 ?s5 ?s6 ?_
      case s1 => rfl
      case s2 => rfl
      case s3 => exact fun j u hj => new_cells wr _ _ j u hj
      case s4 => unfold maxLen; omega
      case s5 => omega
      case s6 => exact Nat.le_trans r1 (by simp)
      intro lv5 w5 hown5 hgr5 _ hat5
      have hbz := (Below.refl wr.heap.size wr).alloc (Nat.le_refl _) (.cells #[.int .i64 2, .bool false, .int .i64 k, .string ByteArray.empty, nilS, nilS] 25)
      have HR5 := Lib.hid (rowJ_more (Nat.le_trans r1 hbz.size) r2 r3 (fun i v x e1 e2 => (r5 i v x e1 e2).on hbz) (isJ_int _ _ (n := (k : Int)) (by omega) (by omega)) r1 (fun k e => (r4.lt k e).2) hown5 hgr5 hat5)
      have HB5 := Lib.hid ((hb.trans (hbz.mono r1)).grown hgr5 (by have := (hb.trans (hbz.mono r1)).size; omega) (fun k e => (r4.lt k e).1))
      clear hown5 hgr5 hat5 hbz r1 r2 r3 r4 r5 hb hi hz0 hz1 hz2
      go_frame
      go_wp2
      go_roundw
      case rel => exact ⟨k + 1, by go_num, hlt, by rw [intsJ_succ]; exact HR5.out, HB5.out⟩
      case measure => simp [intOf]; omega
    · obtain rfl : k = N := by omega
      have hd2 : decide ((k : Int) < (k : Int)) = false := by simp
      obtain ⟨A5, c5, rfl⟩ : ∃ A c, u7 = .slice A k c := by
        obtain ⟨_, _, _, _, ho, _⟩ := hrow
        exact own_slice ho
      have hlist : ListIs wr (fun _ => True) (.slice A5 k c5) (intsJ k) := (hrow.list (C := 0) (Nat.zero_le _) (by omega)).keep (fun _ _ _ => ⟨trivial, rfl⟩) (Nat.le_refl _)
      have hC := object_any (.slice A9 k c9) (.slice A5 k c5) ns (intsJ k) wr (by rw [HN.out]; exact HS.out.on hb) HNS.out (by rw [HN.out]; omega) hlist
      have HR := Lib.hid hrow
      have HB := Lib.hid hb
      clear hrow hb hlist
      go_wp2_with fail
      refine hC.mono ?_
      rintro e w1 ⟨u, rfl, hJ, hb1⟩
      clear hC
      obtain ⟨E1, g1, E2, g2, rfl⟩ := hJ.form
      have HR1 := Lib.hid (HR.out.on hb1)
      have HB1 := Lib.hid (below_more HB.out hb1)
      have HJ1 := Lib.hid hJ
      have HSZ := Lib.hid hb1.size
      clear hJ hb1
      repeat ((fail_if_success (with_reducible show wpList _ _ _ (⟨some 28, _, _, _, _, _⟩ :: _) _ _)); first | go_values | go_skip | go_guarded | go_step | go_upon | go_back | go_simp)
      obtain ⟨i1, hi1, hy0, hy1, hy2⟩ := info_parts infoText
      obtain ⟨q1, q2, vs, q3, q4, q5⟩ := HR1.out
      obtain ⟨X, eX⟩ : ∃ X, X = Jq.objJ ns (intsJ k) := ⟨_, rfl⟩
      rw [← eX] at HJ1
      rw [← eX]
      have HX := Lib.hid eX
      clear eX
      have hB1 : w.heap.size ≤ w1.heap.size := HB1.out.size
      have hb2 := (Below.refl w1.heap.size w1).alloc (Nat.le_refl _) (.cells #[.int .i64 X.kind, .bool X.bool, .int .i64 X.int, .string (strOf X.text), .slice E1 X.names.length g1, .slice E2 X.list.length g2] 25)
      have hb3 := hb2.alloc (by simp) (.cells #[] 9)
      have hb23 := (Below.refl _ (w1.alloc (.cells #[.int .i64 X.kind, .bool X.bool, .int .i64 X.int, .string (strOf X.text), .slice E1 X.names.length g1, .slice E2 X.list.length g2] 25))).alloc (Nat.le_refl _) (.cells #[] 9)
      have hl2 : Lies (w1.alloc (.cells #[.int .i64 X.kind, .bool X.bool, .int .i64 X.int, .string (strOf X.text), .slice E1 X.names.length g1, .slice E2 X.list.length g2] 25)) w1.heap.size 25 [.int .i64 X.kind, .bool X.bool, .int .i64 X.int, .string (strOf X.text), .slice E1 X.names.length g1, .slice E2 X.list.length g2] := Lies.new_ rfl
      have hl3 := hl2.below hb23 hl2.lt
      have how : ((w1.alloc (.cells #[.int .i64 X.kind, .bool X.bool, .int .i64 X.int, .string (strOf X.text), .slice E1 X.names.length g1, .slice E2 X.list.length g2] 25)).alloc (.cells #[] 9)).ownsRow (w1.heap.size + 1) 9 1 (.slice (some ⟨w1.heap.size + 1, 0, none⟩) 0 0) 0 [] := by
        have := World.ownsRow_made (base := w1.heap.size + 1) (e := 9) (size := 1) (w1.alloc (.cells #[.int .i64 X.kind, .bool X.bool, .int .i64 X.int, .string (strOf X.text), .slice E1 X.names.length g1, .slice E2 X.list.length g2] 25)) #[] 0 (by simp) (Nat.zero_le _) rfl
        simpa using this
      have hSt := HS.out.on ((HB1.out).trans (hb3.mono hB1))
      have hW2 : w1.heap.size + 2 ≤ ((w1.alloc (.cells #[.int .i64 X.kind, .bool X.bool, .int .i64 X.int, .string (strOf X.text), .slice E1 X.names.length g1, .slice E2 X.list.length g2] 25)).alloc (.cells #[] 9)).heap.size := by simp
      generalize ((w1.alloc (.cells #[.int .i64 X.kind, .bool X.bool, .int .i64 X.int, .string (strOf X.text), .slice E1 X.names.length g1, .slice E2 X.list.length g2] 25)).alloc (.cells #[] 9)) = W2 at *
      with_reducible refine append_rows rfl (.tmp 26) (.tmp 27) 22 rfl (base := w1.heap.size + 1) (n := k) (size := 1) (bytes := 16) (h := w1.heap.size + 1) (A := A9) (c := c9) (cs := tcells ns) 9 i1 (.string ByteArray.empty) Tryz.underlying22 hi1 hy0 hy1 hy2 rfl (by decide) ?s1 ?s2 how hSt (by rw [tcells_length, HN.out, Nat.mul_one]) (tcells_ones ns) (by omega) (by unfold maxLen; omega) (by omega) ?_
      case s1 => rfl
      case s2 => rfl
      intro v3 w3 hown3 hgr3 hat3
      obtain ⟨A3, c3, rfl⟩ := own_slice hown3
      have hsz3 := hgr3.size
      have hb4 : Below w1.heap.size w1 w3 := hb3.grown hgr3 (by omega) (fun k e => by injection e with e; omega)
      have hl4 := hl3.grown hgr3 (by intro e; injection e with e; omega)
      have hb5 := hb4.alloc hb4.size (.cells #[] 25)
      have hl5 := hl4.below ((Below.refl _ _).alloc (Nat.le_refl _) (.cells #[] 25)) hl4.lt
      have hlt3 : ∀ b, (Value.slice A3 k c3).ownBlock = some b → b < w3.heap.size := fun b e => (hown3.lt b e).2
      have hown4 := hown3.alloc (.cells #[] 25)
      have how4 : (w3.alloc (.cells #[] 25)).ownsRow w3.heap.size 25 6 (.slice (some ⟨w3.heap.size, 0, none⟩) 0 0) 0 [] := World.ownsRow_made (base := w3.heap.size) (e := 25) (size := 6) w3 #[] 0 (Nat.le_refl _) (Nat.zero_le _) rfl
      have hSL := (own_slIs q4).on hb5
      obtain ⟨i0, hi, hz0, hz1, hz2⟩ := info_parts infoJson
      have hvl : (vs.flatMap jcells).length = k * 6 := q4.1
      have hv1 := row_ones (q3.trans q2.symm) q5
      have HQ4 := Lib.hid q4
      have HL5 := Lib.hid hl5
      have HO4 := Lib.hid hown4
      have HB5 := Lib.hid hb5
      have hsz4 : (w3.alloc (.cells #[] 25)).heap.size = w3.heap.size + 1 := by simp
      clear hown3 hgr3 hat3 hb3 hl3 how hSt hb4 hl4 hl5 hown4 hb5 q4 hi1 hy0 hy1 hy2 hb2 hb23 hl2
      repeat ((fail_if_success (with_reducible show wpList _ _ _ (⟨some 31, _, _, _, _, _⟩ :: _) _ _)); first | go_values | go_skip | go_guarded | go_step | go_upon | go_back | go_simp)
      generalize w3.alloc (.cells #[] 25) = W4 at *
      with_reducible refine append_rows rfl (.tmp 29) (.tmp 30) 23 rfl (base := w3.heap.size) (n := k) (size := 6) (bytes := 88) (h := w3.heap.size) (A := A5) (c := c5) (cs := vs.flatMap jcells) 25 i0 (jv 0 false 0 ByteArray.empty nilS nilS) Tryz.underlying23 hi hz0 hz1 hz2 rfl (by decide) ?s1 ?s2 how4 hSL hvl hv1 (by omega) (by unfold maxLen; omega) (by omega) ?_
      case s1 => rfl
      case s2 => rfl
      intro v5 w5 hown5 hgr5 hat5
      obtain ⟨A6, c6, rfl⟩ := own_slice hown5
      have hsz5 := hgr5.size
      have hb6 : Below w1.heap.size w1 w5 := HB5.out.grown hgr5 (by omega) (fun k e => by injection e with e; omega)
      have hl6 := HL5.out.grown hgr5 (by intro e; injection e with e; omega)
      have hown6 := HO4.out.kept hgr5 (.inr (fun e => by have := hlt3 _ e; omega))
      have hC := refObject_any A3 A6 k k c3 c6 w5
      have HOB : Hid (∀ b, (Value.slice A5 k c5).ownBlock = some b → b < wr.heap.size) := by
        obtain ⟨_, _, _, _, ho, _⟩ := HR.out
        exact fun b e => (ho.lt b e).2
      have HJ6 : Hid (IsJ w5 (fun b => (Value.slice A5 k c5).ownBlock ≠ some b) (jv X.kind X.bool X.int (strOf X.text) (.slice E1 X.names.length g1) (.slice E2 X.list.length g2)) X) :=
        HJ1.out.keep (fun b hb' hlt' => ⟨fun e => by have := HOB.out b e; have hb' : wr.heap.size ≤ b := hb'; omega, hb6.block b hlt'⟩) hb6.size
      have HWANT : Hid (IsJ w5 (fun b => (Value.slice A5 k c5).ownBlock ≠ some b) (jv 5 false 0 ByteArray.empty (.slice A3 k c3) (.slice A6 k c6)) X) := by
        have hz := HSZ.out
        have e1 : SlIs w5 (fun b => (Value.slice A5 k c5).ownBlock ≠ some b) (.slice A3 k c3) ns.length (tcells ns) := by
          rw [HN.out]
          exact (own_slIs hown6).keep (fun b hb' _ => ⟨fun e => by have := HOB.out b e; have hb' : w1.heap.size + 1 ≤ b := hb'; omega, rfl⟩) (Nat.le_refl _)
        have e2 : ListIs w5 (fun b => (Value.slice A5 k c5).ownBlock ≠ some b) (.slice A6 k c6) (intsJ k) := by
          refine ⟨vs, ?_, by rw [intsJ_len]; exact q3, by rw [intsJ_len]; omega, fun i v x h1 h2 => (q5 i v x h1 h2).keep (fun b hb' hlt' => ⟨hb'.2, hb6.block b hlt'⟩) hb6.size⟩
          rw [intsJ_len]
          exact (own_slIs hown5).keep (fun b hb' _ => ⟨fun e => by have := HOB.out b e; have hb' : w3.heap.size ≤ b := hb'; omega, rfl⟩) (Nat.le_refl _)
        unfold Hid
        rw [HX.out]
        exact isJ_obj e1 HNS.out (by rw [HN.out]; omega) e2
      have HL6 := Lib.hid hl6
      have HB6 := Lib.hid hb6
      have HO6 := Lib.hid (own_below HQ4.out hb6)
      clear hl6 hb6 hown5 hown6 hgr5 hat5 HO4 HL5 HB5 HQ4 how4 hSL hv1 hvl q5 hi hz0 hz1 hz2
      go_wp2_with fail
      refine hC.mono ?_
      rintro e w6 ⟨rfl, hb7⟩
      clear hC
      have hb8 : Below w5.heap.size w5 (w6.alloc (.cells #[.int .i64 5, .bool false, .int .i64 0, .string ByteArray.empty, .slice A3 k c3, .slice A6 k c6] 25)) := below_alloc hb7 _
      have hl8 : Lies (w6.alloc (.cells #[.int .i64 5, .bool false, .int .i64 0, .string ByteArray.empty, .slice A3 k c3, .slice A6 k c6] 25)) w6.heap.size 25 [.int .i64 5, .bool false, .int .i64 0, .string ByteArray.empty, .slice A3 k c3, .slice A6 k c6] := Lies.new_ rfl
      have HL8 := Lib.hid hl8
      have HL9 := Lib.hid (HL6.out.below hb8 HL6.out.lt)
      have HO8 := Lib.hid (own_below HO6.out hb8)
      have HJ8 := Lib.hid (HJ6.out.on hb8)
      have HW8 := Lib.hid (HWANT.out.on hb8)
      have HB8 := Lib.hid (HB1.out.trans ((HB6.out.trans (hb8.mono HB6.out.size)).mono hB1))
      have hz58 := hb7.size
      have hz15 := HB6.out.size
      have hz11 := HSZ.out
      clear hl8 hb8 hb7 HL6 HO6 HJ6 HWANT HB6
      go_wp2_with fail
      generalize w6.alloc (.cells #[.int .i64 5, .bool false, .int .i64 0, .string ByteArray.empty, .slice A3 k c3, .slice A6 k c6] 25) = W0 at *
      go_loopw [35] (fun i wr2 => ∃ j : Nat, i = .int .i64 j ∧ j ≤ k ∧ (∃ cs, wr2.ownsRow w.heap.size 25 6 (.slice A5 k c5) k cs) ∧ W0.grownBy wr2 (Value.slice A5 k c5).ownBlock) (fun i _ => k - (intOf i).toNat)
      case atStart => exact ⟨0, rfl, Nat.zero_le _, ⟨_, HO8.out⟩, World.grownBy.refl _ _⟩
      case round =>
        obtain ⟨j, rfl, hjk, ⟨cs, hown⟩, hgr⟩ := hrel
        by_cases hlt2 : j < k
        · obtain ⟨g, cap, hg⟩ : ∃ g cap, Value.slice A5 k c5 = .slice (some ⟨g, 0, none⟩) k cap := by
            rcases hown.2 with ⟨h, _⟩ | ⟨g, cap, _, hv, _⟩
            · exfalso; injection h with _ h _; omega
            · exact ⟨g, cap, hv⟩
          injection hg with hg1 hg2 hg3
          subst hg1 hg3
          obtain ⟨u, hc⟩ : ∃ u, wr.cell? ⟨g, j * 6 + 2, none⟩ = some u := ⟨cs[j * 6 + 2]'(by rw [hown.1]; omega), (hown.cellAt (j * 6 + 2) (by omega)).trans (List.getElem?_eq_getElem _)⟩
          have hf := hown.frozenAt (j * 6 + 2)
          obtain ⟨hst1, hst2⟩ := hown.stored (j * 6 + 2) (.int .i64 7)
          have HN1 : Hid (∃ cs, (wr.setCell ⟨g, j * 6 + 2, none⟩ (.int .i64 7)).ownsRow w.heap.size 25 6 (.slice (some ⟨g, 0, none⟩) k c5) k cs) := ⟨_, hst1⟩
          have HN2 : Hid (W0.grownBy (wr.setCell ⟨g, j * 6 + 2, none⟩ (.int .i64 7)) (Value.slice (some ⟨g, 0, none⟩) k c5).ownBlock) := hgr.trans hst2
          clear hown hgr hst1 hst2
          go_wp2
          go_roundw
          case rel => exact ⟨j + 1, by go_num, hlt2, HN1.out, HN2.out⟩
          case measure => simp [intOf]; omega
        · obtain rfl : j = k := by omega
          have hd3 : decide ((j : Int) < (j : Int)) = false := by simp
          have hb9 : Below w.heap.size w wr := HB8.out.grown hgr HB8.out.size (fun b e => (HO8.out.lt b e).1)
          have HJ9 : Hid (IsJ wr (fun _ => True) (jv X.kind X.bool X.int (strOf X.text) (.slice E1 X.names.length g1) (.slice E2 X.list.length g2)) X) := HJ8.out.keep (fun b hb' hlt' => ⟨trivial, hgr.block b hlt' (fun e => hb' e.symm)⟩) hgr.size
          have HW9 : Hid (IsJ wr (fun _ => True) (jv 5 false 0 ByteArray.empty (.slice A3 j c3) (.slice A6 j c6)) X) := HW8.out.keep (fun b hb' hlt' => ⟨trivial, hgr.block b hlt' (fun e => hb' e.symm)⟩) hgr.size
          have HLA := Lib.hid (HL9.out.grown hgr (by intro e; have := HOB.out _ e.symm; omega))
          have HLB := Lib.hid (HL8.out.grown hgr (by intro e; have := HOB.out _ e.symm; omega))
          clear hown hgr HL8 HL9 HJ8 HW8
          have hC := alive_any wr (HH.out.below hb9)
          go_wp2_with fail
          refine hC.mono ?_
          rintro e w10 ⟨rfl, hba⟩
          have hd10 := hba
          clear hC hba
          have hC := textMade_any s w10
          go_wp2_with fail
          refine hC.mono ?_
          rintro e w11 ⟨rfl, hba⟩
          have hd11 := below_more hd10 hba
          clear hC hba
          have hC := refText_any s w11
          go_wp2_with fail
          refine hC.mono ?_
          rintro e w12 ⟨rfl, hba⟩
          have hd12 := below_more hd11 hba
          clear hC hba
          have hC := refSame_any _ _ _ _ w12 (HTX.out w12 (fun _ => True)) (HTX.out w12 (fun _ => True))
          go_wp2_with fail
          refine hC.mono ?_
          intro e w13 hh
          obtain ⟨r, rfl, hr, hba⟩ := hh.as
          obtain rfl : r = true := hr.2 (by simp)
          have hd13 := below_more hd12 hba
          clear hC hba hh hr
          have hC := intMade_any q w13
          go_wp2_with fail
          refine hC.mono ?_
          rintro e w14 ⟨rfl, hba⟩
          have hd14 := below_more hd13 hba
          clear hC hba
          have hC := refInt_any q w14
          go_wp2_with fail
          refine hC.mono ?_
          rintro e w15 ⟨rfl, hba⟩
          have hd15 := below_more hd14 hba
          clear hC hba
          have hC := refSame_any _ _ _ _ w15 (HIN.out w15 (fun _ => True)) (HIN.out w15 (fun _ => True))
          go_wp2_with fail
          refine hC.mono ?_
          intro e w16 hh
          obtain ⟨r, rfl, hr, hba⟩ := hh.as
          obtain rfl : r = true := hr.2 (by simp)
          have hd16 := below_more hd15 hba
          clear hC hba hh hr
          obtain ⟨⟨z0, z1, z2, z3, z4, z5⟩, _⟩ := (HLA.out.below hd16 HLA.out.lt).six
          obtain ⟨⟨y0, y1, y2, y3, y4, y5⟩, _⟩ := (HLB.out.below hd16 HLB.out.lt).six
          have hC := refSame_any X X _ _ w16 (HJ9.out.on hd16) (HW9.out.on hd16)
          go_wp2_with fail
          refine hC.mono ?_
          intro e w17 hh
          obtain ⟨r, rfl, hr, hba⟩ := hh.as
          obtain rfl : r = true := hr.2 (by simp)
          have HE : Hid (IsTrue w (.returned (.bool true)) w17) := ⟨rfl, below_more hb9 (below_more hd16 hba)⟩
          clear hC hba hh hr hb9 hd10 hd11 hd12 hd13 hd14 hd15 hd16 z0 z1 z2 z3 z4 z5 y0 y1 y2 y3 y4 y5
          go_wp2
          go_ret
          exact HE.out
end Go.Proofs.YtndkangfnojpoaaGreatDoor
