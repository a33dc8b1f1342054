/-
  The contract of digest.mix: what the words become by a group.
-/
import Derived.Test.YtkfhfokeoieajaaDoorSpread
import Derived.Deep.DeepCutAuto
import Derived.Deep.Cut
namespace Go.Proofs.YtkfhfokeoieajaaDoor
open Go.RowKit
open Sha (rotr)

/-- The table of the round words lies in its variable. -/
def Tab (w : World) : Prop := ∀ t, t < 64 → w.cell? ⟨0, t, none⟩ = some (.int .u32 ((Sha.kAt t).toNat : Int))
theorem Tab.below {B : Nat} {w w' : World} (h : Tab w) (hb : Below B w w') (hB : 0 < B) : Tab w' := fun t ht => (hb.cell (p := ⟨0, t, none⟩) hB).trans (h t ht)
theorem Tab.lt {w : World} (h : Tab w) : 0 < w.heap.size := block_lt_of_cell (h 0 (by decide))

theorem info47 : (Tryd.prog.info? 47).map (·.size) = some 8 := by kernel_rfl
theorem u32s_at (l : List Sha.W) {j : Nat} (hj : j < l.length) : (u32s l)[j]? = some (.int .u32 ((l.getD j 0).toNat : Int)) := by
  unfold u32s
  rw [List.getElem?_map, List.getD_eq_getElem?_getD, List.getElem?_eq_getElem hj]; rfl

set_option maxHeartbeats 400000 in
set_option maxRecDepth 100000 in
theorem mix_any (s : Sha.St) (b off n c : Nat) (p : List Nat) (w : World) (hT : Tab w) (hn : 64 ≤ n) (hnc : n ≤ c) (hcm : c ≤ 9223372036854775807) (hp : p.length = 64) (hbw : b < w.heap.size)
    (hc : BytesAt w b off p) :
    Calls Tryd.prog 26 #[.agg #[.int .u32 s.a.toNat, .int .u32 s.b.toNat, .int .u32 s.c.toNat, .int .u32 s.d.toNat, .int .u32 s.e.toNat, .int .u32 s.f.toNat, .int .u32 s.g.toNat, .int .u32 s.h.toNat], .slice (some ⟨b, off, none⟩) n c] w
      fun e w' => e = .returned (.agg (u32s (Sha.mix s p).list).toArray) ∧ Below w.heap.size w w' := by
  have Hp := Lib.hid hp
  clear hp
  obtain ⟨sa, sb, sc, sd, se, sf, sg, sh⟩ := s
  simp only
  go_enter Tryd.func26, Tryd.ntmps26
  go_wp2_with fail
  refine (spread_any b off n c p _ hn hnc hcm Hp.out (by simp; omega) ((hc.alloc hbw _).alloc (by simp; omega) _)).mono ?_
  rintro e w1 ⟨rfl, hb1⟩
  obtain ⟨ws, hws⟩ : ∃ ws, Sha.sched p 48 = ws := ⟨_, rfl⟩
  have Hl : Hid (ws.length = 64) := by rw [← hws, Sha.sched_length]; exact rfl
  rw [hws]
  have Hws := Lib.hid hws
  clear hws
  have hs1 : (u32s ws).toArray.size = 64 := by simp [u32s]; exact Hl.out
  have ho1 := u32s_one ws
  have hB : w.heap.size + 2 ≤ w1.heap.size := by have := hb1.size; simp at this; omega
  have hT1 : Tab w1 := Tab.below (Tab.below hT (((Below.refl _ _).alloc (Nat.le_refl _) _).alloc (by simp) _) hT.lt) hb1 (Nat.lt_of_lt_of_le hT.lt (by simp <;> omega))
  have hX : Lies w1 w.heap.size 47 (u32s [sa, sb, sc, sd, se, sf, sg, sh]) :=
    ((Lies.made w _ (u32s [sa, sb, sc, sd, se, sf, sg, sh])).alloc _).below hb1 (by simp <;> omega)
  have hY : Lies w1 (w.heap.size + 1) 47 (z32 8) := (Lies.new_ (cs := z32 8) (by simp)).below hb1 (by simp <;> omega)
  have hbel : Below w.heap.size w w1 := (((Below.refl _ _).alloc (Nat.le_refl _) _).alloc (by simp) _).trans (hb1.mono (by simp <;> omega))
  clear hb1
  go_wp2_with (refine wpList_store_row rfl 60 (.tmp 5) (.tmp 18) rfl w1.heap.size (u32s (ws)).toArray rfl rfl 60 _ (heap_alloc_new w1 _) (by rw [hs1]; exact info60) (by rw [hs1]; rfl) ho1 ?_)
  clear hs1 ho1
  go_frame
  generalize hw2 : World.setRow _ _ _ = w2
  have hX2 : Lies w2 w.heap.size 47 (u32s [sa, sb, sc, sd, se, sf, sg, sh]) := by rw [← hw2]; exact (hX.alloc _).farRow (by omega)
  have hY2 : Lies w2 (w.heap.size + 1) 47 (z32 8) := by rw [← hw2]; exact (hY.alloc _).farRow (by omega)
  have hZ2 : Lies w2 w1.heap.size 60 (u32s (ws)) := by rw [← hw2]; exact Lies.row (cs := z32 64) (Lies.new_ rfl)
  have hT2 : Tab w2 := by rw [← hw2]; exact hT1.below (below_row ((Below.refl _ _).alloc (Nat.le_refl _) _) (Nat.le_refl _)) hT1.lt
  have hbel2 : Below w.heap.size w w2 := by rw [← hw2]; exact below_row (hbel.alloc (by omega) _) (by omega)
  clear hw2 hX hY hT1 hbel
  have c0 : w2.cell? ⟨w.heap.size, 0, none⟩ = some (.int .u32 (sa.toNat : Int)) := hX2.cell 0
  have c1 : w2.cell? ⟨w.heap.size, 1, none⟩ = some (.int .u32 (sb.toNat : Int)) := hX2.cell 1
  have c2 : w2.cell? ⟨w.heap.size, 2, none⟩ = some (.int .u32 (sc.toNat : Int)) := hX2.cell 2
  have c3 : w2.cell? ⟨w.heap.size, 3, none⟩ = some (.int .u32 (sd.toNat : Int)) := hX2.cell 3
  have c4 : w2.cell? ⟨w.heap.size, 4, none⟩ = some (.int .u32 (se.toNat : Int)) := hX2.cell 4
  have c5 : w2.cell? ⟨w.heap.size, 5, none⟩ = some (.int .u32 (sf.toNat : Int)) := hX2.cell 5
  have c6 : w2.cell? ⟨w.heap.size, 6, none⟩ = some (.int .u32 (sg.toNat : Int)) := hX2.cell 6
  have c7 : w2.cell? ⟨w.heap.size, 7, none⟩ = some (.int .u32 (sh.toNat : Int)) := hX2.cell 7
  go_quiet (fail)
  go_wp2_with fail
  go_quiet (fail)
  clear c0 c1 c2 c3 c4 c5 c6 c7
  go_wp2_with fail
  go_loopw [6, 7, 8, 9, 10, 11, 12, 13, 35] (fun va vb vc vd ve vf vg vh i wr => ∃ (t : Nat) (xa xb xc xd xe xf xg xh : Sha.W), t ≤ 64 ∧ i = .int .i64 t ∧ Sha.rounds ws ⟨sa, sb, sc, sd, se, sf, sg, sh⟩ t = ⟨xa, xb, xc, xd, xe, xf, xg, xh⟩ ∧
      va = .int .u32 (xa.toNat : Int) ∧ vb = .int .u32 (xb.toNat : Int) ∧ vc = .int .u32 (xc.toNat : Int) ∧ vd = .int .u32 (xd.toNat : Int) ∧
      ve = .int .u32 (xe.toNat : Int) ∧ vf = .int .u32 (xf.toNat : Int) ∧ vg = .int .u32 (xg.toNat : Int) ∧ vh = .int .u32 (xh.toNat : Int) ∧
      Lies wr w.heap.size 47 (u32s [sa, sb, sc, sd, se, sf, sg, sh]) ∧ Lies wr (w.heap.size + 1) 47 (z32 8) ∧ Lies wr w1.heap.size 60 (u32s (ws)) ∧ Tab wr ∧ Below w.heap.size w wr)
    (fun _ _ _ _ _ _ _ _ i _ => 64 - (intOf i).toNat)
  case atStart => exact ⟨0, sa, sb, sc, sd, se, sf, sg, sh, Nat.zero_le _, rfl, rfl, rfl, rfl, rfl, rfl, rfl, rfl, rfl, rfl, hX2, hY2, hZ2, hT2, below_drewN (below_drewN hbel2 _) _⟩
  case round =>
    clear hX2 hY2 hZ2 hT2 hbel2
    obtain ⟨t, xa, xb, xc, xd, xe, xf, xg, xh, h64, rfl, hq, rfl, rfl, rfl, rfl, rfl, rfl, rfl, rfl, hX, hY, hZ, hT, hbel⟩ := hrel
    have Hq := Lib.hid hq
    clear hq
    by_cases ht : t < 64
    · obtain ⟨kt, hkt⟩ : ∃ x, Sha.kAt t = x := ⟨_, rfl⟩
      obtain ⟨wt, hwt⟩ : ∃ x, (ws).getD t 0 = x := ⟨_, rfl⟩
      have ck : wr.cell? ⟨0, t, none⟩ = some (.int .u32 (kt.toNat : Int)) := by rw [hT t ht, hkt]
      have cw : wr.cell? ⟨w1.heap.size, t, none⟩ = some (.int .u32 (wt.toNat : Int)) := by rw [hZ.cell, u32s_at _ (by rw [Hl.out]; omega), hwt]
      have Hkt := Lib.hid hkt
      have Hwt := Lib.hid hwt
      clear hkt hwt
      have hd : decide ((t : Int) < 64) = true := by simp; omega
      go_wp2_with fail
      go_quiet ((go_at_call 32; exact Calls.quiet_of_same (rot_quiet _ _ (by omega) (by omega) _)))
      clear ck cw
      go_wp2_with (go_at_call 32; refine (rot_int _ _ (by omega) (by omega) _).mono ?_; rintro e w' ⟨rfl, rfl⟩)
      go_roundw
      case rel =>
        refine ⟨t + 1, Sha.stepV kt wt ⟨xa, xb, xc, xd, xe, xf, xg, xh⟩ + Sha.stepW ⟨xa, xb, xc, xd, xe, xf, xg, xh⟩, xa, xb, xc, xd + Sha.stepV kt wt ⟨xa, xb, xc, xd, xe, xf, xg, xh⟩, xe, xf, xg,
          by omega, by go_num, ?_, ?_, rfl, rfl, rfl, ?_, rfl, rfl, rfl, hX, hY, hZ, hT, below_drewN hbel _⟩
        · rw [Sha.rounds, Hq.out, Hkt.out, Hwt.out]; rfl
        · simp only [u32_xor, u32_and, not_of, add5_of, add2_of]; rfl
        · simp only [u32_xor, u32_and, not_of, add5_of, add2_of]; rfl
      case measure => simp [intOf]; omega
    · have H64 : Hid (t = 64) := by unfold Hid; omega
      have c0 : wr.cell? ⟨w.heap.size, 0, none⟩ = some (.int .u32 (sa.toNat : Int)) := hX.cell 0
      have c1 : wr.cell? ⟨w.heap.size, 1, none⟩ = some (.int .u32 (sb.toNat : Int)) := hX.cell 1
      have c2 : wr.cell? ⟨w.heap.size, 2, none⟩ = some (.int .u32 (sc.toNat : Int)) := hX.cell 2
      have c3 : wr.cell? ⟨w.heap.size, 3, none⟩ = some (.int .u32 (sd.toNat : Int)) := hX.cell 3
      have c4 : wr.cell? ⟨w.heap.size, 4, none⟩ = some (.int .u32 (se.toNat : Int)) := hX.cell 4
      have c5 : wr.cell? ⟨w.heap.size, 5, none⟩ = some (.int .u32 (sf.toNat : Int)) := hX.cell 5
      have c6 : wr.cell? ⟨w.heap.size, 6, none⟩ = some (.int .u32 (sg.toNat : Int)) := hX.cell 6
      have c7 : wr.cell? ⟨w.heap.size, 7, none⟩ = some (.int .u32 (sh.toNat : Int)) := hX.cell 7
      have hd : decide ((t : Int) < 64) = false := by simp; omega
      clear ht h64
      go_wp2_with (with_reducible refine store_lies rfl 47 (.tmp 4) (.tmp 130) rfl (w.heap.size + 1) [Value.int .u32 (((sa.toNat : Int) + (xa.toNat : Int)) % 4294967296), Value.int .u32 (((sb.toNat : Int) + (xb.toNat : Int)) % 4294967296), Value.int .u32 (((sc.toNat : Int) + (xc.toNat : Int)) % 4294967296), Value.int .u32 (((sd.toNat : Int) + (xd.toNat : Int)) % 4294967296), Value.int .u32 (((se.toNat : Int) + (xe.toNat : Int)) % 4294967296), Value.int .u32 (((sf.toNat : Int) + (xf.toNat : Int)) % 4294967296), Value.int .u32 (((sg.toNat : Int) + (xg.toNat : Int)) % 4294967296), Value.int .u32 (((sh.toNat : Int) + (xh.toNat : Int)) % 4294967296)] 47 _ hY ?hx ?hy ?hi ?hl ?h1 ?_)
      case hx => rfl
      case hy => rfl
      case hi => exact info47
      case hl => rfl
      case h1 => rfl
      simp only [add2_of]
      refine bodyPost_ret (results_cell_row Tryd.results26 _ _ (w.heap.size + 1) 47 (u32s (Sha.mix ⟨sa, sb, sc, sd, se, sf, sg, sh⟩ p).list).toArray (0, 0) _ rfl ?_ Tryd.underlying47 rfl info47) rfl ⟨rfl, ?_⟩
      · unfold Sha.mix
        rw [Hws.out, ← H64.out, Hq.out]
        exact hY.row (cs' := u32s [sa + xa, sb + xb, sc + xc, sd + xd, se + xe, sf + xf, sg + xg, sh + xh])
      · exact below_row hbel (by omega)
end Go.Proofs.YtkfhfokeoieajaaDoor
