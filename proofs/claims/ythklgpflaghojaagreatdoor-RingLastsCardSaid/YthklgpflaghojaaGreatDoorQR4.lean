/-
  QR4: Ref Group, side by side.
-/
import Derived.Test.YthklgpflaghojaaGreatDoorQR3
import Derived.StillTailTactics
import Derived.Deep.AppendLies
import Derived.Test.YthklgpflaghojaaGreatDoorQM
import Derived.Deep.RegionHeld3
import Derived.Lib.QuietBelow

/-
  The contracts of the document's own small functions: rot and K.
-/
namespace Go.Proofs.YthklgpflaghojaaGreatDoor
open Go.RowKit
open Sha (rotr)

theorem rotr_ref (x : BitVec 32) (n : Nat) :
    bits BinOp.or IntKind.u32 ((x.toNat : Int) / 2 ^ n) ((x.toNat : Int) * 2 ^ (32 - n) % 4294967296) = ((rotr x n).toNat : Int) := by
  have e1 := u32_shl x (32 - n)
  rw [IntKind.wrap_u32'] at e1
  rw [e1, u32_shr, u32_or]
  rfl

set_option maxRecDepth 100000 in
set_option maxHeartbeats 400000 in
theorem refRot_any (x : BitVec 32) (n : Nat) (h1 : n < 32) (w : World) :
    Calls Tryz.prog 109 #[.int .u32 x.toNat, .int .u64 n] w fun e w' => e = .returned (.int .u32 (rotr x n).toNat) ∧ w = w' := by
  go_enter Tryz.func109, Tryz.ntmps109
  go_wp2
  go_ret
  exact ⟨ret_int (rotr_ref x n), rfl⟩
theorem refRot_quiet (x : BitVec 32) (m : Int) (h0 : 0 ≤ m) (h1 : m < 32) (w : World) :
    Calls Tryz.prog 109 #[.int .u32 x.toNat, .int .u64 m] w fun e w' => e = .returned (.int .u32 (rotr x m.toNat).toNat) ∧ w' = w := by
  obtain ⟨n, rfl⟩ := Int.eq_ofNat_of_zero_le h0
  exact (refRot_any x n (by omega) w).mono fun _ _ ⟨he, hw⟩ => ⟨he, hw.symm⟩

set_option maxRecDepth 100000 in
theorem info38 : (Tryz.prog.info? 101).map (fun i => (i.zero, i.size, i.bytes)) = some (some (.int .u32 0), 1, 4) := by kernel_rfl
def KV : List Value := Sha.KL.map fun (n : Nat) => .int .u32 (n : Int)
theorem KV_at : ∀ t, t < 64 → KV[t]? = some (.int .u32 ((Sha.kAt t).toNat : Int)) := by
  intro t ht
  have h : ∀ t, t < 64 → (Sha.KL[t]?).map (fun (n : Nat) => (n : Int)) = some ((Sha.kAt t).toNat : Int) := by decide +kernel
  have := h t ht
  unfold KV
  rw [List.getElem?_map]
  cases e : Sha.KL[t]? with
  | none => rw [e] at this; cases this
  | some n => rw [e] at this; simp at this; simp [this]

set_option maxHeartbeats 400000 in
set_option maxRecDepth 100000 in
theorem refK_any (t : Nat) (ht : t < 64) (w : World) :
    Calls Tryz.prog 110 #[.int .i64 t] w fun e w' => e = .returned (.int .u32 (Sha.kAt t).toNat) ∧ Below w.heap.size w w' := by
  go_enter Tryz.func110, Tryz.ntmps110
  go_upto_region 2 with (fail)
  generalize hw2 : World.alloc _ _ = w2
  have h2 : Lies w2 w.heap.size 101 KV := by rw [← hw2]; exact Lies.made w 101 KV
  have hb : Below w.heap.size w w2 := by rw [← hw2]; exact (Below.refl _ _).alloc (Nat.le_refl _) _
  clear hw2
  have hc : w2.cell? ⟨w.heap.size, t, none⟩ = some (.int .u32 ((Sha.kAt t).toNat : Int)) := (h2.cell t).trans (KV_at t ht)
  go_wp2
  go_ret
  exact ⟨rfl, hb⟩
end Go.Proofs.YthklgpflaghojaaGreatDoor

/-
  The contract of the document's own group.
-/
namespace Go.Proofs.YthklgpflaghojaaGreatDoor
open Go.RowKit Go.Sort
open Sha (rotr)

theorem u32s_cell {w : World} {base : Nat} {v : Value} {l : List Sha.W} {n : Nat} (h : w.ownsRow base 101 1 v n (u32s l)) (hn : l.length = n) (h0 : 0 < n) :
    ∃ g cap, v = .slice (some ⟨g, 0, none⟩) n cap ∧ base ≤ g ∧ g < w.heap.size ∧ ∀ j, j < n → w.cell? ⟨g, j, none⟩ = some (.int .u32 ((l.getD j 0).toNat : Int)) := by
  rcases h.2 with ⟨_, _⟩ | ⟨g, cap, cur, rfl, hb, hh, hc, _, hs, ht⟩
  · omega
  · refine ⟨g, cap, rfl, hb, ?_, ?_⟩
    · rcases Nat.lt_or_ge g w.heap.size with hlt | hge
      · exact hlt
      · rw [Array.getElem?_eq_none hge] at hh; cases hh
    · intro j hj
      rw [cell_of_row w g j cur _ _ hh]
      have e : cur.toList[j]? = (u32s l)[j]? := by
        rw [← ht, List.getElem?_take, if_pos (by omega)]
      rw [← Array.getElem?_toList, e, u32s_at l (by omega)]

theorem own_ne {w : World} {base : Nat} {e : TypeId} {size n b : Nat} {v : Value} {xs : List Value} (h : w.ownsRow base e size v n xs) (hb : b < base) : some b ≠ v.ownBlock := by
  rcases h.2 with ⟨rfl, _⟩ | ⟨g, cap, cur, rfl, hg, _⟩
  · simp [Value.ownBlock]
  · simp [Value.ownBlock]; omega
theorem rot_regrown {w : World} (x : BitVec 32) (m : Int) (h0 : 0 ≤ m) (h1 : m < 32) (d : Nat) (os : Array Obj) :
    Calls Tryz.prog 109 #[.int .u32 x.toNat, .int .u64 m] (grow (redrawn w d) os) fun e w'' => e = .returned (.int .u32 (rotr x m.toNat).toNat) ∧ ∃ p : Regrown, w'' = grow (redrawn w p.d) p.os :=
  (refRot_quiet x m h0 h1 _).mono fun _ _ ⟨he, hw⟩ => ⟨he, ⟨d, os⟩, hw⟩
theorem own_cells {w : World} {base g cap : Nat} {l : List Sha.W} {n : Nat} (h : w.ownsRow base 101 1 (.slice (some ⟨g, 0, none⟩) n cap) n (u32s l)) (hn : l.length = n) (h0 : 0 < n) :
    base ≤ g ∧ ∀ j, j < n → w.cell? ⟨g, j, none⟩ = some (.int .u32 ((l.getD j 0).toNat : Int)) := by
  obtain ⟨g', cap', e, hb, _, hc⟩ := u32s_cell h hn h0
  obtain rfl : g = g' := by simpa using congrArg (fun v => match v with | Value.slice (some a) _ _ => a.block | _ => 0) e
  exact ⟨hb, hc⟩
theorem own_mono {w : World} {base base' : Nat} {e : TypeId} {size n : Nat} {v : Value} {xs : List Value} (h : w.ownsRow base e size v n xs) (hb : base' ≤ base) : w.ownsRow base' e size v n xs := by
  refine ⟨h.1, ?_⟩
  rcases h.2 with h0 | ⟨g, cap, cur, rfl, hg, h1⟩
  · exact .inl h0
  · exact .inr ⟨g, cap, cur, rfl, Nat.le_trans hb hg, h1⟩
theorem add_take (s q : Sha.St) (k : Nat) (hk : k < 8) : (s.add q).list.take (k + 1) = (s.add q).list.take k ++ [s.list.getD k 0 + q.list.getD k 0] := by
  rw [List.take_succ_eq_append_getElem (show k < (s.add q).list.length from hk)]
  congr 2
  match k, hk with
  | 0, _ | 1, _ | 2, _ | 3, _ | 4, _ | 5, _ | 6, _ | 7, _ => rfl
theorem u32s_snoc (l : List Sha.W) (x : Sha.W) : u32s l ++ [.int .u32 (x.toNat : Int)] = u32s (l ++ [x]) := by simp [u32s]

set_option maxHeartbeats 4000000 in
set_option maxRecDepth 100000 in
theorem group_any (s : Sha.St) (bh ch b off n c : Nat) (p : List Nat) (w : World) (hn : 64 ≤ n) (hp : p.length = 64) (hbw : b < w.heap.size) (hbh : bh < w.heap.size)
    (hc : BytesAt w b off p) (hh : ∀ j x, (u32s s.list)[j]? = some x → w.cell? ⟨bh, j, none⟩ = some x) :
    Calls Tryz.prog 90 #[.slice (some ⟨bh, 0, none⟩) 8 ch, .slice (some ⟨b, off, none⟩) n c] w
      fun e w' => ∃ v, e = .returned v ∧ w'.ownsRow w.heap.size 101 1 v 8 (u32s (Sha.mix s p).list) ∧ Below w.heap.size w w' := by
  have Hp := Lib.hid hp
  have Hh := Lib.hid hh
  clear hp hh
  obtain ⟨i0, hi, hz0, hz1, hz2⟩ := info_parts info38
  go_enter Tryz.func90, Tryz.ntmps90
  go_wp2_with fail
  go_loopw [5, 6] (fun v i wr => ∃ k : Nat, k ≤ 16 ∧ i = .int .i64 k ∧ wr.ownsRow w.heap.size 101 1 v k (u32s (Sha.first p k)) ∧ Below w.heap.size w wr)
    (fun _ i _ => 16 - (intOf i).toNat)
  case atStart => exact ⟨0, Nat.zero_le _, rfl, World.ownsRow_nil _ _ _ _, Below.refl _ _⟩
  case round =>
    obtain ⟨k, hk, rfl, hown, hbel⟩ := hrel
    by_cases hlt : k < 16
    · have hd : decide ((k : Int) < 16) = true := by simp; omega
      have hcr := hc.below hbel hbw
      have g0 := hcr.get (j := 4 * k) (by rw [Hp.out]; omega)
      have g1 := hcr.get (j := 4 * k + 1) (by rw [Hp.out]; omega)
      have g2 := hcr.get (j := 4 * k + 2) (by rw [Hp.out]; omega)
      have g3 := hcr.get (j := 4 * k + 3) (by rw [Hp.out]; omega)
      have l0 := hcr.lt (4 * k)
      have l1 := hcr.lt (4 * k + 1)
      have l2 := hcr.lt (4 * k + 2)
      have l3 := hcr.lt (4 * k + 3)
      obtain ⟨x0, e0⟩ : ∃ x, p.getD (4 * k) 0 = x := ⟨_, rfl⟩
      obtain ⟨x1, e1⟩ : ∃ x, p.getD (4 * k + 1) 0 = x := ⟨_, rfl⟩
      obtain ⟨x2, e2⟩ : ∃ x, p.getD (4 * k + 2) 0 = x := ⟨_, rfl⟩
      obtain ⟨x3, e3⟩ : ∃ x, p.getD (4 * k + 3) 0 = x := ⟨_, rfl⟩
      rw [e0] at g0 l0
      rw [e1] at g1 l1
      rw [e2] at g2 l2
      rw [e3] at g3 l3
      have HW : Hid (Sha.wordAt p k = Sha.word x0 x1 x2 x3) := by unfold Hid Sha.wordAt; rw [e0, e1, e2, e3]
      clear e0 e1 e2 e3
      have m0 : IntKind.i64.wrap (4 * (k : Int)) = 4 * (k : Int) := IntWalk.i64_in _ (by omega)
      have m1 : IntKind.i64.wrap (4 * (k : Int) + 1) = 4 * (k : Int) + 1 := IntWalk.i64_in _ (by omega)
      have m2 : IntKind.i64.wrap (4 * (k : Int) + 2) = 4 * (k : Int) + 2 := IntWalk.i64_in _ (by omega)
      have m3 : IntKind.i64.wrap (4 * (k : Int) + 3) = 4 * (k : Int) + 3 := IntWalk.i64_in _ (by omega)
      have b0 : (0 : Int) ≤ 4 * (k : Int) := by omega
      have b01 : (0 : Int) ≤ 4 * (k : Int) + 1 := by omega
      have b02 : (0 : Int) ≤ 4 * (k : Int) + 2 := by omega
      have b03 : (0 : Int) ≤ 4 * (k : Int) + 3 := by omega
      have b1 : (4 * (k : Int)).toNat = 4 * k := by omega
      have b2 : (4 * (k : Int) + 1).toNat = 4 * k + 1 := by omega
      have b3 : (4 * (k : Int) + 2).toNat = 4 * k + 2 := by omega
      have b4 : (4 * (k : Int) + 3).toNat = 4 * k + 3 := by omega
      have b5 : 4 * (k : Int) < (n : Int) := by omega
      have b6 : 4 * (k : Int) + 1 < (n : Int) := by omega
      have b7 : 4 * (k : Int) + 2 < (n : Int) := by omega
      have b8 : 4 * (k : Int) + 3 < (n : Int) := by omega
      go_upto_region 5 with (fail)
      have y0 : IntKind.u32.wrap (x0 : Int) = x0 := by rw [IntKind.wrap_u32']; omega
      have y1 : IntKind.u32.wrap (x1 : Int) = x1 := by rw [IntKind.wrap_u32']; omega
      have y2 : IntKind.u32.wrap (x2 : Int) = x2 := by rw [IntKind.wrap_u32']; omega
      have y3 : IntKind.u32.wrap (x3 : Int) = x3 := by rw [IntKind.wrap_u32']; omega
      have y4 : IntKind.u32.wrap ((x0 : Int) * 16777216) = (x0 : Int) * 16777216 := by rw [IntKind.wrap_u32']; omega
      have y5 : IntKind.u32.wrap ((x1 : Int) * 65536) = (x1 : Int) * 65536 := by rw [IntKind.wrap_u32']; omega
      have y6 : IntKind.u32.wrap ((x2 : Int) * 256) = (x2 : Int) * 256 := by rw [IntKind.wrap_u32']; omega
      have y7 : IntKind.u32.wrap ((x0 : Int) * 16777216 + (x1 : Int) * 65536) = (x0 : Int) * 16777216 + (x1 : Int) * 65536 := by rw [IntKind.wrap_u32']; omega
      have y8 : IntKind.u32.wrap ((x0 : Int) * 16777216 + (x1 : Int) * 65536 + (x2 : Int) * 256) = (x0 : Int) * 16777216 + (x1 : Int) * 65536 + (x2 : Int) * 256 := by rw [IntKind.wrap_u32']; omega
      have y9 : IntKind.u32.wrap ((x0 : Int) * 16777216 + (x1 : Int) * 65536 + (x2 : Int) * 256 + (x3 : Int)) = ((Sha.word x0 x1 x2 x3).toNat : Int) := by
        unfold Sha.word; rw [IntKind.wrap_u32', BitVec.toNat_ofNat]; omega
      obtain ⟨X, hX⟩ : ∃ X, Sha.word x0 x1 x2 x3 = X := ⟨_, rfl⟩
      rw [hX] at y9
      have HX := Lib.hid hX
      clear hX
      have hne := own_ne hown hbw
      have hbr : b < wr.heap.size := Nat.lt_of_lt_of_le hbw hbel.size
      have hBr := hbel.size
      go_region_held3 (fun w' => w'.cell? ⟨b, off + 4 * k, none⟩ = some (.int .u8 (x0 : Int)) ∧ w'.cell? ⟨b, off + (4 * k + 1), none⟩ = some (.int .u8 (x1 : Int)) ∧ w'.cell? ⟨b, off + (4 * k + 2), none⟩ = some (.int .u8 (x2 : Int)) ∧ w'.cell? ⟨b, off + (4 * k + 3), none⟩ = some (.int .u8 (x3 : Int)))
        (first
          | go_keep
          | (go_split_ands
             refine ⟨?_, ?_, ?_, ?_⟩
             · (rw [hgr2.cell_far _ (by simp; omega) hne]; assumption)
             · (rw [hgr2.cell_far _ (by simp; omega) hne]; assumption)
             · (rw [hgr2.cell_far _ (by simp; omega) hne]; assumption)
             · (rw [hgr2.cell_far _ (by simp; omega) hne]; assumption)))
        ((refine step_append_lies _ (by rfl) (.tmp 22) (.tmp 56) 121 (by rfl) w.heap.size 101 i0 (.int .u32 0) 1 4 Tryz.underlying121 hi hz0 hz1 hz2 rfl (by decide) _ k (u32s (Sha.first p k)) (by rfl) ((hown.alloc _).drew) ⟨wr.heap.size, 0, none⟩ 1 1 [.int .u32 (X.toNat : Int)] (by rfl) (by rfl) (World.news_of_block (cs := #[.int .u32 (X.toNat : Int)]) (t := 101) (fr := (0, 0)) (heap_alloc_new wr _)) (by simp [Value.oneCell']) (by decide) (by unfold maxLen; omega) (by omega) (by simp; omega) (wr.heap.size + 1) (by simp) ?_; intro g cap w2 hown2 hgr2 hg2 hlt2))
      have hN : w2.ownsRow w.heap.size 101 1 (.slice (some ⟨g, 0, none⟩) (k + 1) cap) (k + 1) (u32s (Sha.first p (k + 1))) := by
        rw [u32s_snoc] at hown2
        rw [Sha.first, HW.out, HX.out]
        exact hown2
      have hb2 : Below w.heap.size w w2 := ((hbel.alloc hBr _).drew).grown hgr2 (by simp; omega) (own_ge hown)
      clear hown2 hgr2 hg2 hlt2 hne hown hbel hcr g0 g1 g2 g3 y0 y1 y2 y3 y4 y5 y6 y7 y8 y9 m0 m1 m2 m3 b0 b01 b02 b03 b1 b2 b3 b4 b5 b6 b7 b8
      go_wp2
      go_roundw
      case rel => exact ⟨k + 1, by omega, by go_num, hN, hb2⟩
      case measure => simp [intOf]; omega
    · obtain rfl : k = 16 := by omega
      clear hlt hk
      obtain ⟨wo, rfl⟩ : ∃ wo : World, wo = wr := ⟨_, rfl⟩
      rw [show ((16 : Nat) : Int) = 16 from rfl]
      have hd : decide ((16 : Int) < 16) = false := by decide
      go_wp2_with fail
      clear hd
      go_loopw [5, 7] (fun v i wr => ∃ t : Nat, 16 ≤ t ∧ t ≤ 64 ∧ i = .int .i64 t ∧ wr.ownsRow w.heap.size 101 1 v t (u32s (Sha.sched p (t - 16))) ∧ Below w.heap.size w wr)
        (fun _ i _ => 64 - (intOf i).toNat)
      case atStart => exact ⟨16, Nat.le_refl _, by omega, rfl, hown, hbel⟩
      case round =>
        clear hown hbel
        obtain ⟨t, h16, h64, rfl, hown, hbel⟩ := hrel
        by_cases ht : t < 64
        · have hd : decide ((t : Int) < 64) = true := by simp; omega
          have HL : Hid ((Sha.sched p (t - 16)).length = t) := by unfold Hid; rw [Sha.sched_length]; omega
          obtain ⟨l, hl⟩ : ∃ l, Sha.sched p (t - 16) = l := ⟨_, rfl⟩
          rw [hl] at HL hown
          have Hl := Lib.hid hl
          clear hl
          obtain ⟨g, cap, rfl, hgB, hgw, hcs⟩ := u32s_cell hown HL.out (by omega)
          have c0 := hcs (t - 16) (by omega)
          have c1 := hcs (t - 15) (by omega)
          have c2 := hcs (t - 7) (by omega)
          have c3 := hcs (t - 2) (by omega)
          clear hcs
          obtain ⟨x0, hx0⟩ : ∃ x, l.getD (t - 16) 0 = x := ⟨_, rfl⟩
          obtain ⟨x1, hx1⟩ : ∃ x, l.getD (t - 15) 0 = x := ⟨_, rfl⟩
          obtain ⟨x2, hx2⟩ : ∃ x, l.getD (t - 7) 0 = x := ⟨_, rfl⟩
          obtain ⟨x3, hx3⟩ : ∃ x, l.getD (t - 2) 0 = x := ⟨_, rfl⟩
          rw [hx0] at c0
          rw [hx1] at c1
          rw [hx2] at c2
          rw [hx3] at c3
          have Hx0 := Lib.hid hx0
          have Hx1 := Lib.hid hx1
          have Hx2 := Lib.hid hx2
          have Hx3 := Lib.hid hx3
          clear hx0 hx1 hx2 hx3
          have m0 : IntKind.i64.wrap ((t : Int) - 16) = (t : Int) - 16 := IntWalk.i64_in _ (by omega)
          have m1 : IntKind.i64.wrap ((t : Int) - 15) = (t : Int) - 15 := IntWalk.i64_in _ (by omega)
          have m2 : IntKind.i64.wrap ((t : Int) - 7) = (t : Int) - 7 := IntWalk.i64_in _ (by omega)
          have m3 : IntKind.i64.wrap ((t : Int) - 2) = (t : Int) - 2 := IntWalk.i64_in _ (by omega)
          have b0 : (0 : Int) ≤ (t : Int) - 16 := by omega
          have b1 : (0 : Int) ≤ (t : Int) - 15 := by omega
          have b2 : (0 : Int) ≤ (t : Int) - 7 := by omega
          have b3 : (0 : Int) ≤ (t : Int) - 2 := by omega
          have d0 : (t : Int) - 16 < (t : Int) := by omega
          have d1 : (t : Int) - 15 < (t : Int) := by omega
          have d2 : (t : Int) - 7 < (t : Int) := by omega
          have d3 : (t : Int) - 2 < (t : Int) := by omega
          have q0 : (16 : Int) ≤ (t : Int) := by omega
          have q1 : (15 : Int) ≤ (t : Int) := by omega
          have q2 : (7 : Int) ≤ (t : Int) := by omega
          have q3 : (2 : Int) ≤ (t : Int) := by omega
          have n0 : ((t : Int) - 16).toNat = t - 16 := by omega
          have n1 : ((t : Int) - 15).toNat = t - 15 := by omega
          have n2 : ((t : Int) - 7).toNat = t - 7 := by omega
          have n3 : ((t : Int) - 2).toNat = t - 2 := by omega
          go_upto_region 9 with (fail)
          go_quiet ((go_at_call 109; exact Calls.quiet_of_same (refRot_quiet _ _ (by omega) (by omega) _)))
          simp only [sig0_of]
          go_upto_region 10 with (fail)
          generalize hw4 : World.drewN wr _ = w4
          rw [show wr.cell? = w4.cell? from by rw [← hw4]; rfl] at c0 c1 c2 c3
          go_quiet ((go_at_call 109; exact Calls.quiet_of_same (refRot_quiet _ _ (by omega) (by omega) _)))
          simp only [sig1_of]
          go_upto_region 11 with (fail)
          obtain ⟨S0, hS0⟩ : ∃ x, Sha.sig0 x1 = x := ⟨_, rfl⟩
          obtain ⟨S1, hS1⟩ : ∃ x, Sha.sig1 x3 = x := ⟨_, rfl⟩
          rw [hS0, hS1]
          obtain ⟨X1, hX1⟩ : ∃ x, x0 + S0 = x := ⟨_, rfl⟩
          obtain ⟨X2, hX2⟩ : ∃ x, X1 + x2 = x := ⟨_, rfl⟩
          obtain ⟨X3, hX3⟩ : ∃ x, X2 + S1 = x := ⟨_, rfl⟩
          have y1 := u32_add x0 S0
          have y2 := u32_add X1 x2
          have y3 := u32_add X2 S1
          rw [hX1] at y1
          rw [hX2] at y2
          rw [hX3] at y3
          have HX : Hid (Sha.ext l = X3) := by
            unfold Hid; rw [Sha.ext, HL.out, Hx0.out, Hx1.out, Hx2.out, Hx3.out, hS0, hS1, hX1, hX2, hX3]
          clear hS0 hS1 hX1 hX2 hX3
          have hown4 : w4.ownsRow w.heap.size 101 1 (.slice (some ⟨g, 0, none⟩) t cap) t (u32s l) := by rw [← hw4]; exact hown
          have hbel4 : Below w.heap.size w w4 := by rw [← hw4]; exact below_drewN hbel _
          have hB4 := hbel4.size
          clear hw4 hown hbel c1 c3
          generalize hw5 : World.drewN w4 _ = w5
          rw [show w4.cell? = w5.cell? from by rw [← hw5]; rfl] at c0 c2
          have hown5 : w5.ownsRow w.heap.size 101 1 (.slice (some ⟨g, 0, none⟩) t cap) t (u32s l) := by rw [← hw5]; exact hown4
          have hbel5 : Below w.heap.size w w5 := by rw [← hw5]; exact below_drewN hbel4 _
          have hB5 := hbel5.size
          clear hw5 hown4 hbel4 hB4
          go_region_law (refine step_append_lies _ (by rfl) (.tmp 102) (.tmp 118) 121 (by rfl) w.heap.size 101 i0 (.int .u32 0) 1 4 Tryz.underlying121 hi hz0 hz1 hz2 rfl (by decide) _ t (u32s l) (by rfl) ((hown5.alloc _).drew) ⟨w5.heap.size, 0, none⟩ 1 1 [.int .u32 (X3.toNat : Int)] (by rfl) (by rfl) (World.news_of_block (cs := #[.int .u32 (X3.toNat : Int)]) (t := 101) (fr := (0, 0)) (heap_alloc_new w5 _)) (by simp [Value.oneCell']) (by decide) (by unfold maxLen; omega) (by omega) (by simp; omega) (w5.heap.size + 1) (by simp) ?_; intro g2 cap2 w2 hown2 hgr2 hg2 hlt2)
          all_goals
            have hN : w2.ownsRow w.heap.size 101 1 (.slice (some ⟨g2, 0, none⟩) (t + 1) cap2) (t + 1) (u32s (Sha.sched p (t + 1 - 16))) := by
              rw [u32s_snoc] at hown2
              rw [show t + 1 - 16 = (t - 16) + 1 from by omega, Sha.sched, Hl.out, HX.out]
              exact hown2
            have hb2 : Below w.heap.size w w2 := ((hbel5.alloc hB5 _).drew).grown hgr2 (by simp; omega) (own_ge hown5)
            clear hown2 hgr2 hg2 hlt2 hown5 hbel5 c0 c2 y1 y2 y3 m0 m1 m2 m3 b0 b1 b2 b3 d0 d1 d2 d3 n0 n1 n2 n3 q0 q1 q2 q3
            go_wp2
            go_roundw
            case rel => exact ⟨t + 1, by omega, by omega, by go_num, hN, hb2⟩
            case measure => simp [intOf]; omega
        · obtain rfl : t = 64 := by omega
          clear ht h16 h64
          obtain ⟨ws, hws⟩ : ∃ ws, Sha.sched p (64 - 16) = ws := ⟨_, rfl⟩
          rw [hws] at hown
          have Hl : Hid (ws.length = 64) := by unfold Hid; rw [← hws, Sha.sched_length]
          have Hws := Lib.hid hws
          clear hws
          obtain ⟨g5, cap5, rfl, hg5B, hg5w, hcs5⟩ := u32s_cell hown Hl.out (by omega)
          have Hcs5 := Lib.hid hcs5
          have hB := hbel.size
          have hbhr : bh < wr.heap.size := Nat.lt_of_lt_of_le hbh hB
          have hhr : Hid (∀ j x, (u32s s.list)[j]? = some x → wr.cell? ((⟨bh, 0, none⟩ : Addr).add j) = some x) := by
            intro j x hj
            have hadd : (⟨bh, 0, none⟩ : Addr).add j = ⟨bh, j, none⟩ := by unfold Addr.add; split <;> simp_all
            rw [hadd, hbel.cell (p := ⟨bh, j, none⟩) hbh]; exact Hh.out j x hj
          clear hcs5 hown
          rw [show ((64 : Nat) : Int) = 64 from rfl]
          have hd : decide ((64 : Int) < 64) = false := by decide
          obtain ⟨wo2, rfl⟩ : ∃ wo : World, wo = wr := ⟨_, rfl⟩
          go_upto_region 12 with (fail)
          clear hd
          repeat ((fail_if_success (with_reducible show wpList _ _ _ (⟨some 122, _, _, _, _, _⟩ :: _) _ _)); first | go_values | go_skip | go_guarded | go_step | go_upon | go_back | go_simp)
          have hempty : (wo2.alloc (.cells #[] 101)).ownsRow w.heap.size 101 1 (.slice (some ⟨wo2.heap.size, 0, none⟩) 0 0) 0 [] := ⟨rfl, .inr ⟨wo2.heap.size, 0, #[], rfl, hB, heap_alloc_new _ _, Nat.le_refl _, by decide, rfl, rfl⟩⟩
          with_reducible refine wpList_append_lies _ rfl (.tmp 120) (.tmp 121) 121 rfl w.heap.size 101 i0 (.int .u32 0) 1 4 Tryz.underlying121 hi hz0 hz1 hz2 ?r1 (by decide) (.slice (some ⟨wo2.heap.size, 0, none⟩) 0 0) 0 [] ?r2 ?r3 ⟨bh, 0, none⟩ 8 ch (u32s s.list) ?r4 ?r5 ?r6 ?r7 (by decide) (by unfold maxLen; omega) (by omega) ?r8 _ rfl ?_
          case r1 => rfl
          case r2 => rfl
          case r3 => exact hempty
          case r4 => rfl
          case r5 => rfl
          case r6 => exact fun j u hj => (World.cell?_alloc_lt _ _ _ (by rw [show ((⟨bh, 0, none⟩ : Addr).add j).block = bh from by unfold Addr.add; split <;> rfl]; exact hbhr)).trans (hhr.out j u hj)
          case r7 => intro u hu; obtain ⟨x, _, rfl⟩ := List.mem_map.1 hu; rfl
          case r8 => simp; omega
          intro gl capl w3 hownl hgrl hgl hltl
          rw [List.nil_append, Nat.zero_add] at hownl
          obtain ⟨hglB, hcl0⟩ := own_cells hownl (show s.list.length = 8 from rfl) (by omega)
          have hb3 : Below w.heap.size w w3 := (hbel.alloc hB _).grown hgrl (by simp; omega) (fun k hk => by simp [Value.ownBlock] at hk; omega)
          have h53 : ∀ j, j < 64 → w3.cell? ⟨g5, j, none⟩ = some (.int .u32 ((ws.getD j 0).toNat : Int)) := fun j hj => by
            rw [hgrl.cell_far ⟨g5, j, none⟩ (by simp; omega) (by simp [Value.ownBlock]; omega), World.cell?_alloc_lt _ _ _ hg5w]; exact Hcs5.out j hj
          have H53 := Lib.hid h53
          have Hcl0 := Lib.hid hcl0
          have hg5w3 : g5 < w3.heap.size := by have := hgrl.size; simp at this; omega
          clear h53 hcl0 hownl hgrl hgl hbel hempty hhr Hcs5
          simp only [Nat.zero_add]
          go_frame
          go_wp2_with fail
          obtain ⟨sa, sb, sc, sd, se, sf, sg, sh⟩ := s
          go_loopw [10, 11] (fun v i wr => ∃ (t gl capl : Nat) (xa xb xc xd xe xf xg xh : Sha.W), t ≤ 64 ∧ i = .int .i64 t ∧ v = .slice (some ⟨gl, 0, none⟩) 8 capl ∧ w.heap.size ≤ gl ∧ gl < wr.heap.size ∧ g5 < wr.heap.size ∧
              Sha.rounds ws ⟨sa, sb, sc, sd, se, sf, sg, sh⟩ t = ⟨xa, xb, xc, xd, xe, xf, xg, xh⟩ ∧ Hid (∀ j x, [xa, xb, xc, xd, xe, xf, xg, xh][j]? = some x → wr.cell? ⟨gl, j, none⟩ = some (.int .u32 (x.toNat : Int))) ∧
              Hid (∀ j, j < 64 → wr.cell? ⟨g5, j, none⟩ = some (.int .u32 ((ws.getD j 0).toNat : Int))) ∧ Below w.heap.size w wr)
            (fun _ i _ => 64 - (intOf i).toNat)
          case atStart => exact ⟨0, gl, capl, sa, sb, sc, sd, se, sf, sg, sh, Nat.zero_le _, rfl, rfl, hglB, hltl, hg5w3, rfl, fun j x hj => by
              have hj8 : j < 8 := (List.getElem?_eq_some_iff.1 hj).1
              have := Hcl0.out j hj8
              rw [List.getD_eq_getElem?_getD] at this
              simp only [Sha.St.list] at this
              rw [hj] at this; exact this, H53, hb3⟩
          case round =>
            clear H53 Hcl0 hb3 hglB hltl hg5w3
            obtain ⟨t, gl, capl, xa, xb, xc, xd, xe, xf, xg, xh, h64, rfl, rfl, hglB, hglw, hg5r, hq, Hcl, H5, hbel⟩ := hrel
            have Hq := Lib.hid hq
            clear hq
            by_cases ht : t < 64
            · have hd : decide ((t : Int) < 64) = true := by simp; omega
              have hcl := Hcl.out
              have c0 := hcl 0 _ rfl
              have c1 := hcl 1 _ rfl
              have c2 := hcl 2 _ rfl
              have c3 := hcl 3 _ rfl
              have c4 := hcl 4 _ rfl
              have c5 := hcl 5 _ rfl
              have c6 := hcl 6 _ rfl
              have c7 := hcl 7 _ rfl
              clear hcl
              obtain ⟨kt, hkt⟩ : ∃ x, Sha.kAt t = x := ⟨_, rfl⟩
              obtain ⟨wt, hwt⟩ : ∃ x, ws.getD t 0 = x := ⟨_, rfl⟩
              have cw : wr.cell? ⟨g5, t, none⟩ = some (.int .u32 (wt.toNat : Int)) := by rw [H5.out t ht, hwt]
              have cK : ∀ d os, Calls Tryz.prog 110 #[.int .i64 t] (grow (redrawn wr d) os) fun e w'' => e = .returned (.int .u32 (kt.toNat : Int)) ∧ ∃ p : Regrown, w'' = grow (redrawn wr p.d) p.os :=
                fun d os => Calls.regrown_of (by rw [← hkt]; exact refK_any t ht _)
              have Hkt := Lib.hid hkt
              have Hwt := Lib.hid hwt
              clear hkt hwt
              have k1 := cell_regrown c1
              have k2 := cell_regrown c2
              have k5 := cell_regrown c5
              have k6 := cell_regrown c6
              have k7 := cell_regrown c7
              have kw := cell_regrown cw
              have t64 : (t : Int) < 64 := by omega
              go_upto_region 18 with (fail)
              refine wp_region_quiet_below (by kernel_rfl) (by kernel_rfl) ?_
              repeat (go_big_quiet_step (first | (with_reducible exact cK _ _) | (go_at_call 109; exact rot_regrown _ _ (by omega) (by omega) _ _)))
              refine wpQuiet_nil ?_
              intro w4 hw4
              obtain ⟨⟨dq, osq⟩, hw4⟩ := hw4
              have hb4 : Below wr.heap.size wr w4 := by rw [hw4]; exact below_regrown wr dq osq
              clear hw4 cK k1 k2 k5 k6 k7 kw cw
              have e0 : w4.cell? ⟨gl, 0, none⟩ = some (.int .u32 (xa.toNat : Int)) := (hb4.cell (p := ⟨gl, 0, none⟩) hglw).trans c0
              have e1 : w4.cell? ⟨gl, 1, none⟩ = some (.int .u32 (xb.toNat : Int)) := (hb4.cell (p := ⟨gl, 1, none⟩) hglw).trans c1
              have e2 : w4.cell? ⟨gl, 2, none⟩ = some (.int .u32 (xc.toNat : Int)) := (hb4.cell (p := ⟨gl, 2, none⟩) hglw).trans c2
              have e3 : w4.cell? ⟨gl, 3, none⟩ = some (.int .u32 (xd.toNat : Int)) := (hb4.cell (p := ⟨gl, 3, none⟩) hglw).trans c3
              have e5 : w4.cell? ⟨gl, 5, none⟩ = some (.int .u32 (xf.toNat : Int)) := (hb4.cell (p := ⟨gl, 5, none⟩) hglw).trans c5
              have e6 : w4.cell? ⟨gl, 6, none⟩ = some (.int .u32 (xg.toNat : Int)) := (hb4.cell (p := ⟨gl, 6, none⟩) hglw).trans c6
              have H54 : Hid (∀ j, j < 64 → w4.cell? ⟨g5, j, none⟩ = some (.int .u32 ((ws.getD j 0).toNat : Int))) := fun j hj => (hb4.cell (p := ⟨g5, j, none⟩) hg5r).trans (H5.out j hj)
              have hbel4 : Below w.heap.size w w4 := hbel.trans (hb4.mono hbel.size)
              have hs4 := hb4.size
              clear c0 c1 c2 c3 c4 c5 c6 c7 H5 Hcl hb4 hbel
              go_upto_region 19 with (fail)
              go_quiet ((go_at_call 109; exact Calls.quiet_of_same (refRot_quiet _ _ (by omega) (by omega) _)))
              go_upto_region 20 with (fail)
              simp only [u32_xor, u32_and, not_of, add4_of, add2_of]
              generalize hV : (xh + (rotr xe 6 ^^^ rotr xe 11 ^^^ rotr xe 25) + ((xe &&& xf) ^^^ (~~~xe &&& xg)) + kt + wt : Sha.W) = V
              generalize hU : ((rotr xa 2 ^^^ rotr xa 13 ^^^ rotr xa 22) + ((xa &&& xb) ^^^ (xa &&& xc) ^^^ (xb &&& xc)) : Sha.W) = U
              obtain ⟨Y1, hY1⟩ : ∃ x, V + U = x := ⟨_, rfl⟩
              obtain ⟨Y2, hY2⟩ : ∃ x, xd + V = x := ⟨_, rfl⟩
              have y1 := u32_add V U
              have y2 := u32_add xd V
              rw [hY1] at y1
              rw [hY2] at y2
              have HN : Hid (Sha.rounds ws ⟨sa, sb, sc, sd, se, sf, sg, sh⟩ (t + 1) = ⟨Y1, xa, xb, xc, Y2, xe, xf, xg⟩) := by
                unfold Hid; rw [Sha.rounds, Hq.out, Hkt.out, Hwt.out, ← hY1, ← hY2, ← hV, ← hU]; rfl
              clear hV hU hY1 hY2
              generalize hw5 : World.drewN w4 _ = w5
              rw [show w4.cell? = w5.cell? from by rw [← hw5]; rfl] at e0 e1 e2 e3 e5 e6 H54
              have hbel5 : Below w.heap.size w w5 := by rw [← hw5]; exact below_drewN hbel4 _
              have hs5 : wr.heap.size ≤ w5.heap.size := by rw [← hw5]; exact hs4
              clear hw5 hbel4 hs4
              go_still_tail 22, (by kernel_rfl)
              clear e0 e1 e2 e3 e5 e6 y1 y2
              go_wp2
              go_roundw
              case rel =>
                refine ⟨t + 1, w5.heap.size, 8, Y1, xa, xb, xc, Y2, xe, xf, xg, by omega, by go_num, rfl, hbel5.size, by simp, by simp; omega, HN.out, ?_, ?_, (hbel5.alloc hbel5.size _).drew⟩
                · intro j x hj
                  have h8 := (Lies.made w5 101 (u32s [Y1, xa, xb, xc, Y2, xe, xf, xg])).cell j
                  have e8 : (u32s [Y1, xa, xb, xc, Y2, xe, xf, xg])[j]? = some (.int .u32 (x.toNat : Int)) := by rw [u32s, List.getElem?_map, hj]; rfl
                  exact h8.trans e8
                · intro j hj
                  exact (World.cell?_alloc_lt _ _ _ (Nat.lt_of_lt_of_le hg5r hs5)).trans (H54.out j hj)
              case measure => simp [intOf]; omega
            · have H64 : Hid (t = 64) := by unfold Hid; omega
              have hd : decide ((t : Int) < 64) = false := by simp; omega
              clear ht h64
              obtain ⟨wo3, rfl⟩ : ∃ wo : World, wo = wr := ⟨_, rfl⟩
              have hB3 := hbel.size
              have hbh3 : bh < wo3.heap.size := Nat.lt_of_lt_of_le hbh hB3
              have Hh3 : Hid (∀ j, j < 8 → wo3.cell? ⟨bh, j, none⟩ = some (.int .u32 (([sa, sb, sc, sd, se, sf, sg, sh].getD j 0).toNat : Int))) := fun j hj => by
                rw [hbel.cell (p := ⟨bh, j, none⟩) hbh]
                exact Hh.out j _ (u32s_at [sa, sb, sc, sd, se, sf, sg, sh] hj)
              have Hl3 : Hid (∀ j, j < 8 → wo3.cell? ⟨gl, j, none⟩ = some (.int .u32 (([xa, xb, xc, xd, xe, xf, xg, xh].getD j 0).toNat : Int))) := fun j hj => by
                have hj' : [xa, xb, xc, xd, xe, xf, xg, xh][j]? = some ([xa, xb, xc, xd, xe, xf, xg, xh].getD j 0) := by
                  rw [List.getD_eq_getElem?_getD, List.getElem?_eq_getElem hj]; rfl
                exact Hcl.out j _ hj'
              clear Hcl H5
              go_wp2_with fail
              clear hd
              go_loopw [16, 17] (fun v i wr => ∃ k : Nat, k ≤ 8 ∧ i = .int .i64 k ∧ wr.ownsRow wo3.heap.size 101 1 v k (u32s ((Sha.St.add ⟨sa, sb, sc, sd, se, sf, sg, sh⟩ ⟨xa, xb, xc, xd, xe, xf, xg, xh⟩).list.take k)) ∧ Below wo3.heap.size wo3 wr)
                (fun _ i _ => 8 - (intOf i).toNat)
              case atStart => exact ⟨0, Nat.zero_le _, rfl, World.ownsRow_nil _ _ _ _, Below.refl _ _⟩
              case round =>
                obtain ⟨k, hk, rfl, hown, hb6⟩ := hrel
                by_cases hlt : k < 8
                · have hd : decide ((k : Int) < 8) = true := by simp; omega
                  have c0 := (hb6.cell (p := ⟨bh, k, none⟩) hbh3).trans (Hh3.out k hlt)
                  have c1 := (hb6.cell (p := ⟨gl, k, none⟩) hglw).trans (Hl3.out k hlt)
                  have HT := Lib.hid (add_take ⟨sa, sb, sc, sd, se, sf, sg, sh⟩ ⟨xa, xb, xc, xd, xe, xf, xg, xh⟩ k hlt)
                  simp only [Sha.St.list] at HT
                  obtain ⟨y, hy⟩ : ∃ y, [sa, sb, sc, sd, se, sf, sg, sh].getD k 0 = y := ⟨_, rfl⟩
                  obtain ⟨x, hx⟩ : ∃ x, [xa, xb, xc, xd, xe, xf, xg, xh].getD k 0 = x := ⟨_, rfl⟩
                  rw [hy] at c0 HT
                  rw [hx] at c1 HT
                  clear hx hy
                  obtain ⟨X, hX⟩ : ∃ X, y + x = X := ⟨_, rfl⟩
                  have y1 := u32_add y x
                  rw [hX] at y1 HT
                  clear hX
                  have k8 : (k : Int) < 8 := by omega
                  have k0 : (0 : Int) ≤ (k : Int) := by omega
                  have hB6 := hb6.size
                  go_upto_region 25 with (fail)
                  go_region_law (refine step_append_lies _ (by rfl) (.tmp 221) (.tmp 231) 121 (by rfl) wo3.heap.size 101 i0 (.int .u32 0) 1 4 Tryz.underlying121 hi hz0 hz1 hz2 rfl (by decide) _ k _ (by rfl) ((hown.alloc _).drew) ⟨wr.heap.size, 0, none⟩ 1 1 [.int .u32 (X.toNat : Int)] (by rfl) (by rfl) (World.news_of_block (cs := #[.int .u32 (X.toNat : Int)]) (t := 101) (fr := (0, 0)) (heap_alloc_new wr _)) (by simp [Value.oneCell']) (by decide) (by unfold maxLen; omega) (by omega) (by simp; omega) (wr.heap.size + 1) (by simp) ?_; intro g2 cap2 w2 hown2 hgr2 hg2 hlt2)
                  all_goals
                    have hN : w2.ownsRow wo3.heap.size 101 1 (.slice (some ⟨g2, 0, none⟩) (k + 1) cap2) (k + 1) (u32s ((Sha.St.add ⟨sa, sb, sc, sd, se, sf, sg, sh⟩ ⟨xa, xb, xc, xd, xe, xf, xg, xh⟩).list.take (k + 1))) := by
                      rw [u32s_snoc] at hown2
                      simp only [Sha.St.list]
                      rw [HT.out]
                      exact hown2
                    have hb2 : Below wo3.heap.size wo3 w2 := ((hb6.alloc hB6 _).drew).grown hgr2 (by simp; omega) (own_ge hown)
                    clear hown2 hgr2 hg2 hlt2 hown hb6 c0 c1 y1 k8 k0
                    go_wp2
                    go_roundw
                    case rel => exact ⟨k + 1, by omega, by go_num, hN, hb2⟩
                    case measure => simp [intOf]; omega
                · obtain rfl : k = 8 := by omega
                  have hd : decide (((8 : Nat) : Int) < 8) = false := by decide
                  go_wp2
                  go_ret
                  refine ⟨_, rfl, ?_, hbel.trans (hb6.mono hB3)⟩
                  have hm := own_mono hown hB3
                  have e : Sha.mix ⟨sa, sb, sc, sd, se, sf, sg, sh⟩ p = Sha.St.add ⟨sa, sb, sc, sd, se, sf, sg, sh⟩ ⟨xa, xb, xc, xd, xe, xf, xg, xh⟩ := by
                    unfold Sha.mix
                    rw [show Sha.sched p 48 = ws from Hws.out, ← H64.out, Hq.out]
                  rw [e]
                  rw [List.take_of_length_le (by exact Nat.le_refl 8)] at hm
                  exact hm
end Go.Proofs.YthklgpflaghojaaGreatDoor
