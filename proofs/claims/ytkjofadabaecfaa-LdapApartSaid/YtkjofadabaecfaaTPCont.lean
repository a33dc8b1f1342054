/-
  The program's contentOf, at all levels.
-/
import Derived.Test.YtkjofadabaecfaaTPAppEl
namespace Go.Proofs.Ytkjofadabaecfaa
open Go.RowKit

/-- What holds at each round of contentOf's loop. -/
def CRel (m : Nat) (l : List Bq.T) (W0 : World) (bv i : Value) (wr : World) : Prop :=
  ∃ (k : Nat) (acc : List Nat), i = .int .i64 k ∧ k ≤ l.length ∧ wr.ownsRow W0.heap.size 5 1 bv acc.length (u8s acc) ∧ acc.length ≤ 65535 ∧ Below W0.heap.size W0 wr ∧ Hid (acc = (l.take k).flatMap (Bq.enc m))
theorem flat_step {m : Nat} {l : List Bq.T} {k : Nat} {x : Bq.T} (h : l[k]? = some x) : (l.take (k + 1)).flatMap (Bq.enc m) = (l.take k).flatMap (Bq.enc m) ++ Bq.enc m x := by
  rw [List.take_add_one, h, Option.toList_some, List.flatMap_append]
  simp
theorem flat_take (m : Nat) (l : List Bq.T) (k : Nat) : ((l.take k).flatMap (Bq.enc m)).length ≤ (l.flatMap (Bq.enc m)).length := by
  conv => rhs; rw [← List.take_append_drop k l, List.flatMap_append, List.length_append]
  omega

set_option maxHeartbeats 1000000 in
set_option maxRecDepth 100000 in
theorem cont_step (lv : Nat) (ih : ∀ m, lv = m + 1 → AppElOk m) : ContOk lv := by
  intro ok v t w hJ ham
  obtain ⟨bv, lst, rfl, hta, hB, hbt, hL⟩ := hJ.parts
  obtain ⟨A0, c0, rfl⟩ := hL.form
  obtain ⟨A9, c9, rfl⟩ := hB.form
  obtain ⟨Q, eQ⟩ : ∃ Q, Bq.cont lv t = Q := ⟨_, rfl⟩
  rw [eQ]
  obtain ⟨h31, hsc, hli⟩ := Bq.amiss_zero ham
  obtain ⟨a, ea⟩ : ∃ a, t.tag = a := ⟨_, rfl⟩
  rw [ea] at hta h31 hsc hli
  obtain ⟨M, eM⟩ : ∃ M, t.list.length = M := ⟨_, rfl⟩
  obtain ⟨N, eN⟩ : ∃ N, t.bytes.length = N := ⟨_, rfl⟩
  have hll := hL.len
  rw [eM] at hll
  obtain ⟨W0, eW0⟩ : ∃ W0, W0 = w.alloc (.cells #[.int .u8 (a : Int), .slice A9 N c9, .slice A0 M c0] 60) := ⟨_, rfl⟩
  have hb0 : Below w.heap.size w W0 := by rw [eW0]; exact (Below.refl _ _).alloc (Nat.le_refl _) _
  have HL0 : Hid (Lies W0 w.heap.size 60 [.int .u8 (a : Int), .slice A9 N c9, .slice A0 M c0]) := by unfold Hid; rw [eW0]; exact Lies.new_ rfl
  have hH := hasList_any a hta W0
  rw [eW0] at hH
  have HW0 := Lib.hid eW0
  have HB0 := Lib.hid hb0
  have HEQ := Lib.hid eQ
  have HEM := Lib.hid eM
  have HEN := Lib.hid eN
  rw [ea, eM, eN]
  by_cases hs : a / 32 % 2 = 1
  rotate_left
  · have hl0 := hsc (by omega)
    have hQ : Q = t.bytes := by rw [← eQ]; exact Bq.cont_scalar hl0
    have HS := Lib.hid hs
    have HBY := Lib.hid (hB.on hb0)
    have HQB := Lib.hid hQ
    clear eW0 hb0 eQ ea eM eN hL hB hbt hJ ham h31 hsc hli ih hs hl0 hQ
    go_enter Try.func61, Try.ntmps61
    go_wp2_with fail
    refine hH.mono ?_
    rintro e w1 ⟨hw1, hh⟩
    rw [← HW0.out] at hw1
    subst hw1
    rcases hh with ⟨h1, rfl⟩ | ⟨_, rfl⟩
    · exact absurd h1 HS.out
    clear hH
    obtain ⟨⟨z0, z1, z2⟩, _⟩ := HL0.out.three
    have hlt := HL0.out.lt
    by_cases hN : N ≤ 65535
    · have hd : decide ((N : Int) ≤ 65535) = true := decide_eq_true (by omega)
      have HE : Hid (∀ n, ContEnd ok Q w (.returned (.tuple #[.slice A9 N c9, .bool true])) (W0.drewN n)) := fun n => by
        refine ⟨HB0.out.trans (drewN_below _ n), .inl ?_⟩
        rw [HQB.out, HEN.out]
        refine ⟨hN, A9, c9, rfl, ?_⟩
        have h := HBY.out
        rw [HEN.out] at h
        exact h.keep (fun b hb _ => ⟨.inl hb, rfl⟩) (Nat.le_refl _)
      go_wp2_with (go_quiet (fail))
      go_ret2
      exact HE.out _
    · have hd : decide ((N : Int) ≤ 65535) = false := decide_eq_false (by omega)
      have HE : Hid (∀ n, ContEnd ok Q w (.returned (.tuple #[.slice A9 N c9, .bool false])) (W0.drewN n)) := fun n =>
        ⟨HB0.out.trans (drewN_below _ n), .inr ⟨by rw [HQB.out, HEN.out]; omega, _, rfl⟩⟩
      go_wp2_with (go_quiet (fail))
      go_ret2
      exact HE.out _
  obtain ⟨hb0', m, rfl, hall⟩ := hli (by omega)
  have hQ : Q = t.list.flatMap (Bq.enc m) := by rw [← eQ]; exact Bq.cont_list hb0'
  have HS := Lib.hid hs
  have HL := Lib.hid ((hL.keep (w' := w) (ok' := (· < w.heap.size)) (fun b _ hlt => ⟨hlt, rfl⟩) (Nat.le_refl _)).on hb0)
  have HALL := Lib.hid hall
  have HI := Lib.hid (ih m rfl)
  have HQQ := Lib.hid hQ
  have HZ0 : Hid (W0.heap.size = w.heap.size + 1) := by unfold Hid; rw [eW0]; simp
  rw [eM] at HL
  clear eW0 hb0 eQ ea eM eN hL hB hbt hJ ham h31 hsc hli ih hs hall hQ hb0'
  go_enter Try.func61, Try.ntmps61
  go_wp2_with fail
  refine hH.mono ?_
  rintro e w1 ⟨hw1, hh⟩
  rw [← HW0.out] at hw1
  subst hw1
  rcases hh with ⟨_, rfl⟩ | ⟨h1, rfl⟩
  rotate_left
  · exact absurd HS.out h1
  clear hH
  obtain ⟨⟨z0, z1, z2⟩, _⟩ := HL0.out.three
  have HST : Hid (CRel m t.list W0 nilS (.int .i64 0) W0) := ⟨0, [], rfl, Nat.zero_le _, World.ownsRow_nil _ _ _ _, Nat.zero_le _, Below.refl _ _, Lib.hid rfl⟩
  go_wp2_with fail
  go_loopw [4, 22] (fun bv i' wr => CRel m t.list W0 bv i' wr) (fun _ i' _ => t.list.length - (intOf i').toNat)
  case atStart => exact HST.out
  case round =>
    clear z0 z1 z2
    obtain ⟨k, acc, rfl, hk, hown, hal, hb, hrel⟩ := hrel
    rw [HEM.out] at hk
    obtain ⟨A4, c4, rfl⟩ := own_slice hown
    by_cases hlt : k < M
    · obtain ⟨b, off, x, E1, e1, E2, e2, rfl, _, hblt, hx, hJx, s0, s1, s2⟩ := (HL.out.on hb).elem (by rw [HEM.out]; exact hlt)
      have hxm := List.mem_of_getElem? hx
      obtain ⟨W1, eW1⟩ : ∃ W1, W1 = wr.alloc (.cells #[.int .u8 (x.tag : Int), .slice E1 x.bytes.length e1, .slice E2 x.list.length e2] 60) := ⟨_, rfl⟩
      have hb1 : Below wr.heap.size wr W1 := by rw [eW1]; exact (Below.refl _ _).alloc (Nat.le_refl _) _
      have hown1 := own_below hown hb1
      have hbW1 := hb.trans (hb1.mono hb.size)
      have hJ1 : IsT W1 (· < W0.heap.size) _ x := (hJx.on hb1).keep (fun b hb _ => ⟨by have hb : b < w.heap.size := hb; have := HZ0.out; omega, rfl⟩) (Nat.le_refl _)
      have hC := HI.out W0.heap.size _ acc _ x W1 hJ1 (HALL.out x hxm) hbW1.size hown1 hal
      have HFS := Lib.hid (flat_step (m := m) hx)
      have HFL := Lib.hid (Bq.flat_le (lv := m) hxm)
      have HW1 := Lib.hid eW1
      have HBW1 := Lib.hid hbW1
      have HO1 := Lib.hid hown1
      rw [eW1] at hC
      clear eW1 hb1 hown hown1 hbW1 hJ1 hJx hx hxm
      go_wp2_with fail
      refine hC.mono ?_
      intro e w2 hh
      rw [← HW1.out] at hh
      clear hC s0 s1 s2
      rcases hh with ⟨hc, v2, rfl, hown2, hg2⟩ | ⟨hc, rfl, hb2⟩
      rotate_left
      · have HQE : Hid (ContEnd ok Q w (.returned (.tuple #[nilS, .bool false])) w2) := ⟨below_more HB0.out (HBW1.out.trans (hb2.mono HBW1.out.size)), .inr ⟨by
          rw [HQQ.out]
          have h1 := HFL.out
          have h2 := (Bq.enc_len m x).2.1
          omega, _, rfl⟩⟩
        clear hc hb2
        go_wp2
        go_ret2
        exact HQE.out
      obtain ⟨A5, c5, rfl⟩ := own_slice hown2
      have hen := (Bq.enc_len m x).2.2
      have hlo : ∀ k, (Value.slice A4 acc.length c4).ownBlock = some k → W0.heap.size ≤ k := fun k e => (HO1.out.lt k e).1
      have hb2 : Below W0.heap.size W0 w2 := HBW1.out.grown hg2.1 HBW1.out.size hlo
      obtain ⟨L, eL⟩ : ∃ L, acc ++ Bq.enc m x = L := ⟨_, rfl⟩
      rw [eL] at hown2 ⊢
      have hLl : L.length ≤ 131074 := by rw [← eL, List.length_append]; omega
      have HLT : Hid (L = (t.list.take (k + 1)).flatMap (Bq.enc m)) := by unfold Hid; rw [HFS.out, ← hrel.out, eL]
      have HO2 := Lib.hid hown2
      have HB2 := Lib.hid hb2
      clear hc hown2 hg2 hen hlo hb2 eL
      by_cases hbig : 65535 < L.length
      · have hd : decide ((65535 : Int) < (L.length : Int)) = true := decide_eq_true (by omega)
        have HQE : Hid (ContEnd ok Q w (.returned (.tuple #[nilS, .bool false])) w2) := ⟨below_more HB0.out HB2.out, .inr ⟨by
          rw [HQQ.out]
          have h1 := flat_take m t.list (k + 1)
          rw [← HLT.out] at h1
          omega, _, rfl⟩⟩
        go_wp2
        go_ret2
        exact HQE.out
      · have hd : decide ((65535 : Int) < (L.length : Int)) = false := decide_eq_false (by omega)
        have HR : Hid (CRel m t.list W0 (.slice A5 L.length c5) (.int .i64 ((k + 1 : Nat) : Int)) w2) := ⟨k + 1, L, rfl, by rw [HEM.out]; omega, HO2.out, by omega, HB2.out, HLT⟩
        go_wp2
        go_roundw
        case rel => exact HR.out
        case measure => simp [intOf]; have := HEM.out; omega
    · obtain rfl : k = M := by omega
      have hd3 : decide ((k : Int) < (k : Int)) = false := by simp
      have HQE : Hid (ContEnd ok Q w (.returned (.tuple #[.slice A4 acc.length c4, .bool true])) wr) := by
        have hacc : Q = acc := by rw [hrel.out, HQQ.out, List.take_of_length_le (by rw [HEM.out]; exact Nat.le_refl _)]
        refine ⟨below_more HB0.out hb, .inl ?_⟩
        rw [hacc]
        exact ⟨hal, A4, c4, rfl, (own_slIs hown).keep (fun b hb _ => ⟨.inr (by have hb : W0.heap.size ≤ b := hb; have := HZ0.out; omega), rfl⟩) (Nat.le_refl _)⟩
      clear hown hb hrel
      go_wp2
      go_ret2
      exact HQE.out
theorem cont_all : ∀ lv, ContOk lv
  | 0 => cont_step 0 fun m e => by omega
  | n + 1 => cont_step (n + 1) fun m e => by
    have : n = m := by omega
    subst this
    exact appEl_step n (cont_all n)
end Go.Proofs.Ytkjofadabaecfaa
