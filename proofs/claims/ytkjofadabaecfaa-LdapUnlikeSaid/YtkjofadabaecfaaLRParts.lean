/-
  The document's parts: the number and the three parts that bytes may have.
-/
import Derived.Test.YtkjofadabaecfaaLRPut2
import Derived.Test.YtkjofadabaecfaaTRDecode
import Derived.Test.YtkjofadabaecfaaTRNumber
namespace Go.Proofs.Ytkjofadabaecfaa
open Go.RowKit

/-- Bytes that have a number and three parts. -/
def Three (S : List Nat) (n : Nat) (l : List Bq.T) : Prop := ∃ t x y, Bq.decode S = .ok t ∧ t.list = [x, y] ∧ y.list = l ∧ l.length = 3 ∧ numberP x.bytes = (n, true)
theorem three_put {k : Bq.K} {n : Int} {p q r S : List Nat} (h : Bq.put k n p q r = some S) : ∃ m u v z, n = ((m : Nat) : Int) ∧ Three S m [u, v, z] ∧ u.bytes = p ∧ v.bytes = q ∧ z.bytes = r := by
  obtain ⟨x, y, u, v, z, h1, _, h3, _, h5, _, h6, h7, h8⟩ := Bq.put_made h
  have h9 := (Bq.put_ok h).1
  exact ⟨n.toNat, u, v, z, (Int.toNat_of_nonneg (Bq.whole_in h9).1).symm, ⟨_, x, y, h1, rfl, h5, rfl, by rw [h3]; exact Bq.number_whole h9⟩, h6, h7, h8⟩
theorem three_inj {S : List Nat} {n m : Nat} {l l' : List Bq.T} (h : Three S n l) (h' : Three S m l') : n = m ∧ l = l' := by
  obtain ⟨t, x, y, h1, h2, h3, _, h4⟩ := h
  obtain ⟨t', x', y', h1', h2', h3', _, h4'⟩ := h'
  rw [h1] at h1'
  injection h1' with h1'
  subst h1'
  rw [h2] at h2'
  simp only [List.cons.injEq, and_true] at h2'
  obtain ⟨rfl, rfl⟩ := h2'
  rw [h4] at h4'
  simp only [Prod.mk.injEq, and_true] at h4'
  exact ⟨h4', h3 ▸ h3'⟩
/-- How parts ends. -/
def ThreeEnd (S : List Nat) (w : World) (e : Ending) (w' : World) : Prop := Below w.heap.size w w' ∧
  ((∃ n l A c, Three S n l ∧ e = .returned (.tuple #[.int .i64 (n : Int), .slice A 3 c]) ∧ ListIs w' (w.heap.size ≤ ·) (.slice A 3 c) l) ∨
   ((∀ n l, ¬ Three S n l) ∧ e = .returned (.tuple #[.int .i64 0, nilS])))

set_option maxHeartbeats 1000000 in
set_option maxRecDepth 100000 in
theorem refParts_any (S : List Nat) (A : Option Addr) (c : Nat) (w : World) (hS : ArgIs w A c S) :
    Calls Try.prog 27 #[.slice A S.length c] w (ThreeEnd S w) := by
  have hD := refDecode_any S A c w hS
  go_enter Try.func27, Try.ntmps27
  go_wp2_with fail
  refine hD.mono ?_
  intro e w1 hh
  clear hD
  rcases hh.cases with ⟨t, A1, c1, A2, c2, hr, rfl, hJ, hb1⟩ | ⟨m, hr, hm, rfl, hb1⟩
  rotate_left
  · have hd : ((m : Int) != 0) = true := by rw [bne_iff_ne]; omega
    have HE : Hid (∀ o, ThreeEnd S w (.returned (.tuple #[.int .i64 0, nilS])) (w1.alloc o)) := fun o => ⟨below_alloc hb1 o, .inr ⟨fun n l h => (by
      obtain ⟨t, x, y, h1, _⟩ := h
      rw [hr] at h1
      cases h1), rfl⟩⟩
    clear hb1 hr hm hh
    go_wp2
    go_ret2
    exact HE.out _
  obtain ⟨N, eN⟩ : ∃ N, t.list.length = N := ⟨_, rfl⟩
  rw [eN] at hJ ⊢
  obtain ⟨W2, eW2⟩ : ∃ W2, W2 = w1.alloc (.cells #[.int .u8 (t.tag : Int), .slice A1 t.bytes.length c1, .slice A2 N c2] 60) := ⟨_, rfl⟩
  have hT : Lies W2 w1.heap.size 60 [.int .u8 (t.tag : Int), .slice A1 t.bytes.length c1, .slice A2 N c2] := by rw [eW2]; exact Lies.new_ rfl
  have hb12 : Below w1.heap.size w1 W2 := by rw [eW2]; exact (Below.refl _ _).alloc (Nat.le_refl _) _
  have hbw : Below w.heap.size w W2 := below_more hb1 hb12
  have hJ2 := hJ.on hb12
  have HW2 := Lib.hid eW2
  have HR := Lib.hid hr
  have HN := Lib.hid eN
  clear hh hJ hb1
  by_cases hN : N = 2
  rotate_left
  · have hd : ((N : Int) != 2) = true := by rw [bne_iff_ne]; omega
    have HE : Hid (ThreeEnd S w (.returned (.tuple #[.int .i64 0, nilS])) W2) := ⟨hbw, .inr ⟨fun n l h => by
      obtain ⟨t', x, y, h1, h2, _⟩ := h
      rw [HR.out] at h1
      injection h1 with h1
      rw [← h1] at h2
      exact hN (by rw [← HN.out, h2]; rfl), rfl⟩⟩
    rw [HW2.out] at HE
    clear hT hb12 hbw hJ2 eW2 hr eN hN
    go_wp2
    go_ret2
    exact HE.out
  subst hN
  obtain ⟨x, y, hlist⟩ : ∃ x y, t.list = [x, y] := by
    match hq : t.list, eN with
    | [x, y], _ => exact ⟨x, y, rfl⟩
    | [], h => simp at h
    | [_], h => simp at h
    | _ :: _ :: _ :: _, h => simp at h
  obtain ⟨bv, lv, etv, _, _, _, hLI⟩ := hJ2.parts
  simp only [Value.agg.injEq, Array.mk.injEq, List.cons.injEq, and_true] at etv
  obtain ⟨_, rfl, rfl⟩ := etv
  rw [hlist] at hLI
  obtain ⟨b, off, x', X1, d1, X2, d2, rfl, _, hblt, hx', hJx, s0, s1, s2⟩ := hLI.elem (i := 0) (by simp)
  obtain rfl : x = x' := by simpa using hx'
  obtain ⟨b', off', y', Y1, e1, Y2, e2, hbo, _, _, hy', hJy, t0, t1, t2⟩ := hLI.elem (i := 1) (by simp)
  obtain rfl : y = y' := by simpa using hy'
  injection hbo with hbo
  injection hbo with hbo1 hbo2
  subst hbo1 hbo2
  obtain ⟨M, eM⟩ : ∃ M, y.list.length = M := ⟨_, rfl⟩
  rw [eM] at t2 hJy
  have HM := Lib.hid eM
  have HLIST := Lib.hid hlist
  have HT := Lib.hid hT
  have HBW := Lib.hid hbw
  have HJX := Lib.hid hJx
  have HJY := Lib.hid hJy
  rw [Nat.zero_mul, Nat.add_zero] at s0 s1 s2
  rw [Nat.one_mul] at t0 t1 t2
  have HB := Lib.hid hblt
  have HC := Lib.hid (And.intro s1 (And.intro t2 trivial))
  rw [eW2] at s1 t2
  clear hr eN hT hb12 hbw hJ2 hlist hLI hx' hy' hJx hJy eM s0 s2 t0 t1 eW2 hblt
  by_cases h3 : M = 3
  rotate_left
  · have hd : ((M : Int) != 3) = true := by rw [bne_iff_ne]; omega
    have HE : Hid (ThreeEnd S w (.returned (.tuple #[.int .i64 0, nilS])) W2) := ⟨HBW.out, .inr ⟨fun n l h => by
      obtain ⟨t', x', y', h1, h2, h4, h5, _⟩ := h
      rw [HR.out] at h1
      injection h1 with h1
      rw [← h1, HLIST.out] at h2
      simp only [List.cons.injEq, and_true] at h2
      exact h3 (by rw [← HM.out, h2.2, h4, h5]), rfl⟩⟩
    rw [HW2.out] at HE
    clear h3 s1
    go_wp2
    go_ret2
    exact HE.out
  subst h3
  have hXA : ArgIs W2 X1 d1 x.bytes := by
    obtain ⟨_, _, ex, _, h1, h2, _⟩ := HJX.out.parts
    simp only [Value.agg.injEq, Array.mk.injEq, List.cons.injEq, and_true] at ex
    obtain ⟨_, rfl, _⟩ := ex
    exact h1.arg h2.2
  have hNum := refNumber_any x.bytes X1 d1 W2 hXA
  obtain ⟨m, ok, hnp⟩ : ∃ m ok, numberP x.bytes = (m, ok) := ⟨_, _, rfl⟩
  rw [hnp, HW2.out] at hNum
  have HNP := Lib.hid hnp
  clear hnp hXA
  go_wp2_with fail
  refine hNum.mono ?_
  rw [← HW2.out]
  rintro e w4 ⟨rfl, hb4⟩
  clear hNum s1 t2
  cases ok
  · have HE : Hid (ThreeEnd S w (.returned (.tuple #[.int .i64 0, nilS])) w4) := ⟨below_more HBW.out hb4, .inr ⟨fun n l h => by
      obtain ⟨t', x', y', h1, h2, h4, h5, h6⟩ := h
      rw [HR.out] at h1
      injection h1 with h1
      rw [← h1, HLIST.out] at h2
      simp only [List.cons.injEq, and_true] at h2
      rw [← h2.1, HNP.out] at h6
      simp at h6, rfl⟩⟩
    clear hb4
    go_wp2
    go_ret2
    exact HE.out
  have z2 := (HT.out.below hb4 HT.out.lt).cell 2
  simp only [List.getElem?_cons_zero, List.getElem?_cons_succ] at z2
  have t2 := (hb4.cell (p := ⟨b, off + 3 + 2, none⟩) HB.out).trans HC.out.2.1
  have HE : Hid (∀ w7, Below w4.heap.size w4 w7 → ThreeEnd S w (.returned (.tuple #[.int .i64 (m : Int), .slice Y2 3 e2])) w7) := by
    intro w7 hb7
    have hb47 := below_more hb4 hb7
    refine ⟨below_more HBW.out hb47, .inl ⟨m, y.list, Y2, e2, ⟨t, x, y, HR.out, HLIST.out, rfl, HM.out, HNP.out⟩, rfl, ?_⟩⟩
    obtain ⟨_, _, ex, _, _, _, h3⟩ := (HJY.out.on hb47).parts
    simp only [Value.agg.injEq, Array.mk.injEq, List.cons.injEq, and_true] at ex
    obtain ⟨_, _, rfl⟩ := ex
    exact h3.keep (fun _ h _ => ⟨h, rfl⟩) (Nat.le_refl _)
  clear hb4
  go_upto_region 7 with (fail)
  go_quiet (fail)
  go_wp2
  go_ret2
  exact HE.out _ (drewN_below _ _)
end Go.Proofs.Ytkjofadabaecfaa
