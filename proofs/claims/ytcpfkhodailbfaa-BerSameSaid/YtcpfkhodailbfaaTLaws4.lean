/-
  The law BerCuts over the contracts.
-/
import Derived.Test.YtcpfkhodailbfaaTLaws3
namespace Go.Proofs.Ytcpfkhodailbfaa
open Go.RowKit
variable {HO : World → Prop}

section
variable {ops : Array Oper} {rest : List Oper} {o : Oper} {a : Act} {Q : Exit → Act → World → Prop} {w : World}
theorem slice_upto_at (hgd : o.guard = none) (x y : Operand) (ho : o.op = .slice 22 x none (some y) none) (b off l c n : Nat) (hx : a.eval x = .slice (some ⟨b, off, none⟩) l c) (hy : a.eval y = .int .i64 n) (hn : n ≤ l) (hl : l ≤ c) (hc : 0 < c)
    (h : wpList Try.prog ops Q rest (a.put o.dst (.slice (some ⟨b, off, none⟩) n c)) w) : wpList Try.prog ops Q (o :: rest) a w := by
  refine wpList_plain hgd fun K hK => ?_
  have hr := run_slice_h (P := Try.prog) w 22 (some ⟨b, off, none⟩) l c Try.underlying22 .i64 n (by omega) (by omega)
  have hz := Try.sizeOf5
  have he : Try.prog.elem 22 = 5 := by kernel_rfl
  have hs : ∀ s, sliced (some ⟨b, off, none⟩) 0 ((n : Int)).toNat c s = .slice (some ⟨b, off, none⟩) n c := fun s => by
    unfold sliced
    rw [if_neg (by omega), Nat.zero_mul, Option.map_some, Addr.add_lit, Int.toNat_natCast]
    rfl
  rw [he] at hr
  simp only [hz, Result.andThen, hs] at hr
  unfold Oper.wp
  rw [execOp, ho]
  simp [hx, hy, run_sliceAt_slice (P := Try.prog) w 22 _ _ _ _ Try.underlying22, hr, Result.andThen]
  exact hK _ _ h
end

set_option maxHeartbeats 1000000 in
set_option maxRecDepth 100000 in
theorem lawCuts (B : BerOk HO) {ok : Nat → Prop} (v : Value) (t : Bq.T) (w : World) (hH : HO w) (hJ : IsT w ok v t) (n : Int) (hn : -9223372036854775808 ≤ n ∧ n ≤ 9223372036854775807) : Calls Try.prog 7 #[v, .int .i64 n] w (IsTrue w) := by
  obtain ⟨A1, c1, A2, c2, rfl⟩ := hJ.form
  obtain ⟨W0, eW0⟩ : ∃ W0, W0 = w.alloc (.cells #[.int .u8 (t.tag : Int), .slice A1 t.bytes.length c1, .slice A2 t.list.length c2] 25) := ⟨_, rfl⟩
  have hb0 : Below w.heap.size w W0 := by rw [eW0]; exact (Below.refl _ _).alloc (Nat.le_refl _) _
  have HL0 : Hid (Lies W0 w.heap.size 25 [.int .u8 (t.tag : Int), .slice A1 t.bytes.length c1, .slice A2 t.list.length c2]) := by unfold Hid; rw [eW0]; exact Lies.new_ rfl
  have hS := small_any t _ W0 (hJ.on hb0)
  rw [eW0] at hS
  have HJ := Lib.hid (hJ.on hb0)
  have HB := Lib.hid B
  have HH' := Lib.hid hH
  have HH := Lib.hid (B.keep _ _ hH hb0)
  have HBW := Lib.hid hb0
  have HE := Lib.hid eW0
  clear B hH hJ hb0 eW0
  go_enter Try.func7, Try.ntmps7
  go_wp2_with fail
  refine hS.mono ?_
  rintro e w1 ⟨⟨r, rfl⟩, hb1⟩
  clear hS
  rw [← HE.out] at hb1
  have hw1 := HB.out.keep _ _ HH.out hb1
  obtain ⟨⟨z0, z1, z2⟩, _⟩ := (HL0.out.below hb1 HL0.out.lt).three
  cases r
  · have hA := alive_of HB.out w1 hw1
    have HB1 := Lib.hid (below_more HBW.out hb1)
    clear hb1 hw1
    go_wp2_with fail
    refine hA.mono ?_
    rintro e w2 ⟨rfl, hb2⟩
    have HQ : Hid (IsTrue w (.returned (.bool true)) w2) := ⟨rfl, below_more HB1.out hb2⟩
    clear hA hb2 z0 z1 z2
    go_wp2
    go_ret
    exact HQ.out
  have hEn := HB.out.enc _ _ t w1 hw1 (HJ.out.on hb1)
  clear hw1
  go_wp2_with fail
  refine hEn.mono ?_
  intro e w2 hh
  clear hEn z0 z1 z2
  have HV := Lib.hid hh
  obtain ⟨A3, c3, rfl, hq, hb2⟩ := hh.view
  have hb12 := below_more hb1 hb2
  have hw2 := HB.out.keep _ _ HH.out hb12
  have HBW2 := Lib.hid (below_more HBW.out hb12)
  obtain ⟨L, eL⟩ : ∃ L, (outE (Bq.encode t)).1.length = L := ⟨_, rfl⟩
  obtain ⟨I, eI⟩ : ∃ I, (outE (Bq.encode t)).2 = I := ⟨_, rfl⟩
  by_cases hout : I ≠ 0 ∨ n < 0 ∨ (L : Int) ≤ n
  · have hdd : (I != 0) = true ∨ ((I != 0) = false ∧ (decide (n < 0) = true ∨ (decide (n < 0) = false ∧ decide ((L : Int) ≤ n) = true))) := by
      by_cases h1 : I = 0
      · refine .inr ⟨by simp [h1], ?_⟩
        by_cases h2 : n < 0
        · exact .inl (decide_eq_true h2)
        · exact .inr ⟨decide_eq_false h2, decide_eq_true (by omega)⟩
      · exact .inl (bne_iff_ne.2 h1)
    have hA := alive_of HB.out w2 hw2
    rw [eL, eI]
    clear hout hh HV hq eL eI hb1 hb2 hb12 hw2 HJ HL0 HE HH
    rcases hdd with d1 | ⟨d1, d2 | ⟨d2, d3⟩⟩
    all_goals
      go_wp2_with fail
      refine hA.mono ?_
      rintro e w3 ⟨rfl, hb3⟩
      have HF : Hid (IsTrue w (.returned (.bool true)) w3) := ⟨rfl, below_more HBW2.out hb3⟩
      clear hA hb3
      go_wp2
      go_ret
      exact HF.out
  obtain ⟨m, rfl⟩ : ∃ m : Nat, n = (m : Int) := ⟨n.toNat, by omega⟩
  have hI : I = 0 := by omega
  have hm : m < L := by omega
  subst hI
  have d3 : decide ((L : Int) ≤ (m : Int)) = false := decide_eq_false (by omega)
  obtain ⟨q, hen⟩ : ∃ q, Bq.encode t = .ok q := by
    rcases HV.out.cases with ⟨q, _, _, h, _⟩ | ⟨k, h, hk, _⟩
    · exact ⟨q, h⟩
    · rw [h] at eI; exact absurd eI (by show ¬ ((k : Int) = 0); omega)
  rw [hen] at eL hq
  have eL : q.length = L := eL
  have hq : ArgIs w2 A3 c3 q := hq
  obtain ⟨b, off, rfl, _⟩ := hq.2.2.2 (by omega)
  have hLc : L ≤ c3 := eL ▸ hq.1
  have hc0 : 0 < c3 := by omega
  have hml : m ≤ L := by omega
  have hcut := Bq.cut_none hen (n := m) (by omega) hq.2.2.1
  have hlen : (q.take m).length = m := by rw [List.length_take]; omega
  have hD := HB.out.dec (q.take m) _ c3 w2 hw2 (hq.take m)
  rw [hlen] at hD
  rw [hen]
  rw [show (outE (Except.ok q)).1 = q from rfl, show (outE (Except.ok q)).2 = 0 from rfl, eL]
  have HN : Hid (∀ e w3, DecEnd (Bq.decode (q.take m)) w2 e w3 → ∃ k : Nat, ((k : Int) != 0) = true ∧ e = .returned (.tuple #[tv 0 nilS nilS, .int .i64 (k : Int)]) ∧ Below w2.heap.size w2 w3) := fun e w3 h => by
    rcases h.cases with ⟨t', _, _, _, _, hr, _⟩ | ⟨k, _, hk, he, hb⟩
    · exact absurd hr (hcut t')
    · exact ⟨k, by rw [bne_iff_ne]; omega, he, hb⟩
  clear hh HV hq eI hb1 hb2 hb12 hw2 HJ HL0 HE HH hout eL hcut hlen hen
  repeat ((fail_if_success (with_reducible show wpList _ _ _ (⟨some 34, _, _, _, _, _⟩ :: _) _ _)); first | go_values | go_skip | go_guarded | go_step | go_upon | go_back | go_simp)
  with_reducible refine slice_upto_at rfl (.tmp 32) (.tmp 33) rfl b off L c3 m rfl rfl hml hLc hc0 ?_
  go_frame
  clear hml hLc hc0 hm hn
  go_wp2_with fail
  refine hD.mono ?_
  intro e w3 hh
  obtain ⟨k, hk, rfl, hb3⟩ := HN.out e w3 hh
  have hb4 := below_more HBW2.out hb3
  have hb5 := below_alloc hb4 (.cells #[.int .u8 0, nilS, nilS] 25)
  have hA := alive_of HB.out _ (HB.out.keep _ _ HH'.out hb5)
  clear hh hD hb3 hb4 HN
  go_wp2_with fail
  refine hA.mono ?_
  rintro e w4 ⟨rfl, hb6⟩
  have HF : Hid (IsTrue w (.returned (.bool true)) w4) := ⟨rfl, below_more hb5 hb6⟩
  clear hA hb5 hb6
  go_wp2
  go_ret
  exact HF.out
end Go.Proofs.Ytcpfkhodailbfaa
