/-
  The walk of the law PairsJoins.
-/
import Derived.Test.YticepagkbebhbaaDoorPLaws
namespace Go.Proofs.YticepagkbebhbaaDoor
open Go.RowKit

section
variable {ops : Array Oper} {rest : List Oper} {o : Oper} {a : Act} {Q : Exit → Act → World → Prop} {w : World}
/-- append onto a row of the call's own, where the guard holds. -/
theorem append_row_if (hw : Region.wanted o (yielded ops a.tmps) = true) (s x : Operand) (t e : TypeId) (z : Value) (size bytes : Nat)
    (ho : o.op = .call { callee := .builtin .append, args := #[s, x], argTypes := #[t, t] }) (ht : Tryd.prog.underlying t = some (.slice e))
    (hi : (Tryd.prog.info? e).map (fun i => (i.zero, i.size, i.bytes)) = some (some z, size, bytes)) (hz : z.cells.size = size) (hsz : 0 < size)
    (base : Nat) (v : Value) (n : Nat) (xs : List Value) (A : Addr) (m c : Nat) (us : List Value) (hown : w.ownsRow base e size v n xs) (hl : us.length = m * size) (hc : ∀ j u, us[j]? = some u → w.cell? (A.add j) = some u) (h1 : ∀ u ∈ us, u.oneCell' = true)
    (hs : a.eval s = v) (hx : a.eval x = .slice (some A) m c) (hb : (n + m) * bytes ≤ 140737488355328) (hm : n + m ≤ 140737488355328) (hbase : base ≤ w.heap.size)
    (hK : ∀ v' w', w'.ownsRow base e size v' (n + m) (xs ++ us) → w.grownBy w' v.ownBlock → wpList Tryd.prog ops Q rest (a.put o.dst v') w') : wpList Tryd.prog ops Q (o :: rest) a w := by
  refine wpList_step fun K hK' => ?_
  rw [if_pos hw]
  obtain ⟨i0, hi0, hz0, hz1, hz2⟩ := info_parts hi
  obtain ⟨v', w', hrun, h2, h3, _⟩ := run_append_own (P := Tryd.prog) w base t o.type e i0 z size bytes ht hi0 hz0 hz1 hz2 hz hsz v n xs hown A m c us hl hc h1 (by unfold maxLen; omega) hb hbase
  unfold Oper.wp
  simp [execOp, ho, resolve, invoke, builtin, hs, hx, hrun, Result.andThen]
  exact hK' _ _ (hK v' w' h2 h3)
end

theorem parse_pos {S : List Nat} {Y : List (List Nat × List Nat)} (h0 : S ≠ []) (h : Pq.parse S = some Y) : 0 < Y.length := by
  unfold Pq.parse at h
  split at h
  · cases h
  · split at h
    · cases h
    · rw [Pq.pairsOf_length h]; exact Pq.parts_pos S
theorem nums_join (s t : ByteArray) : numsOf (s ++ { data := #[38] } ++ t) = numsOf s ++ 38 :: numsOf t := by
  simp [numsOf]
theorem row_add {w : World} {b off : Nat} {cs : List Value} (h : ∀ j v, cs[j]? = some v → w.cell? ⟨b, off + j, none⟩ = some v) : ∀ j u, cs[j]? = some u → w.cell? ((⟨b, off, none⟩ : Addr).add j) = some u := fun j u hj => by
  rw [Addr.add_lit]; exact h j u hj

set_option maxHeartbeats 400000 in
set_option maxRecDepth 100000 in
theorem lawJoins_out (s t : ByteArray) (w : World) (hs : s.size ≤ 140737488351232) (ht : t.size ≤ 140737488351232) (h : s.toList = [] ∨ t.toList = [] ∨ 2000 < s.size ∨ 2000 < t.size) :
    Calls Tryd.prog 10 #[.string s, .string t] w fun e w' => e = .returned (.bool true) ∧ Below w.heap.size w w' := by
  have hA := alive_any w
  by_cases s0 : s.toList = []
  · clear h
    go_enter Tryd.func10, Tryd.ntmps10
    go_wp2_with fail
    refine hA.mono ?_
    rintro e w1 ⟨rfl, hb1⟩
    go_wp2
    go_ret
    exact ⟨rfl, hb1⟩
  · have s1 : s.toList.isEmpty = false := by rw [List.isEmpty_eq_false_iff]; exact s0
    by_cases t0 : t.toList = []
    · clear h
      go_enter Tryd.func10, Tryd.ntmps10
      go_wp2_with fail
      refine hA.mono ?_
      rintro e w1 ⟨rfl, hb1⟩
      go_wp2
      go_ret
      exact ⟨rfl, hb1⟩
    · have t1 : t.toList.isEmpty = false := by rw [List.isEmpty_eq_false_iff]; exact t0
      by_cases hls : 2000 < s.size
      · have hd : decide ((2000 : Int) < (s.size : Int)) = true := decide_eq_true (by omega)
        clear h
        go_enter Tryd.func10, Tryd.ntmps10
        go_wp2_with fail
        refine hA.mono ?_
        rintro e w1 ⟨rfl, hb1⟩
        go_wp2
        go_ret
        exact ⟨rfl, hb1⟩
      · have hd : decide ((2000 : Int) < (s.size : Int)) = false := decide_eq_false (by omega)
        have hlt : 2000 < t.size := by
          rcases h with h | h | h | h
          · exact absurd h s0
          · exact absurd h t0
          · exact absurd h hls
          · exact h
        have hd2 : decide ((2000 : Int) < (t.size : Int)) = true := decide_eq_true (by omega)
        clear h
        go_enter Tryd.func10, Tryd.ntmps10
        go_wp2_with fail
        refine hA.mono ?_
        rintro e w1 ⟨rfl, hb1⟩
        go_wp2
        go_ret
        exact ⟨rfl, hb1⟩

set_option maxHeartbeats 2000000 in
set_option maxRecDepth 100000 in
theorem lawJoins (s t : ByteArray) (w : World) (hs : s.size ≤ 140737488351232) (ht : t.size ≤ 140737488351232) :
    Calls Tryd.prog 10 #[.string s, .string t] w fun e w' => e = .returned (.bool true) ∧ Below w.heap.size w w' := by
  by_cases hout : s.toList = [] ∨ t.toList = [] ∨ 2000 < s.size ∨ 2000 < t.size
  · exact lawJoins_out s t w hs ht hout
  · have s0 : ¬ s.toList = [] := fun h => hout (.inl h)
    have t0 : ¬ t.toList = [] := fun h => hout (.inr (.inl h))
    have hs2 : s.size ≤ 2000 := by omega
    have ht2 : t.size ≤ 2000 := by omega
    have s1 : s.toList.isEmpty = false := by rw [List.isEmpty_eq_false_iff]; exact s0
    have t1 : t.toList.isEmpty = false := by rw [List.isEmpty_eq_false_iff]; exact t0
    have d1 : decide ((2000 : Int) < (s.size : Int)) = false := decide_eq_false (by omega)
    have d2 : decide ((2000 : Int) < (t.size : Int)) = false := decide_eq_false (by omega)
    have hJ := Pq.parse_join (s := numsOf s) (t := numsOf t) (fun h => s0 ((empty_iff s).2 h)) (fun h => t0 ((empty_iff t).2 h)) (by rw [numsOf_length]; exact hs2) (by rw [numsOf_length]; exact ht2)
    have hP1 := parse_any s w hs
    have hP2 := fun w => parse_any t w ht
    have hP3 := fun w => parse_any (s ++ { data := #[38] } ++ t) w (by rw [ByteArray.size_append, ByteArray.size_append]; show s.size + 1 + t.size ≤ _; omega)
    unfold ParseEnd at hP1 hP2 hP3
    simp only [nums_join] at hP3
    have hf1 := parse_fine (numsOf_lt s)
    have hf2 := parse_fine (numsOf_lt t)
    have hn1 := @Pq.parse_length (numsOf s)
    have hn2 := @Pq.parse_length (numsOf t)
    have hp1 := fun Y => @parse_pos (numsOf s) Y (fun h => s0 ((empty_iff s).2 h))
    have hp2 := fun Y => @parse_pos (numsOf t) Y (fun h => t0 ((empty_iff t).2 h))
    generalize Pq.parse (numsOf s) = p1 at *
    generalize Pq.parse (numsOf t) = p2 at *
    generalize Pq.parse (numsOf s ++ 38 :: numsOf t) = p3 at *
    clear hout hs ht
    cases p1 with
    | none =>
      obtain rfl : p3 = none := by rw [hJ]
      simp only [Option.getD_none, Option.isSome_none, List.length_nil] at hP1 hP3
      cases p2B : p2.isSome
      all_goals
        simp only [p2B] at hP2
        generalize p2.getD [] = Y2 at *
        generalize Y2.length = n2 at *
        clear hJ hf1 hf2 hn1 hn2 p2B hp1 hp2
        go_enter Tryd.func10, Tryd.ntmps10
        go_wp2_with fail
        refine hP1.mono ?_
        rintro e w1 ⟨A1, c1, rfl, _, _, _, hb1⟩
        go_wp2_with fail
        refine (hP2 w1).mono ?_
        rintro e w2 ⟨A2, c2, rfl, _, _, _, hb2⟩
        have hb02 := hb1.trans (hb2.mono hb1.size)
        clear hb1 hb2 hP1 hP2
        go_wp2_with fail
        refine (hP3 w2).mono ?_
        rintro e w3 ⟨A3, c3, rfl, _, _, _, hb3⟩
        have hb03 := hb02.trans (hb3.mono hb02.size)
        clear hb02 hb3 hP3
        go_wp2_with fail
        refine (alive_any w3).mono ?_
        rintro e w4 ⟨rfl, hb4⟩
        have hb04 := hb03.trans (hb4.mono hb03.size)
        clear hb03 hb4
        go_wp2
        go_ret
        exact ⟨rfl, hb04⟩
    | some Y1 =>
      have hY1 := hn1 rfl
      have hpos1 := hp1 Y1 rfl
      simp only [Option.getD_some, Option.isSome_some] at hP1 hf1
      cases p2 with
      | none =>
        obtain rfl : p3 = none := by rw [hJ]
        simp only [Option.getD_none, Option.isSome_none, List.length_nil] at hP2 hP3
        generalize Y1.length = n1 at *
        clear hJ hf1 hf2 hn1 hn2 hp1 hp2
        go_enter Tryd.func10, Tryd.ntmps10
        go_wp2_with fail
        refine hP1.mono ?_
        rintro e w1 ⟨A1, c1, rfl, hr1, _, _, hb1⟩
        go_wp2_with fail
        refine (hP2 w1).mono ?_
        rintro e w2 ⟨A2, c2, rfl, hr2, _, _, hb2⟩
        have hr12 := hr1.below hb2 (Nat.le_refl _)
        have hb02 := hb1.trans (hb2.mono hb1.size)
        clear hb1 hb2 hP1 hP2 hr1
        go_wp2_with fail
        refine (hP3 w2).mono ?_
        rintro e w3 ⟨A3, c3, rfl, hr3, _, _, hb3⟩
        have hr13 := hr12.below hb3 (Nat.le_refl _)
        have hr23 := hr2.below hb3 (Nat.le_refl _)
        have hb03 := hb02.trans (hb3.mono hb02.size)
        clear hb02 hb3 hP3 hr12 hr2
        go_wp2_with fail
        refine (alive_any w3).mono ?_
        rintro e w4 ⟨rfl, hb4⟩
        have hr14 := hr13.below hb4 (Nat.le_refl _)
        have hr24 := hr23.below hb4 (Nat.le_refl _)
        have hr34 := hr3.below hb4 (Nat.le_refl _)
        have hb04 := hb03.trans (hb4.mono hb03.size)
        clear hb03 hb4 hr13 hr23 hr3
        clear hr14 hr24 hr34
        go_wp2
        go_ret
        exact ⟨rfl, hb04⟩
      | some Y2 =>
        have hY2 := hn2 rfl
        have hpos2 := hp2 Y2 rfl
        simp only [Option.getD_some, Option.isSome_some] at hP2 hf2
        by_cases h32 : 32 < Y1.length + Y2.length
        · obtain rfl : p3 = none := by rw [hJ]; simp only [if_pos h32]
          simp only [Option.getD_none, Option.isSome_none, List.length_nil] at hP3
          generalize Y1.length = n1 at *
          generalize Y2.length = n2 at *
          have d3 : decide ((32 : Int) - (n2 : Int) < (n1 : Int)) = true := decide_eq_true (by omega)
          clear hJ hf1 hf2 hn1 hn2 hp1 hp2
          go_enter Tryd.func10, Tryd.ntmps10
          go_wp2_with fail
          refine hP1.mono ?_
          rintro e w1 ⟨A1, c1, rfl, hr1, _, _, hb1⟩
          go_wp2_with fail
          refine (hP2 w1).mono ?_
          rintro e w2 ⟨A2, c2, rfl, hr2, _, _, hb2⟩
          have hr12 := hr1.below hb2 (Nat.le_refl _)
          have hb02 := hb1.trans (hb2.mono hb1.size)
          clear hb1 hb2 hP1 hP2 hr1
          go_wp2_with fail
          refine (hP3 w2).mono ?_
          rintro e w3 ⟨A3, c3, rfl, hr3, _, _, hb3⟩
          have hr13 := hr12.below hb3 (Nat.le_refl _)
          have hr23 := hr2.below hb3 (Nat.le_refl _)
          have hb03 := hb02.trans (hb3.mono hb02.size)
          clear hb02 hb3 hP3 hr12 hr2
          go_wp2_with fail
          refine (alive_any w3).mono ?_
          rintro e w4 ⟨rfl, hb4⟩
          have hr14 := hr13.below hb4 (Nat.le_refl _)
          have hr24 := hr23.below hb4 (Nat.le_refl _)
          have hr34 := hr3.below hb4 (Nat.le_refl _)
          have hb04 := hb03.trans (hb4.mono hb03.size)
          clear hb03 hb4 hr13 hr23 hr3
          clear hr14 hr24 hr34
          go_wp2
          go_ret
          exact ⟨rfl, hb04⟩
        · obtain rfl : p3 = some (Y1 ++ Y2) := by rw [hJ]; simp only [if_neg h32]
          have hfj : Pq.Fine (Y1 ++ Y2) := fun p hp => (List.mem_append.1 hp).elim (hf1 p) (hf2 p)
          have hS := fun A B cA cB w hA hB => same_any (Y1 ++ Y2) (Y1 ++ Y2) A B cA cB w hA hB hfj hfj (by rw [List.length_append]; omega)
          rw [decide_eq_true rfl] at hS
          simp only [Option.getD_some, Option.isSome_some, List.length_append] at hP3 hS
          obtain ⟨n1, en1⟩ : ∃ n, Y1.length = n := ⟨_, rfl⟩
          obtain ⟨n2, en2⟩ : ∃ n, Y2.length = n := ⟨_, rfl⟩
          have HN1 := Lib.hid en1
          have HN2 := Lib.hid en2
          rw [en1] at hY1 hpos1 h32
          rw [en2] at hY2 hpos2 h32
          simp only [en1, en2] at hP1 hP2 hP3 hS
          have HS := Lib.hid hS
          have d3 : decide ((32 : Int) - (n2 : Int) < (n1 : Int)) = false := decide_eq_false (by omega)
          clear hJ hf1 hf2 hn1 hn2 hp1 hp2 en1 en2 hS hfj
          go_enter Tryd.func10, Tryd.ntmps10
          go_wp2_with fail
          refine hP1.mono ?_
          rintro e w1 ⟨A1, c1, rfl, hr1, _, _, hb1⟩
          go_wp2_with fail
          refine (hP2 w1).mono ?_
          rintro e w2 ⟨A2, c2, rfl, hr2, _, _, hb2⟩
          have hr12 := hr1.below hb2 (Nat.le_refl _)
          have hb02 := hb1.trans (hb2.mono hb1.size)
          clear hb1 hb2 hP1 hP2 hr1
          go_wp2_with fail
          refine (hP3 w2).mono ?_
          rintro e w3 ⟨A3, c3, rfl, hr3, _, _, hb3⟩
          have hr13 := hr12.below hb3 (Nat.le_refl _)
          have hr23 := hr2.below hb3 (Nat.le_refl _)
          have hb03 := hb02.trans (hb3.mono hb02.size)
          clear hb02 hb3 hP3 hr12 hr2
          go_wp2_with fail
          refine (alive_any w3).mono ?_
          rintro e w4 ⟨rfl, hb4⟩
          have hr14 := hr13.below hb4 (Nat.le_refl _)
          have hr24 := hr23.below hb4 (Nat.le_refl _)
          have hr34 := hr3.below hb4 (Nat.le_refl _)
          have hb04 := hb03.trans (hb4.mono hb03.size)
          clear hb03 hb4 hr13 hr23 hr3
          obtain ⟨b1, o1, rfl, hw1, hc1⟩ := hr14 (by rw [pcells_length]; have := HN1.out; have := HN2.out; omega)
          obtain ⟨b2, o2, rfl, hw2, hc2⟩ := hr24 (by rw [pcells_length]; have := HN1.out; have := HN2.out; omega)
          have HC1 := Lib.hid hc1
          have HC2 := Lib.hid hc2
          have hown0 : (w4.alloc (.cells #[] 39)).ownsRow w4.heap.size 39 2 (.slice (some ⟨w4.heap.size, 0, none⟩) 0 0) 0 [] := ⟨rfl, .inr ⟨w4.heap.size, 0, #[], rfl, Nat.le_refl _, heap_alloc_new w4 _, Nat.le_refl _, Nat.zero_le _, rfl, rfl⟩⟩
          have hbx : Below w4.heap.size w4 (w4.alloc (.cells #[] 39)) := (Below.refl _ _).alloc (Nat.le_refl _) _
          clear hc1 hc2 hr14 hr24
          repeat ((fail_if_success (with_reducible show wpList _ _ _ (⟨some 73, _, _, _, _, _⟩ :: _) _ _)); first | go_values | go_skip | go_guarded | go_step | go_upon | go_back | go_simp)
          with_reducible refine append_row_if ?c0 (.tmp 71) (.tmp 72) 28 39 (.agg #[.string ByteArray.empty, .string ByteArray.empty]) 2 32 rfl Tryd.underlying28 infoPair rfl (by decide) w4.heap.size _ 0 _ ⟨b1, o1, none⟩ n1 c1 (pcells Y1) hown0 ?c1 ?c2 ?c3 ?c4 ?c5 ?c6 ?c7 ?c8 ?_
          case c0 => rfl
          case c1 => rw [pcells_length, HN1.out]
          case c2 => exact row_add fun j v hj => (hbx.cell (p := ⟨b1, o1 + j, none⟩) hw1).trans (HC1.out j v hj)
          case c3 => exact pcells_one _
          case c4 => rfl
          case c5 => rfl
          case c6 => omega
          case c7 => omega
          case c8 => simp
          intro v5 w5 hown5 hgr5
          have hbx5 : Below w4.heap.size w4 w5 := hbx.grown hgr5 (by simp) (own_ge hown0)
          rw [Nat.zero_add, List.nil_append] at hown5
          clear hgr5 hown0 hbx
          go_frame
          repeat ((fail_if_success (with_reducible show wpList _ _ _ (⟨some 75, _, _, _, _, _⟩ :: _) _ _)); first | go_values | go_skip | go_guarded | go_step | go_upon | go_back | go_simp)
          with_reducible refine append_row_if ?d0 (.tmp 73) (.tmp 74) 28 39 (.agg #[.string ByteArray.empty, .string ByteArray.empty]) 2 32 rfl Tryd.underlying28 infoPair rfl (by decide) w4.heap.size _ n1 _ ⟨b2, o2, none⟩ n2 c2 (pcells Y2) hown5 ?d1 ?d2 ?d3 ?d4 ?d5 ?d6 ?d7 ?d8 ?_
          case d0 => rfl
          case d1 => rw [pcells_length, HN2.out]
          case d2 => exact row_add fun j v hj => (hbx5.cell (p := ⟨b2, o2 + j, none⟩) hw2).trans (HC2.out j v hj)
          case d3 => exact pcells_one _
          case d4 => rfl
          case d5 => rfl
          case d6 => omega
          case d7 => omega
          case d8 => exact hbx5.size
          intro v6 w6 hown6 hgr6
          have hbx6 : Below w4.heap.size w4 w6 := hbx5.grown hgr6 hbx5.size (own_ge hown5)
          rw [← pcells_append] at hown6
          obtain ⟨A6, c6, rfl⟩ := own_slice hown6
          have hr6 := Row.own hown6
          have hr36 := hr34.below hbx6 (Nat.le_refl _)
          have hb06 := hb04.trans (hbx6.mono hb04.size)
          clear hgr6 hown5 hown6 hbx5 hbx6 hr34 hb04 HC1 HC2
          go_frame
          go_wp2_with fail
          refine (HS.out A3 A6 c3 c6 w6 hr36 hr6).mono ?_
          rintro e w7 ⟨rfl, hb7⟩
          have hb07 := hb06.trans (hb7.mono hb06.size)
          clear hb06 hb7 hr36 hr6 HS
          go_wp2
          go_ret
          exact ⟨rfl, hb07⟩
end Go.Proofs.YticepagkbebhbaaDoor
