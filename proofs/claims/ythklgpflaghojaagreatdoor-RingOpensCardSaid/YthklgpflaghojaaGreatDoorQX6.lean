/-
  QX6: JRNumber, side by side.
-/
import Derived.Test.YthklgpflaghojaaGreatDoorQX4

/-
  The document's number.
-/
namespace Go.Proofs.YthklgpflaghojaaGreatDoor
open Go.RowKit

/-- What holds at each round of number's loop. -/
def NumRel (s : ByteArray) (p : Nat) (W0 : World) (i' n' : Value) (wr : World) : Prop :=
  ∃ k n : Nat, i' = .int .i64 k ∧ n' = .int .i64 n ∧ p ≤ k ∧ k ≤ s.size ∧ n ≤ 90071992547409929 ∧ Hid (DigAt (numsOf s) p (k - p) n) ∧ wr = W0
theorem dig_next {s : ByteArray} {p k n c : Nat} (h : DigAt (numsOf s) p (k - p) n) (hpk : p ≤ k) (hc : (numsOf s).getD k 0 = c) (hd : Jq.dig c = true) : k < s.size ∧ 48 ≤ c ∧ c ≤ 57 ∧ DigAt (numsOf s) p (k + 1 - p) (n * 10 + (c - 48)) := by
  obtain ⟨h1, h2⟩ := h.step (c := c) (by rw [show p + (k - p) = k from by omega]; exact hc) hd
  rw [numsOf_length] at h1
  have h3 := (Jq.dig_iff c).1 hd
  rw [show k - p + 1 = k + 1 - p from by omega] at h2
  exact ⟨by omega, h3.1, h3.2, h2⟩

set_option maxHeartbeats 4000000 in
set_option maxRecDepth 100000 in
theorem refNumber_minus (s : ByteArray) (i : Nat) (hi : i < s.size) (hs : s.size ≤ 4096) (w : World) (hm : (numsOf s).getD i 0 = 45) :
    Calls Tryz.prog 106 #[.string s, .int .i64 i] w (GotEnd (numsOf s) i (Jq.number ((numsOf s).drop i)) w) := by
  obtain ⟨RES, eRES⟩ : ∃ RES, Jq.number ((numsOf s).drop i) = RES := ⟨_, rfl⟩
  rw [eRES]
  obtain ⟨p, ep⟩ : ∃ p, i + 1 = p := ⟨_, rfl⟩
  obtain ⟨RN, eRN⟩ : ∃ RN, numVOf true ((numsOf s).drop p) = RN := ⟨_, rfl⟩
  have hR : RES = RN.map fun q => (Jq.intJ q.1, q.2) := by
    rw [← eRES, number_V, ← eRN, ← ep]
    unfold numV
    rw [if_pos ((head_drop (by decide)).2 hm), List.drop_drop]
  obtain ⟨W0, eW0⟩ : ∃ W0, W0 = w.alloc (.cells zero8.toArray 117) := ⟨_, rfl⟩
  have hb0 : Below w.heap.size w W0 := by rw [eW0]; exact (Below.refl _ _).alloc (Nat.le_refl _) _
  have hl0 : Lies W0 w.heap.size 117 zero8 := by rw [eW0]; exact Lies.new_ rfl
  have Hlen := Lib.hid (numsOf_length s)
  have hpi : p ≤ s.size ∧ i ≤ p := by omega
  obtain ⟨hps, hip⟩ := hpi
  have HNO : Hid (RN = .error 52 → GotEnd (numsOf s) i RES w (.returned (errV 52)) (putErr W0 w.heap.size 52)) := fun h => got_no (n := 52) (by rw [hR, h]; rfl) rfl (by decide) hb0
  have HOK : Hid (∀ (q : Int) (k : Nat), RN = .ok (q, (numsOf s).drop k) → k ≤ s.size → p ≤ k → -9223372036854775808 ≤ q ∧ q ≤ 9223372036854775807 → GotEnd (numsOf s) i RES w (.returned (gotV 2 false q ByteArray.empty nilS nilS k 0)) (put8 W0 w.heap.size (.int .i64 2) (.bool false) (.int .i64 q) (.string { data := #[] }) nilS nilS (.int .i64 k) (.int .i64 0))) := fun q k h hk hpk hq =>
    got_ok (x := .mk 2 false q [] [] []) (C := w.heap.size + 1) (r := (numsOf s).drop k) (j := k) (A1 := none) (A2 := none) (c1 := 0) (c2 := 0) (by rw [hR, h]; rfl) (isJ_plain _ _ (k := 2) (n := q) (b := false) (t := []) (by decide) hq ⟨Nat.zero_le _, fun _ h => nomatch h⟩) (Nat.lt_succ_self _) rfl (by rw [Hlen.out]; exact hk) (by omega) hb0
  have HZE := Lib.hid (put8_lies (a := .int .i64 0) (b := .bool false) (c := .int .i64 0) (d := .string { data := #[] }) (e := nilS) (f := nilS) (h := .int .i64 0) (k := .int .i64 52) hl0)
  have HZK : Hid (∀ (q : Int) (k : Nat), Lies (put8 W0 w.heap.size (.int .i64 2) (.bool false) (.int .i64 q) (.string { data := #[] }) nilS nilS (.int .i64 k) (.int .i64 0)) w.heap.size 117 _) := fun q k => put8_lies hl0
  have HRN := Lib.hid eRN
  have HL0 := Lib.hid hl0
  have HW0 := Lib.hid eW0
  have hA0 := at_any s i W0
  obtain ⟨c0, ec0⟩ : ∃ c0, (numsOf s).getD i 0 = c0 := ⟨_, rfl⟩
  rw [ec0] at hA0 hm
  have hA0' := hA0
  rw [eW0] at hA0
  subst hm
  have hpe : (i : Int) + 1 = (p : Int) := by omega
  clear eRES hR hb0 hl0 eRN eW0 ec0 hA0'
  go_enter Tryz.func106, Tryz.ntmps106
  go_wp2_with fail
  refine hA0.mono ?_
  rintro e w1 ⟨rfl, rfl⟩
  rw [← HW0.out]
  clear hA0
  go_wp2_with fail
  go_loopw [1, 7] (fun i' n' wr => NumRel s p W0 i' n' wr) (fun i' _ _ => s.size - (intOf i').toNat)
  case atStart => exact ⟨p, 0, rfl, rfl, Nat.le_refl _, hps, Nat.zero_le _, Lib.hid (by rw [Nat.sub_self]; exact DigAt.zero _ _), rfl⟩
  case round =>
    obtain ⟨k, n, rfl, rfl, hpk, hks, hn, hdig, rfl⟩ := hrel
    have hA := at_any s k wr
    have hlt := nums_lt s k
    obtain ⟨c, ec⟩ : ∃ c, (numsOf s).getD k 0 = c := ⟨_, rfl⟩
    rw [ec] at hA hlt
    have hD := digit_any c hlt wr
    have EC := Lib.hid ec
    clear ec
    cases hdg : Jq.dig c with
    | true =>
      rw [hdg] at hD
      obtain ⟨q1, q2, q3, q4⟩ := dig_next hdig.out hpk EC.out hdg
      have HQ4 := Lib.hid q4
      by_cases htop : n ≤ 9007199254740991
      · have dt : decide ((n : Int) ≤ 9007199254740991) = true := decide_eq_true (by omega)
        have hx : s[k].toNat = c := by rw [← nums_at s k q1, EC.out]
        have hnn : (n : Int) * 10 + (c : Int) - 48 = ((n * 10 + (c - 48) : Nat) : Int) := by omega
        have HNN := Lib.hid hnn
        have hb1 : n * 10 + (c - 48) ≤ 90071992547409929 := by omega
        clear hdg q4 hnn
        go_wp2_with fail
        refine hA.mono ?_
        rintro e w1 ⟨rfl, rfl⟩
        go_wp2_with fail
        refine hD.mono ?_
        rintro e w1 ⟨rfl, rfl⟩
        clear hA hD
        go_wp2
        go_roundw
        case rel => exact ⟨k + 1, n * 10 + (c - 48), by go_num, by first | rw [← HNN.out] | (rw [hx, ← HNN.out]) | (simp [hx]; omega), by omega, q1, hb1, HQ4, rfl⟩
        case measure => simp [intOf]; omega
      · have dt : decide ((n : Int) ≤ 9007199254740991) = false := decide_eq_false (by omega)
        have dt2 : decide ((9007199254740991 : Int) < (n : Int)) = true := decide_eq_true (by omega)
        have hj0 : k ≠ p := fun e => by
          have h0 := hdig.out.2
          rw [e, Nat.sub_self] at h0
          have : n = 0 := h0
          omega
        have dj : ((k : Int) == (p : Int)) = false := by rw [beq_eq_false_iff_ne]; omega
        have HE := Lib.hid (HNO.out (HRN.out.symm.trans (hdig.out.big (by omega))))
        obtain ⟨⟨z0, z1, z2, z3, z4, z5, z6, z7⟩, f0, f1, f2, f3, f4, f5, f6, f7⟩ := HL0.out.eight
        clear hdg q4 hj0 htop
        go_wp2_with fail
        refine hA.mono ?_
        rintro e w1 ⟨rfl, rfl⟩
        go_wp2_with fail
        refine hD.mono ?_
        rintro e w1 ⟨rfl, rfl⟩
        go_wp2_with fail
        refine hA.mono ?_
        rintro e w1 ⟨rfl, rfl⟩
        clear hA hD
        go_wp2
        refine bodyPost_ret (v := errV 52) ?_ rfl ?_
        · have hz := HZE.out
          unfold put8 at hz
          generalize World.setCell (World.setCell (World.setCell (World.setCell (World.setCell (World.setCell (World.setCell (World.setCell wr _ _) _ _) _ _) _ _) _ _) _ _) _ _) _ _ = w9 at hz ⊢
          obtain ⟨⟨z0, z1, z2, z3, z4, z5, z6, z7⟩, _⟩ := hz.eight
          simp [results, Tryz.results106, go_sem, z0, z1, z2, z3, z4, z5, z6, z7] <;> rfl
        · exact HE.out
    | false =>
      rw [hdg] at hD
      obtain ⟨f, ef⟩ : ∃ f, (numsOf s).getD p 0 = f := ⟨_, rfl⟩
      have hDone := dig_done (m := true) (c := c) (f := f) hdig.out (by rw [show p + (k - p) = k from by omega]; exact EC.out) hdg ef
      rw [HRN.out, show p + (k - p) = k from by omega] at hDone
      obtain ⟨hBad, hGood⟩ := hDone
      have HBAD := Lib.hid hBad
      have HGOOD := Lib.hid hGood
      have EF := Lib.hid ef
      clear hBad hGood hdg ef
      obtain ⟨⟨z0, z1, z2, z3, z4, z5, z6, z7⟩, f0, f1, f2, f3, f4, f5, f6, f7⟩ := HL0.out.eight
      by_cases hj0 : k = p
      · have HE := Lib.hid (HNO.out (HBAD.out (.inl (by omega))))
        have dj : ((k : Int) == (p : Int)) = true := by rw [hj0]; simp
        clear hj0
        clear z0 z1 z2 z3 z4 z5 z6 z7
        obtain ⟨⟨z0, z1, z2, z3, z4, z5, z6, z7⟩, _⟩ := HL0.out.eight
        go_wp2_with fail
        refine hA.mono ?_
        rintro e w1 ⟨rfl, rfl⟩
        go_wp2_with fail
        refine hD.mono ?_
        rintro e w1 ⟨rfl, rfl⟩
        go_wp2_with fail
        refine hA.mono ?_
        rintro e w1 ⟨rfl, rfl⟩
        clear hA hD
        go_wp2
        refine bodyPost_ret (v := errV 52) ?_ rfl ?_
        · have hz := HZE.out
          unfold put8 at hz
          generalize World.setCell (World.setCell (World.setCell (World.setCell (World.setCell (World.setCell (World.setCell (World.setCell wr _ _) _ _) _ _) _ _) _ _) _ _) _ _) _ _ = w9 at hz ⊢
          obtain ⟨⟨z0, z1, z2, z3, z4, z5, z6, z7⟩, _⟩ := hz.eight
          simp [results, Tryz.results106, go_sem, z0, z1, z2, z3, z4, z5, z6, z7] <;> rfl
        · exact HE.out
      have dj : ((k : Int) == (p : Int)) = false := by rw [beq_eq_false_iff_ne]; omega
      by_cases ht : 9007199254740991 < n
      · have HE := Lib.hid (HNO.out (HBAD.out (.inr (.inl ht))))
        have dt : decide ((9007199254740991 : Int) < (n : Int)) = true := decide_eq_true (by omega)
        clear ht
        clear z0 z1 z2 z3 z4 z5 z6 z7
        obtain ⟨⟨z0, z1, z2, z3, z4, z5, z6, z7⟩, _⟩ := HL0.out.eight
        go_wp2_with fail
        refine hA.mono ?_
        rintro e w1 ⟨rfl, rfl⟩
        go_wp2_with fail
        refine hD.mono ?_
        rintro e w1 ⟨rfl, rfl⟩
        go_wp2_with fail
        refine hA.mono ?_
        rintro e w1 ⟨rfl, rfl⟩
        clear hA hD
        go_wp2
        refine bodyPost_ret (v := errV 52) ?_ rfl ?_
        · have hz := HZE.out
          unfold put8 at hz
          generalize World.setCell (World.setCell (World.setCell (World.setCell (World.setCell (World.setCell (World.setCell (World.setCell wr _ _) _ _) _ _) _ _) _ _) _ _) _ _) _ _ = w9 at hz ⊢
          obtain ⟨⟨z0, z1, z2, z3, z4, z5, z6, z7⟩, _⟩ := hz.eight
          simp [results, Tryz.results106, go_sem, z0, z1, z2, z3, z4, z5, z6, z7] <;> rfl
        · exact HE.out
      have dt : decide ((9007199254740991 : Int) < (n : Int)) = false := decide_eq_false (by omega)
      by_cases hn0 : n = 0
      · have HE := Lib.hid (HNO.out (HBAD.out (.inr (.inr (.inl ⟨rfl, hn0⟩)))))
        have dn : ((n : Int) == 0) = true := by rw [hn0]; rfl
        clear hn0
        clear z0 z1 z2 z3 z4 z5 z6 z7
        obtain ⟨⟨z0, z1, z2, z3, z4, z5, z6, z7⟩, _⟩ := HL0.out.eight
        go_wp2_with fail
        refine hA.mono ?_
        rintro e w1 ⟨rfl, rfl⟩
        go_wp2_with fail
        refine hD.mono ?_
        rintro e w1 ⟨rfl, rfl⟩
        go_wp2_with fail
        refine hA.mono ?_
        rintro e w1 ⟨rfl, rfl⟩
        clear hA hD
        go_wp2
        refine bodyPost_ret (v := errV 52) ?_ rfl ?_
        · have hz := HZE.out
          unfold put8 at hz
          generalize World.setCell (World.setCell (World.setCell (World.setCell (World.setCell (World.setCell (World.setCell (World.setCell wr _ _) _ _) _ _) _ _) _ _) _ _) _ _) _ _ = w9 at hz ⊢
          obtain ⟨⟨z0, z1, z2, z3, z4, z5, z6, z7⟩, _⟩ := hz.eight
          simp [results, Tryz.results106, go_sem, z0, z1, z2, z3, z4, z5, z6, z7] <;> rfl
        · exact HE.out
      have dn : ((n : Int) == 0) = false := by rw [beq_eq_false_iff_ne]; omega
      by_cases h46 : c = 46
      · have HE := Lib.hid (HNO.out (HBAD.out (.inr (.inr (.inr (.inl h46))))))
        have dc46 : ((c : Int) == 46) = true := by rw [beq_iff_eq]; omega
        clear h46
        clear z0 z1 z2 z3 z4 z5 z6 z7
        obtain ⟨⟨z0, z1, z2, z3, z4, z5, z6, z7⟩, _⟩ := HL0.out.eight
        go_wp2_with fail
        refine hA.mono ?_
        rintro e w1 ⟨rfl, rfl⟩
        go_wp2_with fail
        refine hD.mono ?_
        rintro e w1 ⟨rfl, rfl⟩
        go_wp2_with fail
        refine hA.mono ?_
        rintro e w1 ⟨rfl, rfl⟩
        clear hA hD
        go_wp2
        refine bodyPost_ret (v := errV 52) ?_ rfl ?_
        · have hz := HZE.out
          unfold put8 at hz
          generalize World.setCell (World.setCell (World.setCell (World.setCell (World.setCell (World.setCell (World.setCell (World.setCell wr _ _) _ _) _ _) _ _) _ _) _ _) _ _) _ _ = w9 at hz ⊢
          obtain ⟨⟨z0, z1, z2, z3, z4, z5, z6, z7⟩, _⟩ := hz.eight
          simp [results, Tryz.results106, go_sem, z0, z1, z2, z3, z4, z5, z6, z7] <;> rfl
        · exact HE.out
      have dc46 : ((c : Int) == 46) = false := by rw [beq_eq_false_iff_ne]; omega
      by_cases h101 : c = 101
      · have HE := Lib.hid (HNO.out (HBAD.out (.inr (.inr (.inr (.inr (.inl h101)))))))
        have dc101 : ((c : Int) == 101) = true := by rw [beq_iff_eq]; omega
        clear h101
        clear z0 z1 z2 z3 z4 z5 z6 z7
        obtain ⟨⟨z0, z1, z2, z3, z4, z5, z6, z7⟩, _⟩ := HL0.out.eight
        go_wp2_with fail
        refine hA.mono ?_
        rintro e w1 ⟨rfl, rfl⟩
        go_wp2_with fail
        refine hD.mono ?_
        rintro e w1 ⟨rfl, rfl⟩
        go_wp2_with fail
        refine hA.mono ?_
        rintro e w1 ⟨rfl, rfl⟩
        clear hA hD
        go_wp2
        refine bodyPost_ret (v := errV 52) ?_ rfl ?_
        · have hz := HZE.out
          unfold put8 at hz
          generalize World.setCell (World.setCell (World.setCell (World.setCell (World.setCell (World.setCell (World.setCell (World.setCell wr _ _) _ _) _ _) _ _) _ _) _ _) _ _) _ _ = w9 at hz ⊢
          obtain ⟨⟨z0, z1, z2, z3, z4, z5, z6, z7⟩, _⟩ := hz.eight
          simp [results, Tryz.results106, go_sem, z0, z1, z2, z3, z4, z5, z6, z7] <;> rfl
        · exact HE.out
      have dc101 : ((c : Int) == 101) = false := by rw [beq_eq_false_iff_ne]; omega
      by_cases h69 : c = 69
      · have HE := Lib.hid (HNO.out (HBAD.out (.inr (.inr (.inr (.inr (.inr (.inl h69))))))))
        have dc69 : ((c : Int) == 69) = true := by rw [beq_iff_eq]; omega
        clear h69
        clear z0 z1 z2 z3 z4 z5 z6 z7
        obtain ⟨⟨z0, z1, z2, z3, z4, z5, z6, z7⟩, _⟩ := HL0.out.eight
        go_wp2_with fail
        refine hA.mono ?_
        rintro e w1 ⟨rfl, rfl⟩
        go_wp2_with fail
        refine hD.mono ?_
        rintro e w1 ⟨rfl, rfl⟩
        go_wp2_with fail
        refine hA.mono ?_
        rintro e w1 ⟨rfl, rfl⟩
        clear hA hD
        go_wp2
        refine bodyPost_ret (v := errV 52) ?_ rfl ?_
        · have hz := HZE.out
          unfold put8 at hz
          generalize World.setCell (World.setCell (World.setCell (World.setCell (World.setCell (World.setCell (World.setCell (World.setCell wr _ _) _ _) _ _) _ _) _ _) _ _) _ _) _ _ = w9 at hz ⊢
          obtain ⟨⟨z0, z1, z2, z3, z4, z5, z6, z7⟩, _⟩ := hz.eight
          simp [results, Tryz.results106, go_sem, z0, z1, z2, z3, z4, z5, z6, z7] <;> rfl
        · exact HE.out
      have dc69 : ((c : Int) == 69) = false := by rw [beq_eq_false_iff_ne]; omega
      have hps : p < s.size := by omega
      have HXF : Hid (s[p].toNat = f) := by unfold Hid; rw [← nums_at s p hps, EF.out]
      by_cases h48 : f = 48 ∧ 1 < k - p
      · have HE := Lib.hid (HNO.out (HBAD.out (.inr (.inr (.inr (.inr (.inr (.inr h48))))))))
        have d48 : ((s[p].toNat : Int) == 48) = true := by rw [HXF.out, h48.1]; rfl
        have dl : decide ((p : Int) + 1 < (k : Int)) = true := decide_eq_true (by omega)
        clear h48
        clear z0 z1 z2 z3 z4 z5 z6 z7
        obtain ⟨⟨z0, z1, z2, z3, z4, z5, z6, z7⟩, _⟩ := HL0.out.eight
        go_wp2_with fail
        refine hA.mono ?_
        rintro e w1 ⟨rfl, rfl⟩
        go_wp2_with fail
        refine hD.mono ?_
        rintro e w1 ⟨rfl, rfl⟩
        go_wp2_with fail
        refine hA.mono ?_
        rintro e w1 ⟨rfl, rfl⟩
        clear hA hD
        go_wp2
        refine bodyPost_ret (v := errV 52) ?_ rfl ?_
        · have hz := HZE.out
          unfold put8 at hz
          generalize World.setCell (World.setCell (World.setCell (World.setCell (World.setCell (World.setCell (World.setCell (World.setCell wr _ _) _ _) _ _) _ _) _ _) _ _) _ _) _ _ = w9 at hz ⊢
          obtain ⟨⟨z0, z1, z2, z3, z4, z5, z6, z7⟩, _⟩ := hz.eight
          simp [results, Tryz.results106, go_sem, z0, z1, z2, z3, z4, z5, z6, z7] <;> rfl
        · exact HE.out
      have HE := Lib.hid (HOK.out (-(n : Int)) k (by simpa using HGOOD.out (fun h => by
        rcases h with h | h | h | h | h | h | h
        · exact hj0 (by omega)
        · exact ht h
        · exact hn0 h.2
        · exact h46 h
        · exact h101 h
        · exact h69 h
        · exact h48 h)) hks hpk (by omega))
      have HZ := Lib.hid (HZK.out (-(n : Int)) k)
      have hcase : ((s[p].toNat : Int) == 48) = false ∨ (((s[p].toNat : Int) == 48) = true ∧ decide ((p : Int) + 1 < (k : Int)) = false) := by
        by_cases h : f = 48
        · exact .inr ⟨by rw [HXF.out, h]; rfl, decide_eq_false (fun h2 => h48 ⟨h, by omega⟩)⟩
        · exact .inl (by rw [beq_eq_false_iff_ne, HXF.out]; omega)
      clear h48 h46 h101 h69 ht hj0 hn0
      rcases hcase with d48 | ⟨d48, dl⟩
      all_goals
        go_wp2_with fail
        refine hA.mono ?_
        rintro e w1 ⟨rfl, rfl⟩
        go_wp2_with fail
        refine hD.mono ?_
        rintro e w1 ⟨rfl, rfl⟩
        go_wp2_with fail
        refine hA.mono ?_
        rintro e w1 ⟨rfl, rfl⟩
        clear hA hD
        go_wp2
        refine bodyPost_ret (v := gotV 2 false (-(n : Int)) ByteArray.empty nilS nilS k 0) ?_ rfl ?_
        · have hz := HZ.out
          unfold put8 at hz
          generalize World.setCell (World.setCell (World.setCell (World.setCell (World.setCell (World.setCell (World.setCell (World.setCell wr _ _) _ _) _ _) _ _) _ _) _ _) _ _) _ _ = w9 at hz ⊢
          obtain ⟨⟨z0, z1, z2, z3, z4, z5, z6, z7⟩, _⟩ := hz.eight
          simp [results, Tryz.results106, go_sem, z0, z1, z2, z3, z4, z5, z6, z7] <;> rfl
        · exact HE.out

set_option maxHeartbeats 4000000 in
set_option maxRecDepth 100000 in
theorem refNumber_plain (s : ByteArray) (i : Nat) (hi : i < s.size) (hs : s.size ≤ 4096) (w : World) (hm : (numsOf s).getD i 0 ≠ 45) :
    Calls Tryz.prog 106 #[.string s, .int .i64 i] w (GotEnd (numsOf s) i (Jq.number ((numsOf s).drop i)) w) := by
  obtain ⟨RES, eRES⟩ : ∃ RES, Jq.number ((numsOf s).drop i) = RES := ⟨_, rfl⟩
  rw [eRES]
  obtain ⟨p, ep⟩ : ∃ p, i = p := ⟨_, rfl⟩
  obtain ⟨RN, eRN⟩ : ∃ RN, numVOf false ((numsOf s).drop p) = RN := ⟨_, rfl⟩
  have hR : RES = RN.map fun q => (Jq.intJ q.1, q.2) := by
    rw [← eRES, number_V, ← eRN, ← ep]
    unfold numV
    rw [if_neg (fun e => hm ((head_drop (by decide)).1 e))]
  obtain ⟨W0, eW0⟩ : ∃ W0, W0 = w.alloc (.cells zero8.toArray 117) := ⟨_, rfl⟩
  have hb0 : Below w.heap.size w W0 := by rw [eW0]; exact (Below.refl _ _).alloc (Nat.le_refl _) _
  have hl0 : Lies W0 w.heap.size 117 zero8 := by rw [eW0]; exact Lies.new_ rfl
  have Hlen := Lib.hid (numsOf_length s)
  have hpi : p ≤ s.size ∧ i ≤ p := by omega
  obtain ⟨hps, hip⟩ := hpi
  have HNO : Hid (RN = .error 52 → GotEnd (numsOf s) i RES w (.returned (errV 52)) (putErr W0 w.heap.size 52)) := fun h => got_no (n := 52) (by rw [hR, h]; rfl) rfl (by decide) hb0
  have HOK : Hid (∀ (q : Int) (k : Nat), RN = .ok (q, (numsOf s).drop k) → k ≤ s.size → p ≤ k → -9223372036854775808 ≤ q ∧ q ≤ 9223372036854775807 → GotEnd (numsOf s) i RES w (.returned (gotV 2 false q ByteArray.empty nilS nilS k 0)) (put8 W0 w.heap.size (.int .i64 2) (.bool false) (.int .i64 q) (.string { data := #[] }) nilS nilS (.int .i64 k) (.int .i64 0))) := fun q k h hk hpk hq =>
    got_ok (x := .mk 2 false q [] [] []) (C := w.heap.size + 1) (r := (numsOf s).drop k) (j := k) (A1 := none) (A2 := none) (c1 := 0) (c2 := 0) (by rw [hR, h]; rfl) (isJ_plain _ _ (k := 2) (n := q) (b := false) (t := []) (by decide) hq ⟨Nat.zero_le _, fun _ h => nomatch h⟩) (Nat.lt_succ_self _) rfl (by rw [Hlen.out]; exact hk) (by omega) hb0
  have HZE := Lib.hid (put8_lies (a := .int .i64 0) (b := .bool false) (c := .int .i64 0) (d := .string { data := #[] }) (e := nilS) (f := nilS) (h := .int .i64 0) (k := .int .i64 52) hl0)
  have HZK : Hid (∀ (q : Int) (k : Nat), Lies (put8 W0 w.heap.size (.int .i64 2) (.bool false) (.int .i64 q) (.string { data := #[] }) nilS nilS (.int .i64 k) (.int .i64 0)) w.heap.size 117 _) := fun q k => put8_lies hl0
  have HRN := Lib.hid eRN
  have HL0 := Lib.hid hl0
  have HW0 := Lib.hid eW0
  have hA0 := at_any s i W0
  obtain ⟨c0, ec0⟩ : ∃ c0, (numsOf s).getD i 0 = c0 := ⟨_, rfl⟩
  rw [ec0] at hA0 hm
  have hA0' := hA0
  rw [eW0] at hA0
  subst ep
  have hc45 : ((c0 : Int) == 45) = false := by rw [beq_eq_false_iff_ne]; omega
  clear eRES hR hb0 hl0 eRN eW0 ec0 hA0'
  go_enter Tryz.func106, Tryz.ntmps106
  go_wp2_with fail
  refine hA0.mono ?_
  rintro e w1 ⟨rfl, rfl⟩
  rw [← HW0.out]
  clear hA0
  go_wp2_with fail
  go_loopw [1, 7] (fun i' n' wr => NumRel s i W0 i' n' wr) (fun i' _ _ => s.size - (intOf i').toNat)
  case atStart => exact ⟨i, 0, rfl, rfl, Nat.le_refl _, hps, Nat.zero_le _, Lib.hid (by rw [Nat.sub_self]; exact DigAt.zero _ _), rfl⟩
  case round =>
    obtain ⟨k, n, rfl, rfl, hpk, hks, hn, hdig, rfl⟩ := hrel
    have hA := at_any s k wr
    have hlt := nums_lt s k
    obtain ⟨c, ec⟩ : ∃ c, (numsOf s).getD k 0 = c := ⟨_, rfl⟩
    rw [ec] at hA hlt
    have hD := digit_any c hlt wr
    have EC := Lib.hid ec
    clear ec
    cases hdg : Jq.dig c with
    | true =>
      rw [hdg] at hD
      obtain ⟨q1, q2, q3, q4⟩ := dig_next hdig.out hpk EC.out hdg
      have HQ4 := Lib.hid q4
      by_cases htop : n ≤ 9007199254740991
      · have dt : decide ((n : Int) ≤ 9007199254740991) = true := decide_eq_true (by omega)
        have hx : s[k].toNat = c := by rw [← nums_at s k q1, EC.out]
        have hnn : (n : Int) * 10 + (c : Int) - 48 = ((n * 10 + (c - 48) : Nat) : Int) := by omega
        have HNN := Lib.hid hnn
        have hb1 : n * 10 + (c - 48) ≤ 90071992547409929 := by omega
        clear hdg q4 hnn
        go_wp2_with fail
        refine hA.mono ?_
        rintro e w1 ⟨rfl, rfl⟩
        go_wp2_with fail
        refine hD.mono ?_
        rintro e w1 ⟨rfl, rfl⟩
        clear hA hD
        go_wp2
        go_roundw
        case rel => exact ⟨k + 1, n * 10 + (c - 48), by go_num, by first | rw [← HNN.out] | (rw [hx, ← HNN.out]) | (simp [hx]; omega), by omega, q1, hb1, HQ4, rfl⟩
        case measure => simp [intOf]; omega
      · have dt : decide ((n : Int) ≤ 9007199254740991) = false := decide_eq_false (by omega)
        have dt2 : decide ((9007199254740991 : Int) < (n : Int)) = true := decide_eq_true (by omega)
        have hj0 : k ≠ i := fun e => by
          have h0 := hdig.out.2
          rw [e, Nat.sub_self] at h0
          have : n = 0 := h0
          omega
        have dj : ((k : Int) == (i : Int)) = false := by rw [beq_eq_false_iff_ne]; omega
        have HE := Lib.hid (HNO.out (HRN.out.symm.trans (hdig.out.big (by omega))))
        obtain ⟨⟨z0, z1, z2, z3, z4, z5, z6, z7⟩, f0, f1, f2, f3, f4, f5, f6, f7⟩ := HL0.out.eight
        clear hdg q4 hj0 htop
        go_wp2_with fail
        refine hA.mono ?_
        rintro e w1 ⟨rfl, rfl⟩
        go_wp2_with fail
        refine hD.mono ?_
        rintro e w1 ⟨rfl, rfl⟩
        go_wp2_with fail
        refine hA.mono ?_
        rintro e w1 ⟨rfl, rfl⟩
        clear hA hD
        go_wp2
        refine bodyPost_ret (v := errV 52) ?_ rfl ?_
        · have hz := HZE.out
          unfold put8 at hz
          generalize World.setCell (World.setCell (World.setCell (World.setCell (World.setCell (World.setCell (World.setCell (World.setCell wr _ _) _ _) _ _) _ _) _ _) _ _) _ _) _ _ = w9 at hz ⊢
          obtain ⟨⟨z0, z1, z2, z3, z4, z5, z6, z7⟩, _⟩ := hz.eight
          simp [results, Tryz.results106, go_sem, z0, z1, z2, z3, z4, z5, z6, z7] <;> rfl
        · exact HE.out
    | false =>
      rw [hdg] at hD
      obtain ⟨f, ef⟩ : ∃ f, (numsOf s).getD i 0 = f := ⟨_, rfl⟩
      have hDone := dig_done (m := false) (c := c) (f := f) hdig.out (by rw [show i + (k - i) = k from by omega]; exact EC.out) hdg ef
      rw [HRN.out, show i + (k - i) = k from by omega] at hDone
      obtain ⟨hBad, hGood⟩ := hDone
      have HBAD := Lib.hid hBad
      have HGOOD := Lib.hid hGood
      have EF := Lib.hid ef
      clear hBad hGood hdg ef
      obtain ⟨⟨z0, z1, z2, z3, z4, z5, z6, z7⟩, f0, f1, f2, f3, f4, f5, f6, f7⟩ := HL0.out.eight
      by_cases hj0 : k = i
      · have HE := Lib.hid (HNO.out (HBAD.out (.inl (by omega))))
        have dj : ((k : Int) == (i : Int)) = true := by rw [hj0]; simp
        clear hj0
        clear z0 z1 z2 z3 z4 z5 z6 z7
        obtain ⟨⟨z0, z1, z2, z3, z4, z5, z6, z7⟩, _⟩ := HL0.out.eight
        go_wp2_with fail
        refine hA.mono ?_
        rintro e w1 ⟨rfl, rfl⟩
        go_wp2_with fail
        refine hD.mono ?_
        rintro e w1 ⟨rfl, rfl⟩
        go_wp2_with fail
        refine hA.mono ?_
        rintro e w1 ⟨rfl, rfl⟩
        clear hA hD
        go_wp2
        refine bodyPost_ret (v := errV 52) ?_ rfl ?_
        · have hz := HZE.out
          unfold put8 at hz
          generalize World.setCell (World.setCell (World.setCell (World.setCell (World.setCell (World.setCell (World.setCell (World.setCell wr _ _) _ _) _ _) _ _) _ _) _ _) _ _) _ _ = w9 at hz ⊢
          obtain ⟨⟨z0, z1, z2, z3, z4, z5, z6, z7⟩, _⟩ := hz.eight
          simp [results, Tryz.results106, go_sem, z0, z1, z2, z3, z4, z5, z6, z7] <;> rfl
        · exact HE.out
      have dj : ((k : Int) == (i : Int)) = false := by rw [beq_eq_false_iff_ne]; omega
      by_cases ht : 9007199254740991 < n
      · have HE := Lib.hid (HNO.out (HBAD.out (.inr (.inl ht))))
        have dt : decide ((9007199254740991 : Int) < (n : Int)) = true := decide_eq_true (by omega)
        clear ht
        clear z0 z1 z2 z3 z4 z5 z6 z7
        obtain ⟨⟨z0, z1, z2, z3, z4, z5, z6, z7⟩, _⟩ := HL0.out.eight
        go_wp2_with fail
        refine hA.mono ?_
        rintro e w1 ⟨rfl, rfl⟩
        go_wp2_with fail
        refine hD.mono ?_
        rintro e w1 ⟨rfl, rfl⟩
        go_wp2_with fail
        refine hA.mono ?_
        rintro e w1 ⟨rfl, rfl⟩
        clear hA hD
        go_wp2
        refine bodyPost_ret (v := errV 52) ?_ rfl ?_
        · have hz := HZE.out
          unfold put8 at hz
          generalize World.setCell (World.setCell (World.setCell (World.setCell (World.setCell (World.setCell (World.setCell (World.setCell wr _ _) _ _) _ _) _ _) _ _) _ _) _ _) _ _ = w9 at hz ⊢
          obtain ⟨⟨z0, z1, z2, z3, z4, z5, z6, z7⟩, _⟩ := hz.eight
          simp [results, Tryz.results106, go_sem, z0, z1, z2, z3, z4, z5, z6, z7] <;> rfl
        · exact HE.out
      have dt : decide ((9007199254740991 : Int) < (n : Int)) = false := decide_eq_false (by omega)
      by_cases h46 : c = 46
      · have HE := Lib.hid (HNO.out (HBAD.out (.inr (.inr (.inr (.inl h46))))))
        have dc46 : ((c : Int) == 46) = true := by rw [beq_iff_eq]; omega
        clear h46
        clear z0 z1 z2 z3 z4 z5 z6 z7
        obtain ⟨⟨z0, z1, z2, z3, z4, z5, z6, z7⟩, _⟩ := HL0.out.eight
        go_wp2_with fail
        refine hA.mono ?_
        rintro e w1 ⟨rfl, rfl⟩
        go_wp2_with fail
        refine hD.mono ?_
        rintro e w1 ⟨rfl, rfl⟩
        go_wp2_with fail
        refine hA.mono ?_
        rintro e w1 ⟨rfl, rfl⟩
        clear hA hD
        go_wp2
        refine bodyPost_ret (v := errV 52) ?_ rfl ?_
        · have hz := HZE.out
          unfold put8 at hz
          generalize World.setCell (World.setCell (World.setCell (World.setCell (World.setCell (World.setCell (World.setCell (World.setCell wr _ _) _ _) _ _) _ _) _ _) _ _) _ _) _ _ = w9 at hz ⊢
          obtain ⟨⟨z0, z1, z2, z3, z4, z5, z6, z7⟩, _⟩ := hz.eight
          simp [results, Tryz.results106, go_sem, z0, z1, z2, z3, z4, z5, z6, z7] <;> rfl
        · exact HE.out
      have dc46 : ((c : Int) == 46) = false := by rw [beq_eq_false_iff_ne]; omega
      by_cases h101 : c = 101
      · have HE := Lib.hid (HNO.out (HBAD.out (.inr (.inr (.inr (.inr (.inl h101)))))))
        have dc101 : ((c : Int) == 101) = true := by rw [beq_iff_eq]; omega
        clear h101
        clear z0 z1 z2 z3 z4 z5 z6 z7
        obtain ⟨⟨z0, z1, z2, z3, z4, z5, z6, z7⟩, _⟩ := HL0.out.eight
        go_wp2_with fail
        refine hA.mono ?_
        rintro e w1 ⟨rfl, rfl⟩
        go_wp2_with fail
        refine hD.mono ?_
        rintro e w1 ⟨rfl, rfl⟩
        go_wp2_with fail
        refine hA.mono ?_
        rintro e w1 ⟨rfl, rfl⟩
        clear hA hD
        go_wp2
        refine bodyPost_ret (v := errV 52) ?_ rfl ?_
        · have hz := HZE.out
          unfold put8 at hz
          generalize World.setCell (World.setCell (World.setCell (World.setCell (World.setCell (World.setCell (World.setCell (World.setCell wr _ _) _ _) _ _) _ _) _ _) _ _) _ _) _ _ = w9 at hz ⊢
          obtain ⟨⟨z0, z1, z2, z3, z4, z5, z6, z7⟩, _⟩ := hz.eight
          simp [results, Tryz.results106, go_sem, z0, z1, z2, z3, z4, z5, z6, z7] <;> rfl
        · exact HE.out
      have dc101 : ((c : Int) == 101) = false := by rw [beq_eq_false_iff_ne]; omega
      by_cases h69 : c = 69
      · have HE := Lib.hid (HNO.out (HBAD.out (.inr (.inr (.inr (.inr (.inr (.inl h69))))))))
        have dc69 : ((c : Int) == 69) = true := by rw [beq_iff_eq]; omega
        clear h69
        clear z0 z1 z2 z3 z4 z5 z6 z7
        obtain ⟨⟨z0, z1, z2, z3, z4, z5, z6, z7⟩, _⟩ := HL0.out.eight
        go_wp2_with fail
        refine hA.mono ?_
        rintro e w1 ⟨rfl, rfl⟩
        go_wp2_with fail
        refine hD.mono ?_
        rintro e w1 ⟨rfl, rfl⟩
        go_wp2_with fail
        refine hA.mono ?_
        rintro e w1 ⟨rfl, rfl⟩
        clear hA hD
        go_wp2
        refine bodyPost_ret (v := errV 52) ?_ rfl ?_
        · have hz := HZE.out
          unfold put8 at hz
          generalize World.setCell (World.setCell (World.setCell (World.setCell (World.setCell (World.setCell (World.setCell (World.setCell wr _ _) _ _) _ _) _ _) _ _) _ _) _ _) _ _ = w9 at hz ⊢
          obtain ⟨⟨z0, z1, z2, z3, z4, z5, z6, z7⟩, _⟩ := hz.eight
          simp [results, Tryz.results106, go_sem, z0, z1, z2, z3, z4, z5, z6, z7] <;> rfl
        · exact HE.out
      have dc69 : ((c : Int) == 69) = false := by rw [beq_eq_false_iff_ne]; omega
      have hps : i < s.size := by omega
      have HXF : Hid (s[i].toNat = f) := by unfold Hid; rw [← nums_at s i hps, EF.out]
      by_cases h48 : f = 48 ∧ 1 < k - i
      · have HE := Lib.hid (HNO.out (HBAD.out (.inr (.inr (.inr (.inr (.inr (.inr h48))))))))
        have d48 : ((s[i].toNat : Int) == 48) = true := by rw [HXF.out, h48.1]; rfl
        have dl : decide ((i : Int) + 1 < (k : Int)) = true := decide_eq_true (by omega)
        clear h48
        clear z0 z1 z2 z3 z4 z5 z6 z7
        obtain ⟨⟨z0, z1, z2, z3, z4, z5, z6, z7⟩, _⟩ := HL0.out.eight
        go_wp2_with fail
        refine hA.mono ?_
        rintro e w1 ⟨rfl, rfl⟩
        go_wp2_with fail
        refine hD.mono ?_
        rintro e w1 ⟨rfl, rfl⟩
        go_wp2_with fail
        refine hA.mono ?_
        rintro e w1 ⟨rfl, rfl⟩
        clear hA hD
        go_wp2
        refine bodyPost_ret (v := errV 52) ?_ rfl ?_
        · have hz := HZE.out
          unfold put8 at hz
          generalize World.setCell (World.setCell (World.setCell (World.setCell (World.setCell (World.setCell (World.setCell (World.setCell wr _ _) _ _) _ _) _ _) _ _) _ _) _ _) _ _ = w9 at hz ⊢
          obtain ⟨⟨z0, z1, z2, z3, z4, z5, z6, z7⟩, _⟩ := hz.eight
          simp [results, Tryz.results106, go_sem, z0, z1, z2, z3, z4, z5, z6, z7] <;> rfl
        · exact HE.out
      have HE := Lib.hid (HOK.out (n : Int) k (by simpa using HGOOD.out (fun h => by
        rcases h with h | h | h | h | h | h | h
        · exact hj0 (by omega)
        · exact ht h
        · cases h.1
        · exact h46 h
        · exact h101 h
        · exact h69 h
        · exact h48 h)) hks hpk (by omega))
      have HZ := Lib.hid (HZK.out (n : Int) k)
      have hcase : ((s[i].toNat : Int) == 48) = false ∨ (((s[i].toNat : Int) == 48) = true ∧ decide ((i : Int) + 1 < (k : Int)) = false) := by
        by_cases h : f = 48
        · exact .inr ⟨by rw [HXF.out, h]; rfl, decide_eq_false (fun h2 => h48 ⟨h, by omega⟩)⟩
        · exact .inl (by rw [beq_eq_false_iff_ne, HXF.out]; omega)
      clear h48 h46 h101 h69 ht hj0
      rcases hcase with d48 | ⟨d48, dl⟩
      all_goals
        go_wp2_with fail
        refine hA.mono ?_
        rintro e w1 ⟨rfl, rfl⟩
        go_wp2_with fail
        refine hD.mono ?_
        rintro e w1 ⟨rfl, rfl⟩
        go_wp2_with fail
        refine hA.mono ?_
        rintro e w1 ⟨rfl, rfl⟩
        clear hA hD
        go_wp2
        refine bodyPost_ret (v := gotV 2 false (n : Int) ByteArray.empty nilS nilS k 0) ?_ rfl ?_
        · have hz := HZ.out
          unfold put8 at hz
          generalize World.setCell (World.setCell (World.setCell (World.setCell (World.setCell (World.setCell (World.setCell (World.setCell wr _ _) _ _) _ _) _ _) _ _) _ _) _ _) _ _ = w9 at hz ⊢
          obtain ⟨⟨z0, z1, z2, z3, z4, z5, z6, z7⟩, _⟩ := hz.eight
          simp [results, Tryz.results106, go_sem, z0, z1, z2, z3, z4, z5, z6, z7] <;> rfl
        · exact HE.out

theorem refNumber_any (s : ByteArray) (i : Nat) (hi : i < s.size) (hs : s.size ≤ 4096) (w : World) :
    Calls Tryz.prog 106 #[.string s, .int .i64 i] w (GotEnd (numsOf s) i (Jq.number ((numsOf s).drop i)) w) := by
  by_cases hm : (numsOf s).getD i 0 = 45
  · exact refNumber_minus s i hi hs w hm
  · exact refNumber_plain s i hi hs w hm
end Go.Proofs.YthklgpflaghojaaGreatDoor
