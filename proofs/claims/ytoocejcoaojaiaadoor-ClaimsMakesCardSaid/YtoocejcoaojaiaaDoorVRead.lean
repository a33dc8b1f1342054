/-
  read: what a token says of itself.
-/
import Derived.Test.YtoocejcoaojaiaaDoorVText
import Derived.Test.YtoocejcoaojaiaaDoorVM2
import Derived.Lib.QuietBelow
import Derived.Deep.DeepCutAuto
import Derived.BigQuiet
namespace Go.Proofs.YtoocejcoaojaiaaDoor
open Go.RowKit Go.Sort

abbrev saidcells (x : Jq.J) : List Value := [.string (strOf ((Vq.textOf x Vq.issN).getD [])), .string (strOf ((Vq.textOf x Vq.audN).getD [])), .string (strOf ((Vq.textOf x Vq.nonceN).getD [])), .int .i64 ((Vq.intOf x Vq.expN).getD 0), .int .i64 ((Vq.intOf x Vq.iatN).getD 0), .int .i64 ((Vq.intOf x Vq.nbfN).getD 0)]
abbrev said0 : List Value := [.string { data := #[] }, .string { data := #[] }, .string { data := #[] }, .int .i64 0, .int .i64 0, .int .i64 0]
/-- How read ends. -/
def ReadEnd (x : Jq.J) (w : World) (e : Ending) (w' : World) : Prop := Below w.heap.size w w' ∧
  ((Vq.Formed x ∧ e = .returned (.tuple #[.agg (saidcells x).toArray, .bool true])) ∨ (¬ Vq.Formed x ∧ e = .returned (.tuple #[.agg said0.toArray, .bool false])))
theorem empty_text (l : List Nat) : (strOf l).toList.isEmpty = l.isEmpty := by
  rw [ByteArray.toList_eq]
  cases l <;> rfl
theorem formed_bool (x : Jq.J) : Vq.Formed x ↔ ((Vq.textOf x Vq.issN).isSome = true ∧ (strOf ((Vq.textOf x Vq.subN).getD [])).toList.isEmpty = false ∧ (Vq.textOf x Vq.audN).isSome = true) ∧
    ((Vq.intOf x Vq.expN).isSome = true ∧ (Vq.intOf x Vq.iatN).isSome = true ∧ ((Vq.intOf x Vq.nbfN).isSome = true ∨ (getP x Vq.nbfN).isSome = false)) ∧ ((Vq.textOf x Vq.nonceN).isSome = true ∨ (getP x Vq.nonceN).isSome = false) := by
  rw [Vq.formed_iff, empty_text]
  unfold Vq.Who Vq.When Vq.Nonced
  have h1 : ∀ l : List Nat, l.isEmpty = false ↔ l ≠ [] := fun l => by cases l <;> simp
  rw [h1]
  simp only [Option.isSome_eq_false_iff, Option.isNone_iff_eq_none]
set_option maxHeartbeats 1000000 in
set_option maxRecDepth 100000 in
theorem read_any {ok : Nat → Prop} (x : Jq.J) (v : Value) (w : World) (hJ : IsJ w ok v x) : Calls Tryd.prog 26 #[v] w (ReadEnd x w) := by
  obtain ⟨A1, c1, A2, c2, rfl⟩ := hJ.form
  obtain ⟨W0, eW0⟩ : ∃ W0, W0 = (w.alloc (.cells #[.int .i64 x.kind, .bool x.bool, .int .i64 x.int, .string (strOf x.text), .slice A1 x.names.length c1, .slice A2 x.list.length c2] 28)).alloc (.cells #[.string { data := #[] }, .string { data := #[] }, .string { data := #[] }, .int .i64 0, .int .i64 0, .int .i64 0] 52) := ⟨_, rfl⟩
  have hb0 : Below w.heap.size w W0 := by rw [eW0]; exact (one_alloc _ _).alloc (by simp) _
  have hl0 : Lies W0 w.heap.size 28 [.int .i64 x.kind, .bool x.bool, .int .i64 x.int, .string (strOf x.text), .slice A1 x.names.length c1, .slice A2 x.list.length c2] := by rw [eW0]; exact (Lies.new_ rfl).alloc _
  have ho0 : Lies W0 (w.heap.size + 1) 52 said0 := by rw [eW0]; exact Lies.new_ (by simp)
  have HJ := Lib.hid hJ
  have HB0 := Lib.hid hb0
  have HL0 := Lib.hid hl0
  have HO0 := Lib.hid ho0
  have hfb := formed_bool x
  have hE : ∀ w' : World, Below w.heap.size w w' → Vq.Formed x → ReadEnd x w (.returned (.tuple #[.agg (saidcells x).toArray, .bool true])) w' := fun w' hb hf => ⟨hb, .inl ⟨hf, rfl⟩⟩
  have hN : ∀ w' : World, Below w.heap.size w w' → ¬ Vq.Formed x → ReadEnd x w (.returned (.tuple #[.agg said0.toArray, .bool false])) w' := fun w' hb hf => ⟨hb, .inr ⟨hf, rfl⟩⟩
  unfold saidcells at hE
  have hC0 : ∀ W : World, Below w.heap.size w W → Calls Tryd.prog 19 #[jv x.kind x.bool x.int (strOf x.text) (.slice A1 x.names.length c1) (.slice A2 x.list.length c2), .string (strOf Vq.issN)] W fun e W' => e = .returned (.tuple #[.string (strOf ((Vq.textOf x Vq.issN).getD [])), .bool (Vq.textOf x Vq.issN).isSome]) ∧ Below W.heap.size W W' := fun W hb => claimText_any x _ Vq.issN (by decide) W (HJ.out.on hb)
  have hC1 : ∀ W : World, Below w.heap.size w W → Calls Tryd.prog 19 #[jv x.kind x.bool x.int (strOf x.text) (.slice A1 x.names.length c1) (.slice A2 x.list.length c2), .string (strOf Vq.subN)] W fun e W' => e = .returned (.tuple #[.string (strOf ((Vq.textOf x Vq.subN).getD [])), .bool (Vq.textOf x Vq.subN).isSome]) ∧ Below W.heap.size W W' := fun W hb => claimText_any x _ Vq.subN (by decide) W (HJ.out.on hb)
  have hC2 : ∀ W : World, Below w.heap.size w W → Calls Tryd.prog 19 #[jv x.kind x.bool x.int (strOf x.text) (.slice A1 x.names.length c1) (.slice A2 x.list.length c2), .string (strOf Vq.audN)] W fun e W' => e = .returned (.tuple #[.string (strOf ((Vq.textOf x Vq.audN).getD [])), .bool (Vq.textOf x Vq.audN).isSome]) ∧ Below W.heap.size W W' := fun W hb => claimText_any x _ Vq.audN (by decide) W (HJ.out.on hb)
  have hC3 : ∀ W : World, Below w.heap.size w W → Calls Tryd.prog 21 #[jv x.kind x.bool x.int (strOf x.text) (.slice A1 x.names.length c1) (.slice A2 x.list.length c2), .string (strOf Vq.expN)] W fun e W' => e = .returned (.tuple #[.int .i64 ((Vq.intOf x Vq.expN).getD 0), .bool (Vq.intOf x Vq.expN).isSome]) ∧ Below W.heap.size W W' := fun W hb => claimInt_any x _ Vq.expN (by decide) W (HJ.out.on hb)
  have hC4 : ∀ W : World, Below w.heap.size w W → Calls Tryd.prog 21 #[jv x.kind x.bool x.int (strOf x.text) (.slice A1 x.names.length c1) (.slice A2 x.list.length c2), .string (strOf Vq.iatN)] W fun e W' => e = .returned (.tuple #[.int .i64 ((Vq.intOf x Vq.iatN).getD 0), .bool (Vq.intOf x Vq.iatN).isSome]) ∧ Below W.heap.size W W' := fun W hb => claimInt_any x _ Vq.iatN (by decide) W (HJ.out.on hb)
  have hC5 : ∀ W : World, Below w.heap.size w W → Calls Tryd.prog 21 #[jv x.kind x.bool x.int (strOf x.text) (.slice A1 x.names.length c1) (.slice A2 x.list.length c2), .string (strOf Vq.nbfN)] W fun e W' => e = .returned (.tuple #[.int .i64 ((Vq.intOf x Vq.nbfN).getD 0), .bool (Vq.intOf x Vq.nbfN).isSome]) ∧ Below W.heap.size W W' := fun W hb => claimInt_any x _ Vq.nbfN (by decide) W (HJ.out.on hb)
  have hC6 : ∀ W : World, Below w.heap.size w W → Calls Tryd.prog 19 #[jv x.kind x.bool x.int (strOf x.text) (.slice A1 x.names.length c1) (.slice A2 x.list.length c2), .string (strOf Vq.nonceN)] W fun e W' => e = .returned (.tuple #[.string (strOf ((Vq.textOf x Vq.nonceN).getD [])), .bool (Vq.textOf x Vq.nonceN).isSome]) ∧ Below W.heap.size W W' := fun W hb => claimText_any x _ Vq.nonceN (by decide) W (HJ.out.on hb)
  have hC7 : ∀ W : World, Below w.heap.size w W → Calls Tryd.prog 39 #[jv x.kind x.bool x.int (strOf x.text) (.slice A1 x.names.length c1) (.slice A2 x.list.length c2), .string (strOf Vq.nbfN)] W fun e W' => e = .returned (.bool (getP x Vq.nbfN).isSome) ∧ Below W.heap.size W W' := fun W hb => hasClaim_any x _ Vq.nbfN (by decide) W (HJ.out.on hb)
  have hC8 : ∀ W : World, Below w.heap.size w W → Calls Tryd.prog 39 #[jv x.kind x.bool x.int (strOf x.text) (.slice A1 x.names.length c1) (.slice A2 x.list.length c2), .string (strOf Vq.nonceN)] W fun e W' => e = .returned (.bool (getP x Vq.nonceN).isSome) ∧ Below W.heap.size W W' := fun W hb => hasClaim_any x _ Vq.nonceN (by decide) W (HJ.out.on hb)
  obtain ⟨b0, eb0⟩ : ∃ b, (Vq.textOf x Vq.issN).isSome = b := ⟨_, rfl⟩
  obtain ⟨r0, er0⟩ : ∃ r, strOf ((Vq.textOf x Vq.issN).getD []) = r := ⟨_, rfl⟩
  obtain ⟨b1, eb1⟩ : ∃ b, (Vq.textOf x Vq.subN).isSome = b := ⟨_, rfl⟩
  obtain ⟨r1, er1⟩ : ∃ r, strOf ((Vq.textOf x Vq.subN).getD []) = r := ⟨_, rfl⟩
  obtain ⟨b2, eb2⟩ : ∃ b, (Vq.textOf x Vq.audN).isSome = b := ⟨_, rfl⟩
  obtain ⟨r2, er2⟩ : ∃ r, strOf ((Vq.textOf x Vq.audN).getD []) = r := ⟨_, rfl⟩
  obtain ⟨b3, eb3⟩ : ∃ b, (Vq.intOf x Vq.expN).isSome = b := ⟨_, rfl⟩
  obtain ⟨r3, er3⟩ : ∃ r, (Vq.intOf x Vq.expN).getD 0 = r := ⟨_, rfl⟩
  obtain ⟨b4, eb4⟩ : ∃ b, (Vq.intOf x Vq.iatN).isSome = b := ⟨_, rfl⟩
  obtain ⟨r4, er4⟩ : ∃ r, (Vq.intOf x Vq.iatN).getD 0 = r := ⟨_, rfl⟩
  obtain ⟨b5, eb5⟩ : ∃ b, (Vq.intOf x Vq.nbfN).isSome = b := ⟨_, rfl⟩
  obtain ⟨r5, er5⟩ : ∃ r, (Vq.intOf x Vq.nbfN).getD 0 = r := ⟨_, rfl⟩
  obtain ⟨b6, eb6⟩ : ∃ b, (Vq.textOf x Vq.nonceN).isSome = b := ⟨_, rfl⟩
  obtain ⟨r6, er6⟩ : ∃ r, strOf ((Vq.textOf x Vq.nonceN).getD []) = r := ⟨_, rfl⟩
  obtain ⟨b7, eb7⟩ : ∃ b, (getP x Vq.nbfN).isSome = b := ⟨_, rfl⟩
  obtain ⟨b8, eb8⟩ : ∃ b, (getP x Vq.nonceN).isSome = b := ⟨_, rfl⟩
  rw [eb0, er1, eb2, eb3, eb4, eb5, eb7, eb6, eb8] at hfb
  simp only [eb0, er0] at hC0
  simp only [eb1, er1] at hC1
  simp only [eb2, er2] at hC2
  simp only [eb3, er3] at hC3
  simp only [eb4, er4] at hC4
  simp only [eb5, er5] at hC5
  simp only [eb6, er6] at hC6
  simp only [eb7] at hC7
  simp only [eb8] at hC8
  rw [er0, er2, er6, er3, er4, er5] at hE
  have HF := Lib.hid hfb
  have HE := Lib.hid hE
  have HN := Lib.hid hN
  have HC0 := Lib.hid hC0
  have HC1 := Lib.hid hC1
  have HC2 := Lib.hid hC2
  have HC3 := Lib.hid hC3
  have HC4 := Lib.hid hC4
  have HC5 := Lib.hid hC5
  have HC6 := Lib.hid hC6
  have HC7 := Lib.hid hC7
  have HC8 := Lib.hid hC8
  clear hJ hb0 hl0 ho0 hfb hE hN hC0 eb0 hC1 eb1 hC2 eb2 hC3 eb3 hC4 eb4 hC5 eb5 hC6 eb6 hC7 eb7 hC8 eb8 er0 er1 er2 er3 er4 er5 er6
  obtain ⟨⟨z0, z1, z2, z3, z4, z5⟩, _⟩ := HL0.out.six
  rw [eW0] at z0 z1 z2 z3 z4 z5
  have HW0 := Lib.hid eW0
  have hC := HC0.out W0 HB0.out
  rw [eW0] at hC
  clear eW0
  go_enter Tryd.func26, Tryd.ntmps26
  go_wp2_with fail
  refine hC.mono ?_
  rintro e W1 ⟨rfl, hb⟩
  clear hC z0 z1 z2 z3 z4 z5
  rw [← HW0.out] at hb
  have HB1 := Lib.hid (below_more HB0.out hb)
  have HL1 := Lib.hid (HL0.out.below hb HL0.out.lt)
  have HO1 := Lib.hid (HO0.out.below hb HO0.out.lt)
  clear hb
  have hC := HC1.out W1 HB1.out
  obtain ⟨⟨z0, z1, z2, z3, z4, z5⟩, _⟩ := HL1.out.six
  go_wp2_with fail
  refine hC.mono ?_
  rintro e W2 ⟨rfl, hb⟩
  clear hC z0 z1 z2 z3 z4 z5
  have HB2 := Lib.hid (below_more HB1.out hb)
  have HL2 := Lib.hid (HL1.out.below hb HL1.out.lt)
  have HO2 := Lib.hid (HO1.out.below hb HO1.out.lt)
  clear hb
  have hC := HC2.out W2 HB2.out
  obtain ⟨⟨z0, z1, z2, z3, z4, z5⟩, _⟩ := HL2.out.six
  go_wp2_with fail
  refine hC.mono ?_
  rintro e W3 ⟨rfl, hb⟩
  clear hC z0 z1 z2 z3 z4 z5
  have HB3 := Lib.hid (below_more HB2.out hb)
  have HL3 := Lib.hid (HL2.out.below hb HL2.out.lt)
  have HO3 := Lib.hid (HO2.out.below hb HO2.out.lt)
  clear hb
  have hC := HC3.out W3 HB3.out
  obtain ⟨⟨z0, z1, z2, z3, z4, z5⟩, _⟩ := HL3.out.six
  go_wp2_with fail
  refine hC.mono ?_
  rintro e W4 ⟨rfl, hb⟩
  clear hC z0 z1 z2 z3 z4 z5
  have HB4 := Lib.hid (below_more HB3.out hb)
  have HL4 := Lib.hid (HL3.out.below hb HL3.out.lt)
  have HO4 := Lib.hid (HO3.out.below hb HO3.out.lt)
  clear hb
  have hC := HC4.out W4 HB4.out
  obtain ⟨⟨z0, z1, z2, z3, z4, z5⟩, _⟩ := HL4.out.six
  go_wp2_with fail
  refine hC.mono ?_
  rintro e W5 ⟨rfl, hb⟩
  clear hC z0 z1 z2 z3 z4 z5
  have HB5 := Lib.hid (below_more HB4.out hb)
  have HL5 := Lib.hid (HL4.out.below hb HL4.out.lt)
  have HO5 := Lib.hid (HO4.out.below hb HO4.out.lt)
  clear hb
  have hC := HC5.out W5 HB5.out
  obtain ⟨⟨z0, z1, z2, z3, z4, z5⟩, _⟩ := HL5.out.six
  go_wp2_with fail
  refine hC.mono ?_
  rintro e W6 ⟨rfl, hb⟩
  clear hC z0 z1 z2 z3 z4 z5
  have HB6 := Lib.hid (below_more HB5.out hb)
  have HL6 := Lib.hid (HL5.out.below hb HL5.out.lt)
  have HO6 := Lib.hid (HO5.out.below hb HO5.out.lt)
  clear hb
  have hC := HC6.out W6 HB6.out
  obtain ⟨⟨z0, z1, z2, z3, z4, z5⟩, _⟩ := HL6.out.six
  go_wp2_with fail
  refine hC.mono ?_
  rintro e W7 ⟨rfl, hb⟩
  clear hC z0 z1 z2 z3 z4 z5
  have HB7 := Lib.hid (below_more HB6.out hb)
  have HL7 := Lib.hid (HL6.out.below hb HL6.out.lt)
  have HO7 := Lib.hid (HO6.out.below hb HO6.out.lt)
  clear hb
  go_upto_region 8 with (fail)
  go_cut [18] (fun v wx => v = .bool (b0 && (!r1.toList.isEmpty && b2)) ∧ wx = W7)
  case first =>
    cases b0 with
    | false =>
      go_wp2_with fail
      go_meet
      exact ⟨rfl, rfl⟩
    | true =>
      cases hem : r1.toList.isEmpty with
      | true =>
        obtain rfl : r1 = ByteArray.empty := by
          have h1 : r1.toList = [] := by simpa using hem
          rw [ByteArray.toList_eq] at h1
          exact ByteArray.ext (Array.toList_inj.1 h1)
        clear hem
        go_wp2_with fail
        go_meet
        exact ⟨by rw [show ByteArray.empty.toList.isEmpty = true from empty_text []]; rfl, rfl⟩
      | false =>
        have hem2 : r1.toList ≠ [] := fun h => by rw [h] at hem; cases hem
        cases b2 with
        | false =>
          go_wp2_with fail
          go_meet
          exact ⟨by rw [hem]; rfl, rfl⟩
        | true =>
          go_wp2_with fail
          go_meet
          exact ⟨by rw [hem]; rfl, rfl⟩
  case rest =>
    obtain ⟨e18, ewc⟩ := hcut
    subst e18
    rw [ewc]
    clear ewc
    obtain ⟨who, ewho⟩ : ∃ who, (b0 && (!r1.toList.isEmpty && b2)) = who := ⟨_, rfl⟩
    rw [ewho]
    have HWHO := Lib.hid ewho
    clear ewho
    go_upto_region 9 with (fail)
    go_cut [19] (fun v wx => v = .bool (b3 && (b4 && (b5 || !b7))) ∧ Hid (Below W7.heap.size W7 wx))
    case first =>
      cases b3 with
      | false =>
        go_wp2_with fail
        go_meet
        exact ⟨rfl, Lib.hid (Below.refl _ _)⟩
      | true =>
        cases b4 with
        | false =>
          go_wp2_with fail
          go_meet
          exact ⟨rfl, Lib.hid (Below.refl _ _)⟩
        | true =>
          cases b5 with
          | true =>
            go_wp2_with fail
            go_meet
            exact ⟨rfl, Lib.hid (Below.refl _ _)⟩
          | false =>
            have hC := HC7.out W7 HB7.out
            obtain ⟨⟨z0, z1, z2, z3, z4, z5⟩, _⟩ := HL7.out.six
            go_wp2_with fail
            refine hC.mono ?_
            rintro e W8 ⟨rfl, hb⟩
            clear hC z0 z1 z2 z3 z4 z5
            have HBx := Lib.hid hb
            clear hb
            go_wp2_with fail
            go_meet
            exact ⟨by simp, HBx⟩
    case rest =>
      obtain ⟨e19, hcut2⟩ := hcut
      subst e19
      obtain ⟨whn, ewhn⟩ : ∃ whn, (b3 && (b4 && (b5 || !b7))) = whn := ⟨_, rfl⟩
      rw [ewhn]
      have HWHN := Lib.hid ewhn
      clear ewhn
      obtain ⟨W8, eW8⟩ : ∃ W8, wc = W8 := ⟨_, rfl⟩
      subst eW8
      have HB8 := Lib.hid (below_more HB7.out hcut2.out)
      have HL8 := Lib.hid (HL7.out.below hcut2.out HL7.out.lt)
      have HO8 := Lib.hid (HO7.out.below hcut2.out HO7.out.lt)
      clear hcut2
      cases who with
      | false =>
        have hnf : ¬ Vq.Formed x := fun hf => by have := HF.out.1 hf; have h1 := HWHO.out; rw [this.1.1, this.1.2.1, this.1.2.2] at h1; cases h1
        have hl := HO8.out
        obtain ⟨_, g0, g1, g2, g3, g4, g5⟩ := hl.six
        obtain ⟨⟨q0, q1, q2, q3, q4, q5⟩, _⟩ := (hl.put6 (a := .string { data := #[] }) (b := .string { data := #[] }) (c := .string { data := #[] }) (d := .int .i64 0) (e := .int .i64 0) (f := .int .i64 0)).six
        have HEE : Hid (ReadEnd x w (.returned (.tuple #[.agg said0.toArray, .bool false])) (put6 wc (w.heap.size + 1) (.string { data := #[] }) (.string { data := #[] }) (.string { data := #[] }) (.int .i64 0) (.int .i64 0) (.int .i64 0))) := HN.out _ ((HB8.out).trans (gb_down gb_put6 (HB8.out).size (Nat.le_succ _))) hnf
        clear hnf hl
        go_wp2
        exact bodyPost_ret (v := .tuple #[.agg said0.toArray, .bool false]) (by simp [results, Tryd.results26, go_sem, q0, q1, q2, q3, q4, q5]) rfl HEE.out
      | true =>
        cases whn with
        | false =>
          have hnf : ¬ Vq.Formed x := fun hf => by have := HF.out.1 hf; have h1 := HWHN.out; rw [this.2.1.1, this.2.1.2.1] at h1; rcases this.2.1.2.2 with h2 | h2 <;> rw [h2] at h1 <;> simp at h1
          have hl := HO8.out
          obtain ⟨_, g0, g1, g2, g3, g4, g5⟩ := hl.six
          obtain ⟨⟨q0, q1, q2, q3, q4, q5⟩, _⟩ := (hl.put6 (a := .string { data := #[] }) (b := .string { data := #[] }) (c := .string { data := #[] }) (d := .int .i64 0) (e := .int .i64 0) (f := .int .i64 0)).six
          have HEE : Hid (ReadEnd x w (.returned (.tuple #[.agg said0.toArray, .bool false])) (put6 wc (w.heap.size + 1) (.string { data := #[] }) (.string { data := #[] }) (.string { data := #[] }) (.int .i64 0) (.int .i64 0) (.int .i64 0))) := HN.out _ ((HB8.out).trans (gb_down gb_put6 (HB8.out).size (Nat.le_succ _))) hnf
          clear hnf hl
          go_wp2
          exact bodyPost_ret (v := .tuple #[.agg said0.toArray, .bool false]) (by simp [results, Tryd.results26, go_sem, q0, q1, q2, q3, q4, q5]) rfl HEE.out
        | true =>
          cases b6 with
          | true =>
            have hf : Vq.Formed x := HF.out.2 ⟨by have h1 := HWHO.out; simp at h1; exact ⟨h1.1, by have := h1.2.1; simpa using this, h1.2.2⟩, by have h1 := HWHN.out; simp at h1; exact ⟨h1.1, h1.2.1, h1.2.2⟩, .inl rfl⟩
            have hl := HO8.out
            obtain ⟨_, g0, g1, g2, g3, g4, g5⟩ := hl.six
            obtain ⟨⟨q0, q1, q2, q3, q4, q5⟩, _⟩ := (hl.put6 (a := .string r0) (b := .string r2) (c := .string r6) (d := .int .i64 r3) (e := .int .i64 r4) (f := .int .i64 r5)).six
            have HEE : Hid (ReadEnd x w (.returned (.tuple #[.agg #[.string r0, .string r2, .string r6, .int .i64 r3, .int .i64 r4, .int .i64 r5], .bool true])) (put6 wc (w.heap.size + 1) (.string r0) (.string r2) (.string r6) (.int .i64 r3) (.int .i64 r4) (.int .i64 r5))) := HE.out _ ((HB8.out).trans (gb_down gb_put6 (HB8.out).size (Nat.le_succ _))) hf
            clear hf hl
            go_wp2
            exact bodyPost_ret (v := .tuple #[.agg #[.string r0, .string r2, .string r6, .int .i64 r3, .int .i64 r4, .int .i64 r5], .bool true]) (by simp [results, Tryd.results26, go_sem, q0, q1, q2, q3, q4, q5]) rfl HEE.out
          | false =>
            have hC := HC8.out wc HB8.out
            obtain ⟨⟨z0, z1, z2, z3, z4, z5⟩, _⟩ := HL8.out.six
            go_wp2_with fail
            refine hC.mono ?_
            rintro e W9 ⟨rfl, hb⟩
            clear hC z0 z1 z2 z3 z4 z5
            have HB9 := Lib.hid (below_more HB8.out hb)
            have HO9 := Lib.hid (HO8.out.below hb HO8.out.lt)
            clear hb
            cases b8 with
            | true =>
              have hnf : ¬ Vq.Formed x := fun hf => by have := HF.out.1 hf; rcases this.2.2 with h1 | h1 <;> cases h1
              have hl := HO9.out
              obtain ⟨_, g0, g1, g2, g3, g4, g5⟩ := hl.six
              obtain ⟨⟨q0, q1, q2, q3, q4, q5⟩, _⟩ := (hl.put6 (a := .string { data := #[] }) (b := .string { data := #[] }) (c := .string { data := #[] }) (d := .int .i64 0) (e := .int .i64 0) (f := .int .i64 0)).six
              have HEE : Hid (ReadEnd x w (.returned (.tuple #[.agg said0.toArray, .bool false])) (put6 W9 (w.heap.size + 1) (.string { data := #[] }) (.string { data := #[] }) (.string { data := #[] }) (.int .i64 0) (.int .i64 0) (.int .i64 0))) := HN.out _ ((HB9.out).trans (gb_down gb_put6 (HB9.out).size (Nat.le_succ _))) hnf
              clear hnf hl
              go_wp2
              exact bodyPost_ret (v := .tuple #[.agg said0.toArray, .bool false]) (by simp [results, Tryd.results26, go_sem, q0, q1, q2, q3, q4, q5]) rfl HEE.out
            | false =>
              have hf : Vq.Formed x := HF.out.2 ⟨by have h1 := HWHO.out; simp at h1; exact ⟨h1.1, by have := h1.2.1; simpa using this, h1.2.2⟩, by have h1 := HWHN.out; simp at h1; exact ⟨h1.1, h1.2.1, h1.2.2⟩, .inr rfl⟩
              have hl := HO9.out
              obtain ⟨_, g0, g1, g2, g3, g4, g5⟩ := hl.six
              obtain ⟨⟨q0, q1, q2, q3, q4, q5⟩, _⟩ := (hl.put6 (a := .string r0) (b := .string r2) (c := .string r6) (d := .int .i64 r3) (e := .int .i64 r4) (f := .int .i64 r5)).six
              have HEE : Hid (ReadEnd x w (.returned (.tuple #[.agg #[.string r0, .string r2, .string r6, .int .i64 r3, .int .i64 r4, .int .i64 r5], .bool true])) (put6 W9 (w.heap.size + 1) (.string r0) (.string r2) (.string r6) (.int .i64 r3) (.int .i64 r4) (.int .i64 r5))) := HE.out _ ((HB9.out).trans (gb_down gb_put6 (HB9.out).size (Nat.le_succ _))) hf
              clear hf hl
              go_wp2
              exact bodyPost_ret (v := .tuple #[.agg #[.string r0, .string r2, .string r6, .int .i64 r3, .int .i64 r4, .int .i64 r5], .bool true]) (by simp [results, Tryd.results26, go_sem, q0, q1, q2, q3, q4, q5]) rfl HEE.out
end Go.Proofs.YtoocejcoaojaiaaDoor
