/-
  The document's formed.
-/
import Derived.Test.YtoocejcoaojaiaaDoorVTextR
import Derived.Test.YtoocejcoaojaiaaDoorVRead
namespace Go.Proofs.YtoocejcoaojaiaaDoor
open Go.RowKit Go.Sort

theorem formed_dec (x : Jq.J) : decide (Vq.Formed x) = ((Vq.textOf x Vq.issN).isSome && ((Vq.textOf x Vq.subN).isSome && !(strOf ((Vq.textOf x Vq.subN).getD [])).toList.isEmpty) && (Vq.textOf x Vq.audN).isSome && (Vq.intOf x Vq.expN).isSome && (Vq.intOf x Vq.iatN).isSome &&
    ((getP x Vq.nbfN).isSome == (Vq.intOf x Vq.nbfN).isSome) && ((getP x Vq.nonceN).isSome == (Vq.textOf x Vq.nonceN).isSome)) := by
  rw [Bool.eq_iff_iff, decide_eq_true_iff, empty_text]
  unfold Vq.Formed
  cases hs : Vq.textOf x Vq.subN with
  | none => simp
  | some s =>
    simp only [Option.isSome_some, Option.getD_some, ne_eq, Option.some.injEq, Bool.and_eq_true, Bool.not_eq_true', beq_iff_eq, true_and]
    constructor
    · rintro ⟨h1, h2, h3, h4, h5, h6, h7⟩
      exact ⟨⟨⟨⟨⟨⟨h1, by cases s with | nil => exact absurd rfl h2 | cons a r => rfl⟩, h3⟩, h4⟩, h5⟩, h6⟩, h7⟩
    · rintro ⟨⟨⟨⟨⟨⟨h1, h2⟩, h3⟩, h4⟩, h5⟩, h6⟩, h7⟩
      exact ⟨h1, fun e => (by rw [e] at h2; cases h2), h3, h4, h5, h6, h7⟩
/-- What the document's Get answers, but for what it is. -/
theorem RGetEnd.shows {ok : Nat → Prop} {res : Option Jq.J} {w w' : World} {e : Ending} (h : RGetEnd ok res w e w') : Below w.heap.size w w' ∧ ∃ k b n t A1 n1 c1 A2 n2 c2, e = .returned (.tuple #[jv k b n t (.slice A1 n1 c1) (.slice A2 n2 c2), .bool res.isSome]) := by
  obtain ⟨hb, h⟩ := h
  refine ⟨hb, ?_⟩
  cases res with
  | none => exact ⟨_, _, _, _, _, _, _, _, _, _, h⟩
  | some y =>
    obtain ⟨u, rfl, hJ⟩ := h
    obtain ⟨A1, c1, A2, c2, rfl⟩ := hJ.form
    exact ⟨_, _, _, _, _, _, _, _, _, _, rfl⟩
set_option maxHeartbeats 1000000 in
set_option maxRecDepth 100000 in
theorem refFormed_any {ok : Nat → Prop} (x : Jq.J) (v : Value) (w : World) (hJ : IsJ w ok v x) : Calls Tryd.prog 28 #[v] w fun e w' => e = .returned (.bool (decide (Vq.Formed x))) ∧ Below w.heap.size w w' := by
  obtain ⟨A1, c1, A2, c2, rfl⟩ := hJ.form
  have HJ := Lib.hid hJ
  have hfd := formed_dec x
  have hC0 : ∀ W : World, Below w.heap.size w W → Calls Tryd.prog 20 #[jv x.kind x.bool x.int (strOf x.text) (.slice A1 x.names.length c1) (.slice A2 x.list.length c2), .string (strOf Vq.issN)] W fun e W' => e = .returned (.tuple #[.string (strOf ((Vq.textOf x Vq.issN).getD [])), .bool (Vq.textOf x Vq.issN).isSome]) ∧ Below W.heap.size W W' := fun W hb => refClaimText_any x _ Vq.issN (by decide) W (HJ.out.on hb)
  have hC1 : ∀ W : World, Below w.heap.size w W → Calls Tryd.prog 20 #[jv x.kind x.bool x.int (strOf x.text) (.slice A1 x.names.length c1) (.slice A2 x.list.length c2), .string (strOf Vq.subN)] W fun e W' => e = .returned (.tuple #[.string (strOf ((Vq.textOf x Vq.subN).getD [])), .bool (Vq.textOf x Vq.subN).isSome]) ∧ Below W.heap.size W W' := fun W hb => refClaimText_any x _ Vq.subN (by decide) W (HJ.out.on hb)
  have hC2 : ∀ W : World, Below w.heap.size w W → Calls Tryd.prog 20 #[jv x.kind x.bool x.int (strOf x.text) (.slice A1 x.names.length c1) (.slice A2 x.list.length c2), .string (strOf Vq.audN)] W fun e W' => e = .returned (.tuple #[.string (strOf ((Vq.textOf x Vq.audN).getD [])), .bool (Vq.textOf x Vq.audN).isSome]) ∧ Below W.heap.size W W' := fun W hb => refClaimText_any x _ Vq.audN (by decide) W (HJ.out.on hb)
  have hC3 : ∀ W : World, Below w.heap.size w W → Calls Tryd.prog 22 #[jv x.kind x.bool x.int (strOf x.text) (.slice A1 x.names.length c1) (.slice A2 x.list.length c2), .string (strOf Vq.expN)] W fun e W' => e = .returned (.tuple #[.int .i64 ((Vq.intOf x Vq.expN).getD 0), .bool (Vq.intOf x Vq.expN).isSome]) ∧ Below W.heap.size W W' := fun W hb => refClaimInt_any x _ Vq.expN (by decide) W (HJ.out.on hb)
  have hC4 : ∀ W : World, Below w.heap.size w W → Calls Tryd.prog 22 #[jv x.kind x.bool x.int (strOf x.text) (.slice A1 x.names.length c1) (.slice A2 x.list.length c2), .string (strOf Vq.iatN)] W fun e W' => e = .returned (.tuple #[.int .i64 ((Vq.intOf x Vq.iatN).getD 0), .bool (Vq.intOf x Vq.iatN).isSome]) ∧ Below W.heap.size W W' := fun W hb => refClaimInt_any x _ Vq.iatN (by decide) W (HJ.out.on hb)
  have hC5 : ∀ W : World, Below w.heap.size w W → Calls Tryd.prog 22 #[jv x.kind x.bool x.int (strOf x.text) (.slice A1 x.names.length c1) (.slice A2 x.list.length c2), .string (strOf Vq.nbfN)] W fun e W' => e = .returned (.tuple #[.int .i64 ((Vq.intOf x Vq.nbfN).getD 0), .bool (Vq.intOf x Vq.nbfN).isSome]) ∧ Below W.heap.size W W' := fun W hb => refClaimInt_any x _ Vq.nbfN (by decide) W (HJ.out.on hb)
  have hC6 : ∀ W : World, Below w.heap.size w W → Calls Tryd.prog 20 #[jv x.kind x.bool x.int (strOf x.text) (.slice A1 x.names.length c1) (.slice A2 x.list.length c2), .string (strOf Vq.nonceN)] W fun e W' => e = .returned (.tuple #[.string (strOf ((Vq.textOf x Vq.nonceN).getD [])), .bool (Vq.textOf x Vq.nonceN).isSome]) ∧ Below W.heap.size W W' := fun W hb => refClaimText_any x _ Vq.nonceN (by decide) W (HJ.out.on hb)
  have hC7 : ∀ W : World, Below w.heap.size w W → Calls Tryd.prog 38 #[jv x.kind x.bool x.int (strOf x.text) (.slice A1 x.names.length c1) (.slice A2 x.list.length c2), .string (strOf Vq.nbfN)] W fun e W' => Below W.heap.size W W' ∧ ∃ k b n t A1 n1 c1 A2 n2 c2, e = .returned (.tuple #[jv k b n t (.slice A1 n1 c1) (.slice A2 n2 c2), .bool (getP x Vq.nbfN).isSome]) := fun W hb => (refGet_any x _ Vq.nbfN (by decide) W (HJ.out.on hb)).mono fun e w' h => h.shows
  have hC8 : ∀ W : World, Below w.heap.size w W → Calls Tryd.prog 38 #[jv x.kind x.bool x.int (strOf x.text) (.slice A1 x.names.length c1) (.slice A2 x.list.length c2), .string (strOf Vq.nonceN)] W fun e W' => Below W.heap.size W W' ∧ ∃ k b n t A1 n1 c1 A2 n2 c2, e = .returned (.tuple #[jv k b n t (.slice A1 n1 c1) (.slice A2 n2 c2), .bool (getP x Vq.nonceN).isSome]) := fun W hb => (refGet_any x _ Vq.nonceN (by decide) W (HJ.out.on hb)).mono fun e w' h => h.shows
  obtain ⟨b0, eb0⟩ : ∃ b, (Vq.textOf x Vq.issN).isSome = b := ⟨_, rfl⟩
  obtain ⟨r0, er0⟩ : ∃ r, strOf ((Vq.textOf x Vq.issN).getD []) = r := ⟨_, rfl⟩
  obtain ⟨b1, eb1⟩ : ∃ b, (Vq.textOf x Vq.subN).isSome = b := ⟨_, rfl⟩
  obtain ⟨r1, er1⟩ : ∃ r, strOf ((Vq.textOf x Vq.subN).getD []) = r := ⟨_, rfl⟩
  obtain ⟨b2, eb2⟩ : ∃ b, (Vq.textOf x Vq.audN).isSome = b := ⟨_, rfl⟩
  obtain ⟨r2, er2⟩ : ∃ r, strOf ((Vq.textOf x Vq.audN).getD []) = r := ⟨_, rfl⟩
  obtain ⟨b3, eb3⟩ : ∃ b, (Vq.intOf x Vq.expN).isSome = b := ⟨_, rfl⟩
  obtain ⟨r3, er3⟩ : ∃ r, (Vq.intOf x Vq.expN).getD 0 = r := ⟨_, rfl⟩
  obtain ⟨b4, eb4⟩ : ∃ b, (Vq.intOf x Vq.iatN).isSome = b := ⟨_, rfl⟩
  obtain ⟨r4, er4⟩ : ∃ r, (Vq.intOf x Vq.iatN).getD 0 = r := ⟨_, rfl⟩
  obtain ⟨b5, eb5⟩ : ∃ b, (Vq.intOf x Vq.nbfN).isSome = b := ⟨_, rfl⟩
  obtain ⟨r5, er5⟩ : ∃ r, (Vq.intOf x Vq.nbfN).getD 0 = r := ⟨_, rfl⟩
  obtain ⟨b6, eb6⟩ : ∃ b, (Vq.textOf x Vq.nonceN).isSome = b := ⟨_, rfl⟩
  obtain ⟨r6, er6⟩ : ∃ r, strOf ((Vq.textOf x Vq.nonceN).getD []) = r := ⟨_, rfl⟩
  obtain ⟨b7, eb7⟩ : ∃ b, (getP x Vq.nbfN).isSome = b := ⟨_, rfl⟩
  obtain ⟨b8, eb8⟩ : ∃ b, (getP x Vq.nonceN).isSome = b := ⟨_, rfl⟩
  rw [eb0, eb1, er1, eb2, eb3, eb4, eb7, eb5, eb8, eb6] at hfd
  obtain ⟨FD, eFD⟩ : ∃ d, decide (Vq.Formed x) = d := ⟨_, rfl⟩
  rw [eFD] at hfd ⊢
  simp only [eb0, er0] at hC0
  simp only [eb1, er1] at hC1
  simp only [eb2, er2] at hC2
  simp only [eb3, er3] at hC3
  simp only [eb4, er4] at hC4
  simp only [eb5, er5] at hC5
  simp only [eb6, er6] at hC6
  simp only [eb7] at hC7
  simp only [eb8] at hC8
  have HC0 := Lib.hid hC0
  have HC1 := Lib.hid hC1
  have HC2 := Lib.hid hC2
  have HC3 := Lib.hid hC3
  have HC4 := Lib.hid hC4
  have HC5 := Lib.hid hC5
  have HC6 := Lib.hid hC6
  have HC7 := Lib.hid hC7
  have HC8 := Lib.hid hC8
  have HFD := Lib.hid hfd
  clear hJ hfd eFD hC0 eb0 hC1 eb1 hC2 eb2 hC3 eb3 hC4 eb4 hC5 eb5 hC6 eb6 hC7 eb7 hC8 eb8 er0 er1 er2 er3 er4 er5 er6
  obtain ⟨W0, eW0⟩ : ∃ W0, W0 = (w.alloc (.cells #[.int .i64 x.kind, .bool x.bool, .int .i64 x.int, .string (strOf x.text), .slice A1 x.names.length c1, .slice A2 x.list.length c2] 28)).alloc (.cells #[.string { data := #[105, 115, 115] }, .string { data := #[115, 117, 98] }, .string { data := #[97, 117, 100] }] 9) := ⟨_, rfl⟩
  have hb0 : Below w.heap.size w W0 := by rw [eW0]; exact (one_alloc _ _).alloc (by simp) _
  have hl0 : Lies W0 w.heap.size 28 [.int .i64 x.kind, .bool x.bool, .int .i64 x.int, .string (strOf x.text), .slice A1 x.names.length c1, .slice A2 x.list.length c2] := by rw [eW0]; exact (Lies.new_ rfl).alloc _
  have hn0 : Lies W0 (w.heap.size + 1) 9 [.string { data := #[105, 115, 115] }, .string { data := #[115, 117, 98] }, .string { data := #[97, 117, 100] }] := by rw [eW0]; exact Lies.new_ (by simp)
  have HB0 := Lib.hid hb0
  have HL0 := Lib.hid hl0
  have HN0 := Lib.hid hn0
  have HW0 := Lib.hid eW0
  have HNO : Hid (∀ W : World, Below w.heap.size w W → FD = false → (Ending.returned (.bool false) = .returned (.bool FD) ∧ Below w.heap.size w W)) := fun W hb h => ⟨by rw [h], hb⟩
  clear hb0 hl0 hn0 eW0
  go_enter Tryd.func28, Tryd.ntmps28
  go_wp2_with fail
  go_loopw [21] (fun i wr => ∃ k : Nat, i = .int .i64 k ∧ k ≤ 3 ∧ Hid ((1 ≤ k → b0 = true) ∧ (2 ≤ k → b1 = true ∧ r1.toList.isEmpty = false) ∧ (3 ≤ k → b2 = true)) ∧ Hid (Below W0.heap.size W0 wr)) (fun i _ => 3 - (intOf i).toNat)
  case atStart => exact ⟨0, rfl, Nat.zero_le _, Lib.hid ⟨fun h => absurd h (by decide), fun h => absurd h (by decide), fun h => absurd h (by decide)⟩, by rw [HW0.out]; exact Lib.hid (Below.refl _ _)⟩
  case round =>
    obtain ⟨k, rfl, hk, HK, HB⟩ := hrel
    by_cases hlt : k < 3
    · have HBw := Lib.hid (HB0.out.trans (HB.out.mono HB0.out.size))
      obtain ⟨⟨z0, z1, z2, z3, z4, z5⟩, _⟩ := (HL0.out.below HB.out HL0.out.lt).six
      have hnr := HN0.out.below HB.out HN0.out.lt
      have hk3 : k = 0 ∨ k = 1 ∨ k = 2 := by omega
      clear hk hlt
      rcases hk3 with rfl | rfl | rfl
      · have hn : wr.cell? ⟨w.heap.size + 1, 0, none⟩ = some (.string { data := #[105, 115, 115] }) := hnr.cell 0
        have hC := HC0.out wr HBw.out
        clear hnr
        go_wp2_with fail
        refine hC.mono ?_
        rintro e w1 ⟨rfl, hb⟩
        clear hC z0 z1 z2 z3 z4 z5 hn
        have HB1 := Lib.hid (below_more HBw.out hb)
        have HBn := Lib.hid (below_more HB.out hb)
        clear hb
        cases b0 with
        | false =>
          have HE := HNO.out w1 HB1.out (by rw [HFD.out]; simp)
          have HEE := Lib.hid HE
          clear HE
          go_wp2
          go_ret
          exact HEE.out
        | true =>
          have HQ : Hid ((1 ≤ 1 → true = true) ∧ (2 ≤ 1 → b1 = true ∧ r1.toList.isEmpty = false) ∧ (3 ≤ 1 → b2 = true)) := ⟨fun _ => rfl, fun h => absurd h (by decide), fun h => absurd h (by decide)⟩
          go_wp2
          go_roundw
          case rel => exact ⟨1, by go_num, by omega, Lib.hid HQ.out, HBn⟩
          case measure => simp [intOf]
      · have hn : wr.cell? ⟨w.heap.size + 1, 1, none⟩ = some (.string { data := #[115, 117, 98] }) := hnr.cell 1
        have hC := HC1.out wr HBw.out
        clear hnr
        go_wp2_with fail
        refine hC.mono ?_
        rintro e w1 ⟨rfl, hb⟩
        clear hC z0 z1 z2 z3 z4 z5 hn
        have HB1 := Lib.hid (below_more HBw.out hb)
        have HBn := Lib.hid (below_more HB.out hb)
        clear hb
        cases b1 with
        | false =>
          have HE := HNO.out w1 HB1.out (by rw [HFD.out]; simp)
          have HEE := Lib.hid HE
          clear HE
          go_wp2
          go_ret
          exact HEE.out
        | true =>
          cases hem : r1.toList.isEmpty with
          | true =>
            have HE := HNO.out w1 HB1.out (by rw [HFD.out, hem]; simp)
            have HEE := Lib.hid HE
            obtain rfl : r1 = ByteArray.empty := by
              have h1 : r1.toList = [] := by simpa using hem
              rw [ByteArray.toList_eq] at h1
              exact ByteArray.ext (Array.toList_inj.1 h1)
            clear hem HE
            go_wp2
            go_ret
            exact HEE.out
          | false =>
            have hem2 : r1.toList ≠ [] := fun h => by rw [h] at hem; cases hem
            have HQ : Hid ((1 ≤ 2 → b0 = true) ∧ (2 ≤ 2 → true = true ∧ r1.toList.isEmpty = false) ∧ (3 ≤ 2 → b2 = true)) := ⟨fun _ => HK.out.1 (by decide), fun _ => ⟨rfl, hem⟩, fun h => absurd h (by decide)⟩
            go_wp2
            go_roundw
            case rel => exact ⟨2, by go_num, by omega, Lib.hid HQ.out, HBn⟩
            case measure => simp [intOf]
      · have hn : wr.cell? ⟨w.heap.size + 1, 2, none⟩ = some (.string { data := #[97, 117, 100] }) := hnr.cell 2
        have hC := HC2.out wr HBw.out
        clear hnr
        go_wp2_with fail
        refine hC.mono ?_
        rintro e w1 ⟨rfl, hb⟩
        clear hC z0 z1 z2 z3 z4 z5 hn
        have HB1 := Lib.hid (below_more HBw.out hb)
        have HBn := Lib.hid (below_more HB.out hb)
        clear hb
        cases b2 with
        | false =>
          have HE := HNO.out w1 HB1.out (by rw [HFD.out]; simp)
          have HEE := Lib.hid HE
          clear HE
          go_wp2
          go_ret
          exact HEE.out
        | true =>
          have HQ : Hid ((1 ≤ 3 → b0 = true) ∧ (2 ≤ 3 → b1 = true ∧ r1.toList.isEmpty = false) ∧ (3 ≤ 3 → true = true)) := ⟨fun _ => HK.out.1 (by decide), fun _ => HK.out.2.1 (by decide), fun _ => rfl⟩
          go_wp2
          go_roundw
          case rel => exact ⟨3, by go_num, by omega, Lib.hid HQ.out, HBn⟩
          case measure => simp [intOf]
    · obtain rfl : k = 3 := by omega
      rw [show ((3 : Nat) : Int) = 3 from rfl]
      have hk0 := HK.out.1 (by decide)
      have hk1 := HK.out.2.1 (by decide)
      have hk2 := HK.out.2.2 (by decide)
      have HFD2 : Hid (FD = (b3 && b4 && (b7 == b5) && (b8 == b6))) := by unfold Hid; rw [HFD.out, hk0, hk1.1, hk1.2, hk2]; simp
      have HBw := Lib.hid (HB0.out.trans (HB.out.mono HB0.out.size))
      have HLr := Lib.hid (HL0.out.below HB.out HL0.out.lt)
      obtain ⟨W1, eW1⟩ : ∃ W1, W1 = wr.alloc (.cells #[.string { data := #[101, 120, 112] }, .string { data := #[105, 97, 116] }] 9) := ⟨_, rfl⟩
      have hb1 : Below wr.heap.size wr W1 := by rw [eW1]; exact one_alloc _ _
      have hn1 : Lies W1 wr.heap.size 9 [.string { data := #[101, 120, 112] }, .string { data := #[105, 97, 116] }] := by rw [eW1]; exact Lies.new_ rfl
      have HB1 := Lib.hid (below_more HBw.out hb1)
      have HL1 := Lib.hid (HLr.out.below hb1 HLr.out.lt)
      have HN1 := Lib.hid hn1
      have HW1 := Lib.hid eW1
      clear hk0 hk1 hk2 HK hb1 hn1 eW1 HFD HB hk hlt
      obtain ⟨wo, ewo⟩ : ∃ wo, wr = wo := ⟨_, rfl⟩
      subst ewo
      go_wp2_with fail
      go_loopw [44] (fun i wq => ∃ j : Nat, i = .int .i64 j ∧ j ≤ 2 ∧ Hid ((1 ≤ j → b3 = true) ∧ (2 ≤ j → b4 = true)) ∧ Hid (Below W1.heap.size W1 wq)) (fun i _ => 2 - (intOf i).toNat)
      case atStart => exact ⟨0, rfl, Nat.zero_le _, Lib.hid ⟨fun h => absurd h (by decide), fun h => absurd h (by decide)⟩, by rw [HW1.out]; exact Lib.hid (Below.refl _ _)⟩
      case round =>
        obtain ⟨j, rfl, hj, HK, HB⟩ := hrel
        have HBv := Lib.hid (HB1.out.trans (HB.out.mono HB1.out.size))
        have HLv := Lib.hid (HL1.out.below HB.out HL1.out.lt)
        by_cases hlt : j < 2
        · obtain ⟨⟨z0, z1, z2, z3, z4, z5⟩, _⟩ := HLv.out.six
          have hnr := HN1.out.below HB.out HN1.out.lt
          have hj2 : j = 0 ∨ j = 1 := by omega
          clear hj hlt
          rcases hj2 with rfl | rfl
          · have hn := hnr.cell 0
            simp only [List.getElem?_cons_zero] at hn
            have hC := HC3.out wr HBv.out
            clear hnr
            go_wp2_with fail
            refine hC.mono ?_
            rintro e w1 ⟨rfl, hb⟩
            clear hC z0 z1 z2 z3 z4 z5 hn
            have HBq := Lib.hid (below_more HBv.out hb)
            have HBn := Lib.hid (below_more HB.out hb)
            clear hb
            cases b3 with
            | false =>
              have HE := HNO.out w1 HBq.out (by rw [HFD2.out]; simp)
              have HEE := Lib.hid HE
              clear HE
              go_wp2
              go_ret
              exact HEE.out
            | true =>
              have HQ : Hid ((1 ≤ 1 → true = true) ∧ (2 ≤ 1 → b4 = true)) := ⟨fun _ => rfl, fun h => absurd h (by decide)⟩
              go_wp2
              go_roundw
              case rel => exact ⟨1, by go_num, by omega, Lib.hid HQ.out, HBn⟩
              case measure => simp [intOf]
          · have hn := hnr.cell 1
            simp only [List.getElem?_cons_zero, List.getElem?_cons_succ] at hn
            have hC := HC4.out wr HBv.out
            clear hnr
            go_wp2_with fail
            refine hC.mono ?_
            rintro e w1 ⟨rfl, hb⟩
            clear hC z0 z1 z2 z3 z4 z5 hn
            have HBq := Lib.hid (below_more HBv.out hb)
            have HBn := Lib.hid (below_more HB.out hb)
            clear hb
            cases b4 with
            | false =>
              have HE := HNO.out w1 HBq.out (by rw [HFD2.out]; simp)
              have HEE := Lib.hid HE
              clear HE
              go_wp2
              go_ret
              exact HEE.out
            | true =>
              have HQ : Hid ((1 ≤ 2 → b3 = true) ∧ (2 ≤ 2 → true = true)) := ⟨fun _ => HK.out.1 (by decide), fun _ => rfl⟩
              go_wp2
              go_roundw
              case rel => exact ⟨2, by go_num, by omega, Lib.hid HQ.out, HBn⟩
              case measure => simp [intOf]
        · obtain rfl : j = 2 := by omega
          have hk0 := HK.out.1 (by decide)
          have hk1 := HK.out.2 (by decide)
          have HFD3 : Hid (FD = ((b7 == b5) && (b8 == b6))) := by unfold Hid; rw [HFD2.out, hk0, hk1]; simp
          clear hk0 hk1 HK HB hj hlt
          obtain ⟨⟨z0, z1, z2, z3, z4, z5⟩, _⟩ := HLv.out.six
          have hC := HC7.out wr HBv.out
          go_wp2_with fail
          refine hC.mono ?_
          rintro e w1 ⟨hb, k0, k1, k2, k3, E1, n1, d1, E2, n2, d2, rfl⟩
          clear hC z0 z1 z2 z3 z4 z5
          obtain ⟨W2, eW2⟩ : ∃ W2, W2 = w1.alloc (.cells #[.int .i64 k0, .bool k1, .int .i64 k2, .string k3, .slice E1 n1 d1, .slice E2 n2 d2] 28) := ⟨_, rfl⟩
          have hb2 : Below w1.heap.size w1 W2 := by rw [eW2]; exact one_alloc _ _
          have HBw2 := Lib.hid (below_more (below_more HBv.out hb) hb2)
          have hl2 := (HLv.out.below hb HLv.out.lt).below hb2 (HLv.out.below hb HLv.out.lt).lt
          have HL2 := Lib.hid hl2
          have HW2 := Lib.hid eW2
          clear hb hb2 hl2 eW2
          go_upto_region 16 with (fail)
          rw [← HW2.out]
          obtain ⟨⟨z0, z1, z2, z3, z4, z5⟩, _⟩ := HL2.out.six
          have hC := HC5.out W2 HBw2.out
          go_wp2_with fail
          refine hC.mono ?_
          rintro e w3 ⟨rfl, hb⟩
          clear hC z0 z1 z2 z3 z4 z5
          have HBw3 := Lib.hid (below_more HBw2.out hb)
          have HL3 := Lib.hid (HL2.out.below hb HL2.out.lt)
          clear hb
          obtain ⟨⟨z0, z1, z2, z3, z4, z5⟩, _⟩ := HL3.out.six
          have hC := HC8.out w3 HBw3.out
          go_wp2_with fail
          refine hC.mono ?_
          rintro e w4 ⟨hb, k4, k5, k6, k7, E3, n3, d3, E4, n4, d4, rfl⟩
          clear hC z0 z1 z2 z3 z4 z5
          obtain ⟨W5, eW5⟩ : ∃ W5, W5 = w4.alloc (.cells #[.int .i64 k4, .bool k5, .int .i64 k6, .string k7, .slice E3 n3 d3, .slice E4 n4 d4] 28) := ⟨_, rfl⟩
          have hb5 : Below w4.heap.size w4 W5 := by rw [eW5]; exact one_alloc _ _
          have HBw5 := Lib.hid (below_more (below_more HBw3.out hb) hb5)
          have hl5 := (HL3.out.below hb HL3.out.lt).below hb5 (HL3.out.below hb HL3.out.lt).lt
          have HL5 := Lib.hid hl5
          have HW5 := Lib.hid eW5
          clear hb hb5 hl5 eW5
          go_upto_region 18 with (fail)
          rw [← HW5.out]
          obtain ⟨⟨z0, z1, z2, z3, z4, z5⟩, _⟩ := HL5.out.six
          have hC := HC6.out W5 HBw5.out
          go_wp2_with fail
          refine hC.mono ?_
          rintro e w6 ⟨rfl, hb⟩
          clear hC z0 z1 z2 z3 z4 z5
          have HBw6 := Lib.hid (below_more HBw5.out hb)
          clear hb
          cases b7 <;> cases b5 <;> cases b8 <;> cases b6
          all_goals
            go_wp2
            go_ret
            exact ⟨by rw [HFD3.out]; rfl, HBw6.out⟩
end Go.Proofs.YtoocejcoaojaiaaDoor
