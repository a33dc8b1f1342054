/-
  QX5: JRText, side by side.
-/
import Derived.Test.YthklgpflaghojaaGreatDoorQX4
import Derived.Test.YthklgpflaghojaaGreatDoorQX1
import Derived.Lib.AppendStr
import Derived.Deep.RegionLaw
import Derived.Test.YthklgpflaghojaaGreatDoorQM

/-
  The document's text.
-/
namespace Go.Proofs.YthklgpflaghojaaGreatDoor
open Go.RowKit

theorem strCells_nums (s : ByteArray) : Lib.strCells s = u8s (numsOf s) := by
  unfold Lib.strCells u8s numsOf
  rw [List.map_map]
  rfl
theorem rune_len (r : Nat) : (Jq.runeBytes r).length ≤ 4 := by
  unfold Jq.runeBytes
  repeat' split
  all_goals simp
theorem long_le4 (l : List Nat) : Jq.long l ≤ 4 := by
  unfold Jq.long
  repeat' split
  all_goals omega
section
variable {ops : Array Oper} {rest : List Oper} {o : Oper} {a : Act} {Q : Exit → Act → World → Prop} {w : World} {K : Act → World → Prop} {E : Prop}
end
/-- What is kept of the call's own world while a text is read. -/
structure TextSt (w wr : World) (v : Value) (acc : List Nat) : Prop where
  below : Below w.heap.size w wr
  res : Lies wr w.heap.size 117 zero8
  row : wr.ownsRow (w.heap.size + 1) 5 1 v acc.length (u8s acc)
  bytes : ∀ x ∈ acc, x < 256
section
variable {w wr wr' : World} {v v' : Value} {acc q : List Nat}
theorem TextSt.on (h : TextSt w wr v acc) (hb : Below wr.heap.size wr wr') : TextSt w wr' v acc :=
  ⟨below_more h.below hb, h.res.below hb h.res.lt, own_below h.row hb, h.bytes⟩
theorem TextSt.grow (h : TextSt w wr v acc) (ho : wr'.ownsRow (w.heap.size + 1) 5 1 v' (acc.length + q.length) (u8s acc ++ u8s q)) (hg : wr.grownBy wr' v.ownBlock) (hq : ∀ x ∈ q, x < 256) : TextSt w wr' v' (acc ++ q) :=
  ⟨h.below.grown hg h.below.size (fun k e => by have := (h.row.lt k e).1; omega), h.res.grown hg (fun e => by have := (h.row.lt _ e.symm).1; omega), by rw [List.length_append, u8s_append]; exact ho, fun x hx => by
    rcases List.mem_append.1 hx with hx | hx
    · exact h.bytes x hx
    · exact hq x hx⟩
theorem TextSt.drew (h : TextSt w wr v acc) : TextSt w wr.drew v acc := ⟨h.below.drew, h.res, h.row, h.bytes⟩
end
/-- What is read of a text so far. -/
def RTextRel (RES : Jq.R (List Nat)) (S : List Nat) (i : Nat) (w : World) (i' v : Value) (wr : World) : Prop :=
  ∃ (k : Nat) (acc : List Nat), i' = .int .i64 k ∧ i ≤ k ∧ k ≤ S.length ∧ TextSt w wr v acc ∧ acc.length ≤ 4 * k ∧ Hid (TextAt RES S k acc)

set_option maxHeartbeats 1000000 in
set_option maxRecDepth 100000 in
theorem readText_any (s : ByteArray) (i : Nat) (hi : i < s.size) (hs : s.size ≤ 4096) (w : World) :
    Calls Tryz.prog 104 #[.string s, .int .i64 i] w (GotEnd (numsOf s) i ((Jq.text ((numsOf s).drop (i + 1))).map fun q => (Jq.textJ q.1, q.2)) w) := by
  obtain ⟨RT, eRT⟩ : ∃ RT, Jq.text ((numsOf s).drop (i + 1)) = RT := ⟨_, rfl⟩
  obtain ⟨RES, eRES⟩ : ∃ RES, (RT.map fun q => (Jq.textJ q.1, q.2) : Jq.R Jq.J) = RES := ⟨_, rfl⟩
  rw [eRT, eRES]
  have HERR : Hid (RT = .error 53 → RES = .error 53) := fun h => by rw [← eRES, h]; rfl
  have HOK : Hid (∀ t r, RT = .ok (t, r) → RES = .ok (.mk 3 false 0 t [] [], r)) := fun t r h => by rw [← eRES, h]; rfl
  have Hlen := Lib.hid (numsOf_length s)
  have h0 : Hid (RTextRel RT (numsOf s) i w (.int .i64 ((i + 1 : Nat) : Int)) nilS (w.alloc (.cells zero8.toArray 117))) := by
    refine ⟨i + 1, [], rfl, Nat.le_succ _, by rw [Hlen.out]; exact hi, ⟨(Below.refl _ _).alloc (Nat.le_refl _) _, Lies.new_ rfl, World.ownsRow_nil _ _ _ _, (fun x hx => nomatch hx)⟩, Nat.zero_le _, ?_⟩
    refine Lib.hid ?_
    unfold TextAt
    rw [eRT]
    cases RT <;> simp [Except.map]
  clear eRT eRES
  go_enter Tryz.func104, Tryz.ntmps104
  go_wp2_with fail
  go_loopw [1, 5] (fun i' v wr => RTextRel RT (numsOf s) i w i' v wr) (fun i' _ _ => s.size - (intOf i').toNat)
  case atStart => exact h0.out
  case round =>
    obtain ⟨k, acc, rfl, hik, hk, hst, hal, hat⟩ := hrel
    rw [Hlen.out] at hk
    obtain ⟨c, ec⟩ : ∃ c, (numsOf s).getD k 0 = c := ⟨_, rfl⟩
    have hc256 : c < 256 := by rw [← ec]; exact nums_lt s k
    have HAT := hat
    have HEC := Lib.hid ec
    have HST := Lib.hid hst
    have HNO : Hid (∀ w2, Below wr.heap.size wr w2 → RT = .error 53 → GotEnd (numsOf s) i RES w (.returned (errV 53)) (putErr w2 w.heap.size 53)) := fun w2 hb h => got_no (n := 53) (HERR.out h) rfl (by decide) (below_more HST.out.below hb)
    have HRES : Hid (∀ w2, Below wr.heap.size wr w2 → Lies w2 w.heap.size 117 zero8) := fun w2 hb => HST.out.res.below hb HST.out.res.lt
    by_cases hlt : k < s.size
    rotate_left
    · obtain rfl : k = s.size := by omega
      have hd : decide ((s.size : Int) < (s.size : Int)) = false := by simp
      obtain ⟨⟨z0, z1, z2, z3, z4, z5, z6, z7⟩, f0, f1, f2, f3, f4, f5, f6, f7⟩ := (HRES.out wr (Below.refl _ _)).eight
      have HE := Lib.hid (HNO.out wr (Below.refl _ _) (HAT.out.eof (Nat.le_of_eq Hlen.out)))
      have HZ := Lib.hid (put8_lies (a := .int .i64 0) (b := .bool false) (c := .int .i64 0) (d := .string { data := #[] }) (e := nilS) (f := nilS) (h := .int .i64 0) (k := .int .i64 53) (HRES.out wr (Below.refl _ _)))
      clear HNO HRES HAT hat hst ec h0
      go_wp2
      refine bodyPost_ret (v := errV 53) ?_ rfl ?_
      · have hz := HZ.out
        unfold put8 at hz
        generalize World.setCell (World.setCell (World.setCell (World.setCell (World.setCell (World.setCell (World.setCell (World.setCell wr _ _) _ _) _ _) _ _) _ _) _ _) _ _) _ _ = w9 at hz ⊢
        obtain ⟨⟨z0, z1, z2, z3, z4, z5, z6, z7⟩, _⟩ := hz.eight
        simp [results, Tryz.results104, go_sem, z0, z1, z2, z3, z4, z5, z6, z7] <;> rfl
      · exact HE.out
    have hd : decide ((k : Int) < (s.size : Int)) = true := decide_eq_true (by omega)
    have hx : s[k].toNat = c := by rw [← nums_at s k hlt, ec]
    have HKL : Hid (k < (numsOf s).length) := by unfold Hid; rw [Hlen.out]; exact hlt
    by_cases h32 : c < 32
    · have hd2 : decide ((32 : Int) ≤ (s[k].toNat : Int)) = false := decide_eq_false (by omega)
      obtain ⟨⟨z0, z1, z2, z3, z4, z5, z6, z7⟩, f0, f1, f2, f3, f4, f5, f6, f7⟩ := (HRES.out wr (Below.refl _ _)).eight
      have HE := Lib.hid (HNO.out wr (Below.refl _ _) (HAT.out.low HKL.out HEC.out h32))
      have HZ := Lib.hid (put8_lies (a := .int .i64 0) (b := .bool false) (c := .int .i64 0) (d := .string { data := #[] }) (e := nilS) (f := nilS) (h := .int .i64 0) (k := .int .i64 53) (HRES.out wr (Below.refl _ _)))
      clear HNO HRES HAT hat hst ec h0 h32 hx
      go_wp2
      refine bodyPost_ret (v := errV 53) ?_ rfl ?_
      · have hz := HZ.out
        unfold put8 at hz
        generalize World.setCell (World.setCell (World.setCell (World.setCell (World.setCell (World.setCell (World.setCell (World.setCell wr _ _) _ _) _ _) _ _) _ _) _ _) _ _) _ _ = w9 at hz ⊢
        obtain ⟨⟨z0, z1, z2, z3, z4, z5, z6, z7⟩, _⟩ := hz.eight
        simp [results, Tryz.results104, go_sem, z0, z1, z2, z3, z4, z5, z6, z7] <;> rfl
      · exact HE.out
    have hd2 : decide ((32 : Int) ≤ (s[k].toNat : Int)) = true := decide_eq_true (by omega)
    by_cases h34 : c = 34
    · subst h34
      have hd3 : ((s[k].toNat : Int) == 34) = true := by rw [hx]; rfl
      obtain ⟨A, cp, rfl⟩ := own_slice hst.row
      obtain ⟨_, harg⟩ := own_arg hst.row hst.bytes
      have hcv := conv_str harg
      have hal2 : acc.length ≤ 140737488355328 := by omega
      obtain ⟨⟨z0, z1, z2, z3, z4, z5, z6, z7⟩, f0, f1, f2, f3, f4, f5, f6, f7⟩ := hst.res.eight
      have HE : Hid (GotEnd (numsOf s) i RES w (.returned (gotV 3 false 0 (strOf acc) nilS nilS ((k : Int) + 1) 0)) (put8 wr w.heap.size (.int .i64 3) (.bool false) (.int .i64 0) (.string (strOf acc)) nilS nilS (.int .i64 ((k : Int) + 1)) (.int .i64 0))) :=
        got_ok (x := .mk 3 false 0 acc [] []) (C := w.heap.size + 1) (j := k + 1) (A1 := none) (A2 := none) (c1 := 0) (c2 := 0) (HOK.out _ _ (HAT.out.fin HKL.out HEC.out)) (isJ_plain _ _ (k := 3) (n := 0) (b := false) (t := acc) (by decide) (by decide) ⟨hal2, hst.bytes⟩) (Nat.lt_succ_self _) rfl HKL.out (by omega) hst.below
      have HZ := Lib.hid (put8_lies (a := .int .i64 3) (b := .bool false) (c := .int .i64 0) (d := .string (strOf acc)) (e := nilS) (f := nilS) (h := .int .i64 ((k : Int) + 1)) (k := .int .i64 0) hst.res)
      clear HNO HRES HAT hat hst ec h0 h32 hx harg
      go_wp2
      refine bodyPost_ret (v := gotV 3 false 0 (strOf acc) nilS nilS ((k : Int) + 1) 0) ?_ rfl ?_
      · have hz := HZ.out
        unfold put8 at hz
        generalize World.setCell (World.setCell (World.setCell (World.setCell (World.setCell (World.setCell (World.setCell (World.setCell wr _ _) _ _) _ _) _ _) _ _) _ _) _ _) _ _ = w9 at hz ⊢
        obtain ⟨⟨z0, z1, z2, z3, z4, z5, z6, z7⟩, _⟩ := hz.eight
        simp [results, Tryz.results104, go_sem, z0, z1, z2, z3, z4, z5, z6, z7] <;> rfl
      · exact HE.out
    have hd3 : ((s[k].toNat : Int) == 34) = false := by rw [beq_eq_false_iff_ne]; omega
    by_cases h92 : c = 92
    · subst h92
      have hd4 : ((s[k].toNat : Int) == 92) = true := by rw [hx]; rfl
      have hE := refEscape_any s (k + 1) (by omega) wr
      rw [show ((k + 1 : Nat) : Int) = (k : Int) + 1 from by omega] at hE
      clear h32 h34 hx h0 ec hat hc256
      go_wp2_with fail
      refine hE.mono ?_
      rintro e w1 ⟨rfl, r, nx, rfl, hm⟩
      clear hE
      cases he : Jq.escape ((numsOf s).drop (k + 1)) with
      | none =>
        rw [he] at hm
        have hr : r < 0 := hm
        have hd5 : decide (r < 0) = true := decide_eq_true hr
        obtain ⟨⟨z0, z1, z2, z3, z4, z5, z6, z7⟩, f0, f1, f2, f3, f4, f5, f6, f7⟩ := (HRES.out wr (Below.refl _ _)).eight
        have HE := Lib.hid (HNO.out wr (Below.refl _ _) (HAT.out.escNone HKL.out HEC.out he))
        have HZ := Lib.hid (put8_lies (a := .int .i64 0) (b := .bool false) (c := .int .i64 0) (d := .string { data := #[] }) (e := nilS) (f := nilS) (h := .int .i64 0) (k := .int .i64 53) (HRES.out wr (Below.refl _ _)))
        clear HNO HRES HAT hst he hm hr
        go_wp2
        refine bodyPost_ret (v := errV 53) ?_ rfl ?_
        · have hz := HZ.out
          unfold put8 at hz
          generalize World.setCell (World.setCell (World.setCell (World.setCell (World.setCell (World.setCell (World.setCell (World.setCell wr _ _) _ _) _ _) _ _) _ _) _ _) _ _) _ _ = w9 at hz ⊢
          obtain ⟨⟨z0, z1, z2, z3, z4, z5, z6, z7⟩, _⟩ := hz.eight
          simp [results, Tryz.results104, go_sem, z0, z1, z2, z3, z4, z5, z6, z7] <;> rfl
        · exact HE.out
      | some p =>
        obtain ⟨x, rest⟩ := p
        rw [he] at hm
        obtain ⟨rfl, hx1, k', rfl, hk1, hk2, hrest⟩ := hm
        have HT := Lib.hid (HAT.out.esc HKL.out HEC.out he hrest)
        have hd5 : decide ((x : Int) < 0) = false := decide_eq_false (by omega)
        have hW := fun w => writeRune_any x hx1 w
        have hrl := rune_len x
        have HRB := Lib.hid (rune_lt x hx1)
        have hown := hst.row
        have hw1 : w.heap.size + 1 ≤ wr.heap.size := hst.res.lt
        rw [Hlen.out] at hk2
        have HST1 := Lib.hid hst
        clear he hrest HNO HRES HAT hst
        go_wp2_with fail
        refine (hW _).mono ?_
        intro e w2 hh
        obtain ⟨A, cp, rfl, hq, hb2⟩ := hh
        clear hW
        have hst2 := HST1.out.on hb2
        have hown2 := hst2.row
        have HST2 := Lib.hid hst2
        have hw2 : w.heap.size + 1 ≤ w2.heap.size := hst2.res.lt
        clear hst2 hb2 HST1 HST hown
        repeat ((fail_if_success (with_reducible show wpList _ _ _ (⟨some 48, _, _, _, _, _⟩ :: _) _ _)); first | go_values | go_skip | go_guarded | go_step | go_upon | go_back | go_simp)
        with_reducible refine append_arg rfl (.tmp 45) (.tmp 47) ?c0 (w.heap.size + 1) _ acc.length (u8s acc) A cp (Jq.runeBytes x) hown2 hq ?c1 ?c2 ?c3 ?c4 ?_
        case c0 => rfl
        case c1 => rfl
        case c2 => rfl
        case c3 => omega
        case c4 => omega
        intro v3 w3 hown3 hgr3
        have HST3 := Lib.hid (HST2.out.grow hown3 hgr3 HRB.out)
        have hl3 : (acc ++ Jq.runeBytes x).length ≤ 4 * k' := by rw [List.length_append]; omega
        clear hown2 hown3 hgr3 hq HST2
        go_frame
        go_wp2
        go_roundw
        case rel => exact ⟨k', acc ++ Jq.runeBytes x, rfl, by omega, by rw [Hlen.out]; exact hk2, HST3.out, hl3, HT⟩
        case measure => simp [intOf]; omega
    have hd4 : ((s[k].toNat : Int) == 92) = false := by rw [beq_eq_false_iff_ne]; omega
    have hL := long_any s k hlt (by omega) wr
    obtain ⟨n, en⟩ : ∃ n, Jq.long ((numsOf s).drop k) = n := ⟨_, rfl⟩
    have hn4 := long_le4 ((numsOf s).drop k)
    rw [en] at hL hn4
    by_cases hn0 : n = 0
    · subst hn0
      have HLN := Lib.hid (HAT.out.longNone HKL.out HEC.out (by omega) h34 h92 en)
      clear h32 h34 h92 hx ec hat h0 en
      go_wp2_with fail
      refine hL.mono ?_
      rintro e w1 ⟨rfl, hb1⟩
      clear hL
      obtain ⟨⟨z0, z1, z2, z3, z4, z5, z6, z7⟩, f0, f1, f2, f3, f4, f5, f6, f7⟩ := (HRES.out w1 hb1).eight
      have HE := Lib.hid (HNO.out w1 hb1 HLN.out)
      have HZ := Lib.hid (put8_lies (a := .int .i64 0) (b := .bool false) (c := .int .i64 0) (d := .string { data := #[] }) (e := nilS) (f := nilS) (h := .int .i64 0) (k := .int .i64 53) (HRES.out w1 hb1))
      clear HNO HRES HAT hst hb1
      go_wp2
      refine bodyPost_ret (v := errV 53) ?_ rfl ?_
      · have hz := HZ.out
        unfold put8 at hz
        generalize World.setCell (World.setCell (World.setCell (World.setCell (World.setCell (World.setCell (World.setCell (World.setCell w1 _ _) _ _) _ _) _ _) _ _) _ _) _ _) _ _ = w9 at hz ⊢
        obtain ⟨⟨z0, z1, z2, z3, z4, z5, z6, z7⟩, _⟩ := hz.eight
        simp [results, Tryz.results104, go_sem, z0, z1, z2, z3, z4, z5, z6, z7] <;> rfl
      · exact HE.out
    have hne : (numsOf s).drop k ≠ [] := fun e => by
      have := congrArg List.length e
      rw [List.length_drop, Hlen.out] at this
      simp at this
      omega
    have hnl := Jq.long_le ((numsOf s).drop k) (by rw [en]; omega)
    rw [en, List.length_drop, Hlen.out] at hnl
    have HT := Lib.hid (HAT.out.rune HKL.out HEC.out (by omega) h34 h92 en hn0)
    have hd5 : ((n : Int) == 0) = false := by rw [beq_eq_false_iff_ne]; omega
    have hxx : numsOf (s.extract k (k + n)) = ((numsOf s).drop k).take n := by rw [nums_extract, drop_take_at]
    have HXX := Lib.hid hxx
    have e1 : (0 : Int) ≤ (k : Int) := by omega
    have e2 : (k : Int) ≤ (k : Int) + (n : Int) := by omega
    have e3 : (k : Int) + (n : Int) ≤ (s.size : Int) := by omega
    have hkn : k + n ≤ s.size := by omega
    clear h32 h34 h92 hx ec hat h0 en hxx hne hnl HNO HRES HAT
    go_wp2_with fail
    refine hL.mono ?_
    rintro e w1 ⟨rfl, hb1⟩
    clear hL
    have hst1 := HST.out.on hb1
    have hown := hst1.row
    have hw1 : w.heap.size + 1 ≤ w1.heap.size := hst1.res.lt
    have HST1 := Lib.hid hst1
    clear hst hst1 hb1 HST
    obtain ⟨i0, hi0, hz0, hz1, hz2⟩ := info_parts infoByte
    have HX2 : Hid (u8s (((numsOf s).drop k).take n) = u8s (numsOf (s.extract k (k + n)))) := by unfold Hid; rw [HXX.out]
    have hxl : (s.extract k (k + n)).size = n := by rw [ByteArray.size_extract]; omega
    have HXL := Lib.hid hxl
    clear hxl
    repeat ((fail_if_success (with_reducible show wpList _ _ _ (⟨some 63, _, _, _, _, _⟩ :: _) _ _)); first | go_values | go_skip | go_guarded | go_step | go_upon | go_back | go_simp)
    with_reducible refine Lib.wpList_append_own_string _ rfl (.tmp 56) (.tmp 62) 27 9 rfl (w.heap.size + 1) 5 i0 Tryz.underlying27 Tryz.underlying9 hi0 hz0 hz1 hz2 _ acc.length (u8s acc) ?r1 hown (s.extract k (k + n)) ?r2 ?r3 ?r4 ?r5 ?r6
    case r1 => rfl
    case r2 => rfl
    case r3 => rw [HXL.out]; unfold maxLen; omega
    case r4 => rw [HXL.out]; omega
    case r5 => exact hw1
    case r6 =>
    intro v3 w3 hown3 hgr3 hnil
    clear hnil
    rw [HXL.out, strCells_nums, HXX.out] at hown3
    have hql : (((numsOf s).drop k).take n).length = n := by rw [← HXX.out, numsOf_length, HXL.out]
    have HQL := Lib.hid hql
    have HST3 : Hid (TextSt w w3 v3 (acc ++ ((numsOf s).drop k).take n)) := HST1.out.grow (by rw [HQL.out]; exact hown3) hgr3 (take_lt (drop_lt (numsOf_lt s) _) _)
    have hl3 : (acc ++ ((numsOf s).drop k).take n).length ≤ 4 * (k + n) := by rw [List.length_append, HQL.out]; omega
    clear hown hown3 hgr3 HST1 hql hi0 hz0 hz1 hz2
    go_frame
    go_wp2
    go_roundw
    case rel => exact ⟨k + n, _, by go_num, by omega, by rw [Hlen.out]; exact hkn, HST3.out, hl3, HT⟩
    case measure => simp [intOf]; omega
end Go.Proofs.YthklgpflaghojaaGreatDoor
