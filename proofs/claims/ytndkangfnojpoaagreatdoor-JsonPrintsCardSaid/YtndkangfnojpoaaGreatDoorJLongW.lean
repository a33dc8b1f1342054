/-
  The walk of the document's Long.
-/
import Derived.Test.YtndkangfnojpoaaGreatDoorJLong
import Derived.Test.YtndkangfnojpoaaGreatDoorQS
import Derived.Deep.RegionHeld
import Derived.WalkSmall
namespace Go.Proofs.YtndkangfnojpoaaGreatDoor
open Go.RowKit

theorem writeConv (m : Nat) (hm : m ≤ 1114111) (w : World) : Calls Tryz.prog 63 #[.int .i64 m] w fun e w' => ∃ A c n, e = .returned (.slice A n c) ∧ (convert 52 9 (.slice A n c)).run Tryz.prog w' = .ok (.string (strOf (Jq.runeBytes m))) w' ∧ Below w.heap.size w w' :=
  (writeRune_any m hm w).mono fun _ _ ⟨A, c, he, ha, hb⟩ => ⟨A, c, _, he, conv_str ha, hb⟩
/-- What holds at each round of Long's loop. -/
def LongRel (S : List Nat) (i : Nat) (w : World) (n' : Value) (wr : World) : Prop :=
  ∃ n : Nat, n' = .int .i64 n ∧ 1 ≤ n ∧ n ≤ 5 ∧ (∀ m, 1 ≤ m → m < n → Jq.isRune m (S.drop i) = false) ∧ Below w.heap.size w wr
/-- What holds at each round of its inner loop. -/
def LongIn (S : List Nat) (i M n : Nat) (r' k' : Value) : Prop :=
  ∃ k : Nat, k' = .int .i64 k ∧ 1 ≤ k ∧ k ≤ n ∧ r' = .int .i64 (runeN S i M k : Nat)

set_option maxHeartbeats 8000000 in
set_option maxRecDepth 100000 in
theorem long_any (s : ByteArray) (i : Nat) (hi : i < s.size) (hs : s.size ≤ 4611686018427387904) (w : World) :
    Calls Tryz.prog 64 #[.string s, .int .i64 i] w fun e w' => e = .returned (.int .i64 (Jq.long ((numsOf s).drop i) : Nat)) ∧ Below w.heap.size w w' := by
  have Hlen := Lib.hid (numsOf_length s)
  go_enter Tryz.func64, Tryz.ntmps64
  go_wp2_with fail
  go_loopw [5] (fun n' wr => LongRel (numsOf s) i w n' wr) (fun n' _ => 5 - (intOf n').toNat)
  case atStart => exact ⟨1, rfl, by omega, by omega, (fun m h1 h2 => by omega), Below.refl _ _⟩
  case round =>
    obtain ⟨n, rfl, hn1, hn5, hno, hb⟩ := hrel
    have HNo := Lib.hid hno
    clear hno
    by_cases hgo : n ≤ 4 ∧ i + n ≤ s.size
    · obtain ⟨hn4, hin⟩ := hgo
      have hX := nums_at s i hi
      have hx256 := s[i].toNat_lt
      have hd0 : decide ((n : Int) ≤ 4) = true := decide_eq_true (by omega)
      have hd1 : decide ((i : Int) + (n : Int) ≤ (s.size : Int)) = true := decide_eq_true (by omega)
      have hRO := runeN_of (S := numsOf s) (i := i) n hn1 hn4 (by rw [Hlen.out]; exact hin) (numsOf_lt s)
      by_cases h1 : n = 1
      · obtain ⟨M, eM⟩ : ∃ M, M = 256 := ⟨_, rfl⟩
        have HRM : Hid (Jq.runeOf n ((numsOf s).drop i) = runeN (numsOf s) i M n) := by unfold Hid; rw [hRO, if_pos h1, eM]
        have hMx : (numsOf s).getD i 0 % M < 256 := by rw [eM]; exact Nat.mod_lt _ (by decide)
        have hmod : s[i].toNat % M = s[i].toNat := by rw [eM]; exact Nat.mod_eq_of_lt hx256
        have hd2 : decide ((1 : Int) < (n : Int)) = false := decide_eq_false (by omega)
        have hb3 := hb
        have hle1 : n ≤ 1 := by omega
        clear eM hRO h1
        go_wp2_with fail
        go_loop [6, 7] (fun r k => LongIn (numsOf s) i M n r k) (fun _ k => n - (intOf k).toNat)
        case atStart => exact ⟨1, rfl, by omega, by omega, by rw [runeN, hX, hmod]⟩
        case round =>
          clear hmod
          obtain ⟨k, rfl, hk1, hk2, rfl⟩ := hrel
          have hm := runeN_lt (numsOf s) i M hMx (k - 1)
          rw [show k - 1 + 1 = k from by omega] at hm
          have hm2 : runeN (numsOf s) i M k ≤ 67108863 := by
            have := Nat.pow_le_pow_right (show 0 < 64 by decide) (show k - 1 ≤ 3 by omega)
            have h3 : 64 ^ 3 = 262144 := by decide
            omega
          clear hm
          by_cases hk : k < n
          · exfalso; omega
          · have hkn : k = n := by omega
            obtain rfl := hkn
            have hd : decide ((k : Int) < (k : Int)) = false := by simp
            have HRO : Hid (Jq.runeOf k ((numsOf s).drop i) = runeN (numsOf s) i M k) := HRM.out
            obtain ⟨m, em⟩ : ∃ m, runeN (numsOf s) i M k = m := ⟨_, rfl⟩
            rw [em] at hm2 HRO ⊢
            clear em
            have HI : Hid (Jq.isRune k ((numsOf s).drop i) = (Jq.okRune m && (Jq.runeBytes m == ((numsOf s).drop i).take k))) := by
              unfold Hid Jq.isRune
              rw [HRO.out, decide_eq_true (by rw [List.length_drop, Hlen.out]; omega)]
              simp
            by_cases hm1 : m ≤ 1114111 ∧ (m < 55296 ∨ 57343 < m)
            · obtain ⟨hm1, hm3⟩ := hm1
              have hOk : Hid (Jq.okRune m = true) := by unfold Hid Jq.okRune; simp; omega
              have HL := rune_lt m hm1
              obtain ⟨b, eb⟩ : ∃ b, (Jq.runeBytes m == ((numsOf s).drop i).take k) = b := ⟨_, rfl⟩
              have hEq : ((strOf (Jq.runeBytes m)).toList == (s.extract i (i + k)).toList) = b := by
                have e1 : ((numsOf s).drop i).take k = numsOf (s.extract i (i + k)) := by
                  rw [nums_extract, List.drop_take, show i + k - i = k from by omega]
                have e2 := str_beq HL (numsOf_lt (s.extract i (i + k)))
                rw [strOf_numsOf] at e2
                rw [e2, ← eb, e1]
                rw [Bool.eq_iff_iff, decide_eq_true_iff, beq_iff_eq]
              rw [eb, hOk.out] at HI
              clear eb HL hOk HRO
              have hd1 : decide ((m : Int) ≤ 1114111) = true := decide_eq_true (by omega)
              have hd2 : decide ((m : Int) < 55296) = true ∨ (decide ((m : Int) < 55296) = false ∧ decide ((57343 : Int) < (m : Int)) = true) := by
                rcases hm3 with h | h
                · exact .inl (decide_eq_true (by omega))
                · exact .inr ⟨decide_eq_false (by omega), decide_eq_true (by omega)⟩
              have hW := fun w => writeConv m hm1 w
              obtain ⟨T, eT⟩ : ∃ T, strOf (Jq.runeBytes m) = T := ⟨_, rfl⟩
              rw [eT] at hW hEq
              clear hm3 hm1 eT
              have q1 : IntKind.i64.wrap ((i : Int) + (k : Int)) = (i : Int) + (k : Int) := IntWalk.i64_in _ (by omega)
              have q2 : (0 : Int) ≤ (i : Int) := by omega
              have q3 : (i : Int) ≤ (i : Int) + (k : Int) := by omega
              have q4 : (i : Int) + (k : Int) ≤ (s.size : Int) := by omega
              have q5 : ((i : Int) + (k : Int)).toNat = i + k := by omega
              rcases hd2 with hd2 | ⟨hd2, hd3⟩
              all_goals
                cases b
                · go_upto_region 12 with (fail)
                  clear hb hs hX hm2
                  go_region_held (fun W => Below w.heap.size w W)
                    (first
                      | (go_split_ands; have hbz := (by assumption : Below w.heap.size w _).trans (hba.mono (by assumption : Below w.heap.size w _).size); exact hbz)
                      | (go_split_ands; have hbz := (by assumption : Below w.heap.size w _).drew; exact hbz)
                      | go_keep)
                    (first | (go_at_call 63; with_reducible refine (hW _).mono ?_; rintro e wa ⟨A, c, n', rfl, hcv, hba⟩))
                  all_goals
                    go_split_ands
                    have hfin : Below w.heap.size w wa := by assumption
                    go_wp2
                    go_roundw
                    case rel =>
                      refine ⟨k + 1, by go_num, by omega, by omega, fun m h1 h2 => ?_, hfin⟩
                      rcases Nat.lt_or_eq_of_le (Nat.le_of_lt_succ h2) with h | h
                      · exact HNo.out m h1 h
                      · rw [h, HI.out]; rfl
                    case measure => simp [intOf]; omega
                · have HF : Hid (Jq.long ((numsOf s).drop i) = k) := long_found (by omega) (by omega) HNo.out (by rw [HI.out]; rfl)
                  go_upto_region 12 with (fail)
                  clear hb hs hX hm2
                  go_region_held (fun W => Below w.heap.size w W)
                    (first
                      | (go_split_ands; have hbz := (by assumption : Below w.heap.size w _).trans (hba.mono (by assumption : Below w.heap.size w _).size); exact hbz)
                      | (go_split_ands; have hbz := (by assumption : Below w.heap.size w _).drew; exact hbz)
                      | go_keep)
                    (first | (go_at_call 63; with_reducible refine (hW _).mono ?_; rintro e wa ⟨A, c, n', rfl, hcv, hba⟩))
                  all_goals
                    go_split_ands
                    have hfin : Below w.heap.size w wa := by assumption
                    go_wp2
                    go_ret
                    exact ⟨ret_int (by rw [HF.out]), hfin⟩
            · have hOk : Hid (Jq.okRune m = false) := by
                unfold Hid
                cases h : Jq.okRune m with
                | false => rfl
                | true => unfold Jq.okRune at h; simp at h; omega
              rw [hOk.out, Bool.false_and] at HI
              clear hOk HRO
              have hd1 : decide ((m : Int) ≤ 1114111) = false ∨ (decide ((m : Int) ≤ 1114111) = true ∧ decide ((m : Int) < 55296) = false ∧ decide ((57343 : Int) < (m : Int)) = false) := by
                by_cases h : m ≤ 1114111
                · exact .inr ⟨decide_eq_true (by omega), decide_eq_false (by omega), decide_eq_false (by omega)⟩
                · exact .inl (decide_eq_false (by omega))
              clear hm1
              rcases hd1 with hd1 | ⟨hd1, hd2, hd3⟩
              all_goals
                go_upto_region 12 with (fail)
                clear hb hs hX hm2
                go_quiet (fail)
                all_goals
                  have hfin := hb3.trans (drewN_below _ nq)
                  go_wp2
                  go_roundw
                  case rel =>
                    refine ⟨k + 1, by go_num, by omega, by omega, fun m h1 h2 => ?_, hfin⟩
                    rcases Nat.lt_or_eq_of_le (Nat.le_of_lt_succ h2) with h | h
                    · exact HNo.out m h1 h
                    · rw [h, HI.out]
                  case measure => simp [intOf]; omega
      · obtain ⟨M, eM⟩ : ∃ M, M = (if n = 1 then 256 else if n = 2 then 32 else if n = 3 then 16 else 8) := ⟨_, rfl⟩
        have HRM : Hid (Jq.runeOf n ((numsOf s).drop i) = runeN (numsOf s) i M n) := by unfold Hid; rw [hRO, eM]
        have hMx : (numsOf s).getD i 0 % M < 256 := by
          have := Nat.mod_le ((numsOf s).getD i 0) M
          have := nums_lt s i
          omega
        have hcell : (#[Value.int .i64 1, .int .i64 1, .int .i64 32, .int .i64 16, .int .i64 8] : Array Value)[n]? = some (.int .i64 (M : Int)) := by
          have : n = 2 ∨ n = 3 ∨ n = 4 := by omega
          rcases this with rfl | rfl | rfl <;> rw [eM] <;> rfl
        have hM0 : 8 ≤ M ∧ M ≤ 32 := by
          rw [eM, if_neg h1]
          split
          · omega
          · split <;> omega
        obtain ⟨hM1, hM2⟩ := hM0
        have hM3 : ((M : Int) == 0) = false := by rw [beq_eq_false_iff_ne]; omega
        have hd2 : decide ((1 : Int) < (n : Int)) = true := decide_eq_true (by omega)
        have hmod : ((s[i].toNat : Int)).tmod (M : Int) = ((s[i].toNat % M : Nat) : Int) := rfl
        have hmle : s[i].toNat % M ≤ 255 := by have := Nat.mod_le s[i].toNat M; omega
        have hb3 := hb.alloc hb.size (.cells #[.int .i64 1, .int .i64 1, .int .i64 32, .int .i64 16, .int .i64 8] 3)
        clear eM hRO h1
        go_wp2_with fail
        go_loop [6, 7] (fun r k => LongIn (numsOf s) i M n r k) (fun _ k => n - (intOf k).toNat)
        case atStart => exact ⟨1, rfl, by omega, by omega, by rw [runeN, hX]; rfl⟩
        case round =>
          clear hmod
          obtain ⟨k, rfl, hk1, hk2, rfl⟩ := hrel
          have hm := runeN_lt (numsOf s) i M hMx (k - 1)
          rw [show k - 1 + 1 = k from by omega] at hm
          have hm2 : runeN (numsOf s) i M k ≤ 67108863 := by
            have := Nat.pow_le_pow_right (show 0 < 64 by decide) (show k - 1 ≤ 3 by omega)
            have h3 : 64 ^ 3 = 262144 := by decide
            omega
          clear hm
          by_cases hk : k < n
          · have hd : decide ((k : Int) < (n : Int)) = true := decide_eq_true (by omega)
            have hlt : i + k < s.size := by omega
            have hXk := nums_at s (i + k) hlt
            have hy256 := s[i + k].toNat_lt
            have HE : Hid (runeN (numsOf s) i M (k + 1) = runeN (numsOf s) i M k * 64 + s[i + k].toNat % 64) := by
              unfold Hid
              obtain ⟨j, rfl⟩ : ∃ j, k = j + 1 := ⟨k - 1, by omega⟩
              rw [runeN, hXk]
            obtain ⟨m, em⟩ : ∃ m, runeN (numsOf s) i M k = m := ⟨_, rfl⟩
            rw [em] at hm2 HE ⊢
            clear em hXk
            go_wp2
            go_round
            case rel => exact ⟨k + 1, by go_num, by omega, by omega, by rw [HE.out]; go_num⟩
            case measure => simp [intOf]; omega
          · have hkn : k = n := by omega
            obtain rfl := hkn
            have hd : decide ((k : Int) < (k : Int)) = false := by simp
            have HRO : Hid (Jq.runeOf k ((numsOf s).drop i) = runeN (numsOf s) i M k) := HRM.out
            obtain ⟨m, em⟩ : ∃ m, runeN (numsOf s) i M k = m := ⟨_, rfl⟩
            rw [em] at hm2 HRO ⊢
            clear em
            have HI : Hid (Jq.isRune k ((numsOf s).drop i) = (Jq.okRune m && (Jq.runeBytes m == ((numsOf s).drop i).take k))) := by
              unfold Hid Jq.isRune
              rw [HRO.out, decide_eq_true (by rw [List.length_drop, Hlen.out]; omega)]
              simp
            by_cases hm1 : m ≤ 1114111 ∧ (m < 55296 ∨ 57343 < m)
            · obtain ⟨hm1, hm3⟩ := hm1
              have hOk : Hid (Jq.okRune m = true) := by unfold Hid Jq.okRune; simp; omega
              have HL := rune_lt m hm1
              obtain ⟨b, eb⟩ : ∃ b, (Jq.runeBytes m == ((numsOf s).drop i).take k) = b := ⟨_, rfl⟩
              have hEq : ((strOf (Jq.runeBytes m)).toList == (s.extract i (i + k)).toList) = b := by
                have e1 : ((numsOf s).drop i).take k = numsOf (s.extract i (i + k)) := by
                  rw [nums_extract, List.drop_take, show i + k - i = k from by omega]
                have e2 := str_beq HL (numsOf_lt (s.extract i (i + k)))
                rw [strOf_numsOf] at e2
                rw [e2, ← eb, e1]
                rw [Bool.eq_iff_iff, decide_eq_true_iff, beq_iff_eq]
              rw [eb, hOk.out] at HI
              clear eb HL hOk HRO
              have hd1 : decide ((m : Int) ≤ 1114111) = true := decide_eq_true (by omega)
              have hd2 : decide ((m : Int) < 55296) = true ∨ (decide ((m : Int) < 55296) = false ∧ decide ((57343 : Int) < (m : Int)) = true) := by
                rcases hm3 with h | h
                · exact .inl (decide_eq_true (by omega))
                · exact .inr ⟨decide_eq_false (by omega), decide_eq_true (by omega)⟩
              have hW := fun w => writeConv m hm1 w
              obtain ⟨T, eT⟩ : ∃ T, strOf (Jq.runeBytes m) = T := ⟨_, rfl⟩
              rw [eT] at hW hEq
              clear hm3 hm1 eT
              have q1 : IntKind.i64.wrap ((i : Int) + (k : Int)) = (i : Int) + (k : Int) := IntWalk.i64_in _ (by omega)
              have q2 : (0 : Int) ≤ (i : Int) := by omega
              have q3 : (i : Int) ≤ (i : Int) + (k : Int) := by omega
              have q4 : (i : Int) + (k : Int) ≤ (s.size : Int) := by omega
              have q5 : ((i : Int) + (k : Int)).toNat = i + k := by omega
              rcases hd2 with hd2 | ⟨hd2, hd3⟩
              all_goals
                cases b
                · go_upto_region 12 with (fail)
                  clear hb hs hX hm2
                  go_region_held (fun W => Below w.heap.size w W)
                    (first
                      | (go_split_ands; have hbz := (by assumption : Below w.heap.size w _).trans (hba.mono (by assumption : Below w.heap.size w _).size); exact hbz)
                      | (go_split_ands; have hbz := (by assumption : Below w.heap.size w _).drew; exact hbz)
                      | go_keep)
                    (first | (go_at_call 63; with_reducible refine (hW _).mono ?_; rintro e wa ⟨A, c, n', rfl, hcv, hba⟩))
                  all_goals
                    go_split_ands
                    have hfin : Below w.heap.size w wa := by assumption
                    go_wp2
                    go_roundw
                    case rel =>
                      refine ⟨k + 1, by go_num, by omega, by omega, fun m h1 h2 => ?_, hfin⟩
                      rcases Nat.lt_or_eq_of_le (Nat.le_of_lt_succ h2) with h | h
                      · exact HNo.out m h1 h
                      · rw [h, HI.out]; rfl
                    case measure => simp [intOf]; omega
                · have HF : Hid (Jq.long ((numsOf s).drop i) = k) := long_found (by omega) (by omega) HNo.out (by rw [HI.out]; rfl)
                  go_upto_region 12 with (fail)
                  clear hb hs hX hm2
                  go_region_held (fun W => Below w.heap.size w W)
                    (first
                      | (go_split_ands; have hbz := (by assumption : Below w.heap.size w _).trans (hba.mono (by assumption : Below w.heap.size w _).size); exact hbz)
                      | (go_split_ands; have hbz := (by assumption : Below w.heap.size w _).drew; exact hbz)
                      | go_keep)
                    (first | (go_at_call 63; with_reducible refine (hW _).mono ?_; rintro e wa ⟨A, c, n', rfl, hcv, hba⟩))
                  all_goals
                    go_split_ands
                    have hfin : Below w.heap.size w wa := by assumption
                    go_wp2
                    go_ret
                    exact ⟨ret_int (by rw [HF.out]), hfin⟩
            · have hOk : Hid (Jq.okRune m = false) := by
                unfold Hid
                cases h : Jq.okRune m with
                | false => rfl
                | true => unfold Jq.okRune at h; simp at h; omega
              rw [hOk.out, Bool.false_and] at HI
              clear hOk HRO
              have hd1 : decide ((m : Int) ≤ 1114111) = false ∨ (decide ((m : Int) ≤ 1114111) = true ∧ decide ((m : Int) < 55296) = false ∧ decide ((57343 : Int) < (m : Int)) = false) := by
                by_cases h : m ≤ 1114111
                · exact .inr ⟨decide_eq_true (by omega), decide_eq_false (by omega), decide_eq_false (by omega)⟩
                · exact .inl (decide_eq_false (by omega))
              clear hm1
              rcases hd1 with hd1 | ⟨hd1, hd2, hd3⟩
              all_goals
                go_upto_region 12 with (fail)
                clear hb hs hX hm2
                go_quiet (fail)
                all_goals
                  have hfin := hb3.trans (drewN_below _ nq)
                  go_wp2
                  go_roundw
                  case rel =>
                    refine ⟨k + 1, by go_num, by omega, by omega, fun m h1 h2 => ?_, hfin⟩
                    rcases Nat.lt_or_eq_of_le (Nat.le_of_lt_succ h2) with h | h
                    · exact HNo.out m h1 h
                    · rw [h, HI.out]
                  case measure => simp [intOf]; omega
    · have HF : Hid (Jq.long ((numsOf s).drop i) = 0) := long_none HNo.out (by rw [List.length_drop, Hlen.out]; omega)
      have hdd : decide ((n : Int) ≤ 4) = false ∨ (decide ((n : Int) ≤ 4) = true ∧ decide ((i : Int) + (n : Int) ≤ (s.size : Int)) = false) := by
        by_cases h : n ≤ 4
        · exact .inr ⟨decide_eq_true (by omega), decide_eq_false (by omega)⟩
        · exact .inl (decide_eq_false (by omega))
      rcases hdd with hd | ⟨hd, hd2⟩
      all_goals
        go_wp2
        go_ret
        exact ⟨ret_int (by rw [HF.out]; rfl), hb⟩
end Go.Proofs.YtndkangfnojpoaaGreatDoor
