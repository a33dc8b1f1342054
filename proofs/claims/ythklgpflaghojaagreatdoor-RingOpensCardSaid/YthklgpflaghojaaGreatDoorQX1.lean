/-
  QX1: JDec JSmall JBlanks JFour JWrite JLong JLongW JRValid JRQuoted JRP JRGet, side by side.
-/
import Derived.Test.YthklgpflaghojaaGreatDoorQM
import Derived.Deep.RegionLaw
import Derived.IntWalk
import Derived.Outline
import Derived.Test.YthklgpflaghojaaGreatDoorQC
import Derived.RegionTactic
import Derived.Deep.RegionWith
import Derived.Test.YthklgpflaghojaaGreatDoorQS
import Derived.Deep.RegionHeld
import Derived.WalkSmall
import Derived.Test.YthklgpflaghojaaGreatDoorQI
import Derived.Test.YthklgpflaghojaaGreatDoorQA
import Derived.Test.YthklgpflaghojaaGreatDoorQJ

/-
  The document's Decimal and tens.
-/
namespace Go.Proofs.YthklgpflaghojaaGreatDoor
open Go.RowKit
end Go.Proofs.YthklgpflaghojaaGreatDoor

/-
  The contracts of the document's small functions over texts: at, digit, hex, blanks.
-/
namespace Go.Proofs.YthklgpflaghojaaGreatDoor
open Go.RowKit
set_option maxRecDepth 100000 in
set_option maxHeartbeats 1000000 in
theorem at_any (s : ByteArray) (i : Nat) (w : World) :
    Calls Tryz.prog 102 #[.string s, .int .i64 i] w fun e w' => e = .returned (.int .u8 ((numsOf s).getD i 0 : Nat)) ∧ w = w' := by
  by_cases h : i < s.size
  · have HX := Lib.hid (nums_at s i h)
    have hd : decide ((i : Int) < (s.size : Int)) = true := decide_eq_true (by omega)
    go_enter Tryz.func102, Tryz.ntmps102
    go_wp2
    go_ret
    exact ⟨ret_int (by rw [HX.out]), rfl⟩
  · have HX := Lib.hid (nums_end s i (by omega))
    have hd : decide ((i : Int) < (s.size : Int)) = false := decide_eq_false (by omega)
    go_enter Tryz.func102, Tryz.ntmps102
    go_wp2
    go_ret
    exact ⟨ret_int (by rw [HX.out]; rfl), rfl⟩

set_option maxRecDepth 100000 in
set_option maxHeartbeats 1000000 in
theorem digit_any (c : Nat) (hc : c < 256) (w : World) :
    Calls Tryz.prog 105 #[.int .u8 c] w fun e w' => e = .returned (.bool (Jq.dig c)) ∧ w = w' := by
  go_enter Tryz.func105, Tryz.ntmps105
  go_wp2
  all_goals
    go_ret
    refine ⟨ret_bool ?_, rfl⟩
    rw [Bool.eq_iff_iff, Jq.dig_iff]
    simp
    omega

theorem hexv_le (c : Nat) : Jq.hexv c ≤ 16 := by
  unfold Jq.hexv
  split
  · omega
  · split
    · omega
    · split <;> omega
theorem hexv_cases (c : Nat) : (Jq.dig c = true ∧ 48 ≤ c ∧ c ≤ 57 ∧ Jq.hexv c = c - 48) ∨ (Jq.dig c = false ∧ 97 ≤ c ∧ c ≤ 102 ∧ Jq.hexv c = c - 87) ∨ (Jq.dig c = false ∧ 65 ≤ c ∧ c ≤ 70 ∧ Jq.hexv c = c - 55) ∨ (Jq.dig c = false ∧ ¬ (97 ≤ c ∧ c ≤ 102) ∧ ¬ (65 ≤ c ∧ c ≤ 70) ∧ Jq.hexv c = 16) := by
  unfold Jq.hexv
  by_cases h1 : 48 ≤ c ∧ c ≤ 57
  · exact .inl ⟨(Jq.dig_iff c).2 h1, h1.1, h1.2, by rw [if_pos h1]⟩
  have hd : Jq.dig c = false := by
    cases h : Jq.dig c with
    | false => rfl
    | true => exact absurd ((Jq.dig_iff c).1 h) h1
  by_cases h2 : 97 ≤ c ∧ c ≤ 102
  · exact .inr (.inl ⟨hd, h2.1, h2.2, by rw [if_neg h1, if_pos h2]⟩)
  by_cases h3 : 65 ≤ c ∧ c ≤ 70
  · exact .inr (.inr (.inl ⟨hd, h3.1, h3.2, by rw [if_neg h1, if_neg h2, if_pos h3]⟩))
  · exact .inr (.inr (.inr ⟨hd, h2, h3, by rw [if_neg h1, if_neg h2, if_neg h3]⟩))

set_option maxRecDepth 100000 in
set_option maxHeartbeats 1000000 in
theorem hex_any (c : Nat) (hc : c < 256) (w : World) :
    Calls Tryz.prog 162 #[.int .u8 c] w fun e w' => e = .returned (.int .i64 (Jq.hexv c : Nat)) ∧ w = w' := by
  have hD := fun w => digit_any c hc w
  rcases hexv_cases c with ⟨d, h1, h2, h3⟩ | ⟨d, h1, h2, h3⟩ | ⟨d, h1, h2, h3⟩ | ⟨d, h1, h2, h3⟩
  all_goals
    rw [d] at hD
    have H3 := Lib.hid h3
    clear h3 d
    go_enter Tryz.func162, Tryz.ntmps162
    go_wp2_with fail
    refine (hD _).mono ?_
    rintro e w' ⟨rfl, rfl⟩
    clear hD
    go_wp2
    all_goals first | omega | (go_ret; exact ⟨ret_int (by rw [H3.out]; omega), rfl⟩)

/-- The place behind blanks. -/
def past (S : List Nat) (i : Nat) : Nat := S.length - (Jq.skip (S.drop i)).length
theorem skip_drop (S : List Nat) (i : Nat) : Jq.skip (S.drop i) = S.drop (past S i) := by
  have h : ∃ k, Jq.skip (S.drop i) = S.drop k := by
    have := List.dropWhile_suffix (l := S.drop i) Jq.blank
    obtain ⟨t, ht⟩ := this
    refine ⟨i + t.length, ?_⟩
    rw [← List.drop_drop]
    show List.dropWhile Jq.blank (S.drop i) = _
    conv => rhs; rw [← ht]
    rw [List.drop_left]
  obtain ⟨k, hk⟩ := h
  rw [past, hk, List.length_drop]
  by_cases hle : k ≤ S.length
  · rw [show S.length - (S.length - k) = k from by omega]
  · rw [List.drop_eq_nil_of_le (by omega), List.drop_eq_nil_of_le (by omega)]
theorem past_stop {S : List Nat} {i : Nat} (hi : i ≤ S.length) (h : Jq.blank (S.getD i 0) = false) : past S i = i := by
  have : Jq.skip (S.drop i) = S.drop i := by
    rcases Nat.lt_or_eq_of_le hi with hlt | heq
    · rw [List.drop_eq_getElem_cons hlt]
      rw [List.getD_eq_getElem?_getD, List.getElem?_eq_getElem hlt] at h
      exact Jq.skip_sign h _
    · rw [List.drop_eq_nil_of_le (by omega)]; rfl
  rw [past, this, List.length_drop]
  omega
theorem past_step {S : List Nat} {i : Nat} (h : Jq.blank (S.getD i 0) = true) : i < S.length ∧ past S i = past S (i + 1) := by
  have hlt : i < S.length := by
    rcases Nat.lt_or_ge i S.length with h1 | h1
    · exact h1
    · rw [List.getD_eq_getElem?_getD, List.getElem?_eq_none h1] at h; cases h
  refine ⟨hlt, ?_⟩
  unfold past
  rw [List.drop_eq_getElem_cons hlt]
  rw [List.getD_eq_getElem?_getD, List.getElem?_eq_getElem hlt] at h
  have : Jq.skip (S[i] :: S.drop (i + 1)) = Jq.skip (S.drop (i + 1)) := by
    have h' : Jq.blank S[i] = true := h
    unfold Jq.skip
    rw [List.dropWhile_cons, if_pos h']
  rw [this]
theorem past_le (S : List Nat) (i : Nat) : past S i ≤ S.length := by unfold past; omega
theorem past_ge {S : List Nat} {i : Nat} (hi : i ≤ S.length) : i ≤ past S i := by
  unfold past
  have := Jq.skip_len (S.drop i)
  rw [List.length_drop] at this
  omega
theorem blank_iff (c : Nat) : Jq.blank c = true ↔ c = 32 ∨ c = 9 ∨ c = 10 ∨ c = 13 := by
  unfold Jq.blank
  simp [or_assoc]
end Go.Proofs.YthklgpflaghojaaGreatDoor

/-
  The contract of the document's blanks.
-/
namespace Go.Proofs.YthklgpflaghojaaGreatDoor
open Go.RowKit

/-- What holds at each round of the loop. -/
def BlanksRel (S : List Nat) (i0 : Nat) (w : World) (i : Value) (wr : World) : Prop :=
  ∃ k : Nat, i = .int .i64 k ∧ k ≤ S.length ∧ past S k = past S i0 ∧ wr = w

set_option maxHeartbeats 2000000 in
set_option maxRecDepth 100000 in
theorem blanks_any (s : ByteArray) (i : Nat) (hi : i ≤ s.size) (hs : s.size ≤ 4611686018427387904) (w : World) :
    Calls Tryz.prog 85 #[.string s, .int .i64 i] w fun e w' => e = .returned (.int .i64 (past (numsOf s) i : Nat)) ∧ w = w' := by
  have Hlen := Lib.hid (numsOf_length s)
  go_enter Tryz.func85, Tryz.ntmps85
  go_wp2_with fail
  go_loopw [1] (fun i' wr => BlanksRel (numsOf s) i w i' wr) (fun i' _ => s.size - (intOf i').toNat)
  case atStart => exact ⟨i, rfl, by rw [Hlen.out]; exact hi, rfl, rfl⟩
  case round =>
    obtain ⟨k, rfl, hk, hp, rfl⟩ := hrel
    rw [Hlen.out] at hk
    have HP := Lib.hid hp
    clear hp
    have hA := fun w => at_any s k w
    obtain ⟨c, ec⟩ : ∃ c, (numsOf s).getD k 0 = c := ⟨_, rfl⟩
    have EC := Lib.hid ec
    rw [ec] at hA
    by_cases hb : Jq.blank c = true
    · have hb' : Jq.blank ((numsOf s).getD k 0) = true := by rw [ec]; exact hb
      obtain ⟨hlt, he⟩ := past_step hb'
      have HE := Lib.hid he
      rw [Hlen.out] at hlt
      have hc := (blank_iff c).1 hb
      clear hb hb' he ec EC
      rcases hc with rfl | rfl | rfl | rfl
      · go_wp2_with fail
        refine (hA _).mono ?_
        rintro e w' ⟨rfl, rfl⟩
        clear hA
        go_wp2
        go_roundw
        case rel => exact ⟨k + 1, by go_num, by rw [Hlen.out]; omega, by rw [← HE.out]; exact HP.out, rfl⟩
        case measure => simp [intOf]; omega
      · go_wp2_with fail
        refine (hA _).mono ?_
        rintro e w' ⟨rfl, rfl⟩
        go_wp2_with fail
        refine (hA _).mono ?_
        rintro e w' ⟨rfl, rfl⟩
        clear hA
        go_wp2
        go_roundw
        case rel => exact ⟨k + 1, by go_num, by rw [Hlen.out]; omega, by rw [← HE.out]; exact HP.out, rfl⟩
        case measure => simp [intOf]; omega
      · go_wp2_with fail
        refine (hA _).mono ?_
        rintro e w' ⟨rfl, rfl⟩
        go_wp2_with fail
        refine (hA _).mono ?_
        rintro e w' ⟨rfl, rfl⟩
        go_wp2_with fail
        refine (hA _).mono ?_
        rintro e w' ⟨rfl, rfl⟩
        clear hA
        go_wp2
        go_roundw
        case rel => exact ⟨k + 1, by go_num, by rw [Hlen.out]; omega, by rw [← HE.out]; exact HP.out, rfl⟩
        case measure => simp [intOf]; omega
      · go_wp2_with fail
        refine (hA _).mono ?_
        rintro e w' ⟨rfl, rfl⟩
        go_wp2_with fail
        refine (hA _).mono ?_
        rintro e w' ⟨rfl, rfl⟩
        go_wp2_with fail
        refine (hA _).mono ?_
        rintro e w' ⟨rfl, rfl⟩
        go_wp2_with fail
        refine (hA _).mono ?_
        rintro e w' ⟨rfl, rfl⟩
        clear hA
        go_wp2
        go_roundw
        case rel => exact ⟨k + 1, by go_num, by rw [Hlen.out]; omega, by rw [← HE.out]; exact HP.out, rfl⟩
        case measure => simp [intOf]; omega
    · have HE : Hid (past (numsOf s) k = k) := past_stop (by rw [Hlen.out]; exact hk) (by rw [ec]; simpa using hb)
      have hc : ¬ (c = 32 ∨ c = 9 ∨ c = 10 ∨ c = 13) := fun h => hb ((blank_iff c).2 h)
      have d1 : ((c : Int) == 32) = false := by rw [beq_eq_false_iff_ne]; omega
      have d2 : ((c : Int) == 9) = false := by rw [beq_eq_false_iff_ne]; omega
      have d3 : ((c : Int) == 10) = false := by rw [beq_eq_false_iff_ne]; omega
      have d4 : ((c : Int) == 13) = false := by rw [beq_eq_false_iff_ne]; omega
      clear hb hc ec EC
      go_wp2_with fail
      refine (hA _).mono ?_
      rintro e w' ⟨rfl, rfl⟩
      go_wp2_with fail
      refine (hA _).mono ?_
      rintro e w' ⟨rfl, rfl⟩
      go_wp2_with fail
      refine (hA _).mono ?_
      rintro e w' ⟨rfl, rfl⟩
      go_wp2_with fail
      refine (hA _).mono ?_
      rintro e w' ⟨rfl, rfl⟩
      clear hA
      go_wp2
      go_ret
      exact ⟨ret_int (by rw [← HP.out, HE.out]), rfl⟩
end Go.Proofs.YthklgpflaghojaaGreatDoor

/-
  The contracts of the document's four and Write.
-/
namespace Go.Proofs.YthklgpflaghojaaGreatDoor
open Go.RowKit

/-- A number, or one below 0 where there is none. -/
def orLess : Option Nat → Int
  | none => -1
  | some n => n

/-- What holds at each round of four's loop. -/
def FourRel (S : List Nat) (i : Nat) (w : World) (n' k' : Value) (wr : World) : Prop :=
  ∃ k : Nat, k' = .int .i64 k ∧ k ≤ 4 ∧ n' = .int .i64 (hexN S i k : Nat) ∧ (∀ j, j < k → Jq.hexv (S.getD (i + j) 0) < 16) ∧ hexN S i k ≤ 65535 ∧ wr = w

set_option maxHeartbeats 2000000 in
set_option maxRecDepth 100000 in
theorem four_any (s : ByteArray) (i : Nat) (hi : i ≤ 4611686018427387904) (w : World) :
    Calls Tryz.prog 150 #[.string s, .int .i64 i] w fun e w' => e = .returned (.int .i64 (orLess (Jq.four ((numsOf s).drop i)))) ∧ w = w' := by
  go_enter Tryz.func150, Tryz.ntmps150
  go_wp2_with fail
  go_loopw [5, 6] (fun n' k' wr => FourRel (numsOf s) i w n' k' wr) (fun _ k' _ => 4 - (intOf k').toNat)
  case atStart => exact ⟨0, rfl, by omega, rfl, (fun j hj => by omega), Nat.zero_le _, rfl⟩
  case round =>
    obtain ⟨k, rfl, hk, rfl, hj, hn, rfl⟩ := hrel
    by_cases h4 : k < 4
    · have hd : decide ((k : Int) < 4) = true := decide_eq_true (by omega)
      have hA := fun w => at_any s (i + k) w
      have hlt := nums_lt s (i + k)
      obtain ⟨c, ec⟩ : ∃ c, (numsOf s).getD (i + k) 0 = c := ⟨_, rfl⟩
      rw [ec] at hA hlt
      have hH := fun w => hex_any c hlt w
      have hle := hexv_le c
      obtain ⟨v, ev⟩ : ∃ v, Jq.hexv c = v := ⟨_, rfl⟩
      rw [ev] at hH hle
      obtain ⟨N, eN⟩ : ∃ N, hexN (numsOf s) i k = N := ⟨_, rfl⟩
      have EN := Lib.hid eN
      rw [eN] at hn ⊢
      have EV : Hid (Jq.hexv ((numsOf s).getD (i + k) 0) = v) := by unfold Hid; rw [ec, ev]
      have HJ := Lib.hid hj
      clear ec ev eN hj
      by_cases h16 : v < 16
      · have d16 : ((v : Int) == 16) = false := by rw [beq_eq_false_iff_ne]; omega
        repeat ((fail_if_success (with_reducible show wpList _ _ _ (⟨some 16, _, _, _, _, _⟩ :: _) _ _)); first | go_values | go_skip | go_guarded | go_step | go_upon | go_back | go_simp)
        try rw [show ((i : Int) + (k : Int)) = ((i + k : Nat) : Int) from by omega]
        go_wp2_with fail
        refine (hA _).mono ?_
        rintro e w' ⟨rfl, rfl⟩
        go_wp2_with fail
        refine (hH _).mono ?_
        rintro e w' ⟨rfl, rfl⟩
        clear hA hH
        go_wp2
        go_roundw
        case rel =>
          have HJ2 : ∀ j, j < k + 1 → Jq.hexv ((numsOf s).getD (i + j) 0) < 16 := fun j hj => by
            rcases Nat.lt_or_eq_of_le (Nat.le_of_lt_succ hj) with h | h
            · exact HJ.out j h
            · rw [h, EV.out]; exact h16
          have e1 : hexN (numsOf s) i (k + 1) = N * 16 + v := by rw [hexN, EN.out, EV.out]
          have e2 : hexN (numsOf s) i (k + 1) ≤ 65535 := by
            have := hexN_lt (k + 1) HJ2
            have h3 : 16 ^ (k + 1) ≤ 16 ^ 4 := Nat.pow_le_pow_right (by omega) (by omega)
            have h5 : 16 ^ 4 = 65536 := by decide
            omega
          exact ⟨k + 1, by go_num, by omega, by rw [e1]; go_num, HJ2, e2, rfl⟩
        case measure => simp [intOf]; omega
      · have d16 : ((v : Int) == 16) = true := by rw [beq_iff_eq]; omega
        have HR : Hid (Jq.four ((numsOf s).drop i) = none) := four_no h4 (by rw [EV.out]; exact h16)
        repeat ((fail_if_success (with_reducible show wpList _ _ _ (⟨some 16, _, _, _, _, _⟩ :: _) _ _)); first | go_values | go_skip | go_guarded | go_step | go_upon | go_back | go_simp)
        try rw [show ((i : Int) + (k : Int)) = ((i + k : Nat) : Int) from by omega]
        go_wp2_with fail
        refine (hA _).mono ?_
        rintro e w' ⟨rfl, rfl⟩
        go_wp2_with fail
        refine (hH _).mono ?_
        rintro e w' ⟨rfl, rfl⟩
        clear hA hH
        go_wp2
        go_ret
        exact ⟨ret_int (by rw [HR.out]; rfl), rfl⟩
    · obtain rfl : k = 4 := by omega
      have HR : Hid (Jq.four ((numsOf s).drop i) = some (hexN (numsOf s) i 4)) := four_yes hj
      have hd : decide ((4 : Int) < 4) = false := by decide
      clear hj
      go_wp2
      go_ret
      exact ⟨ret_int (by rw [HR.out]; rfl), rfl⟩
end Go.Proofs.YthklgpflaghojaaGreatDoor

/-
  The contract of the document's Write: a rune's bytes.
-/
namespace Go.Proofs.YthklgpflaghojaaGreatDoor
open Go.RowKit

/-- Bytes that were made. -/
def BytesEnd (q : List Nat) (w : World) (e : Ending) (w' : World) : Prop := ∃ A c, e = .returned (.slice A q.length c) ∧ ArgIs w' A c q ∧ Below w.heap.size w w'
theorem BytesEnd.new {q : List Nat} {w : World} {fr : Nat × Nat} {t : TypeId} {cs : Array Value} {n : Nat} (hcs : cs = (u8s q).toArray) (hn : n = q.length) (hq : ∀ x ∈ q, x < 256) (hl : q.length ≤ 9223372036854775807) :
    BytesEnd q w (.returned (.slice (some ⟨w.heap.size, 0, none⟩) n n)) (w.alloc (.cells cs t fr)) := by
  subst hcs hn
  exact ⟨_, _, rfl, arg_new rfl t fr q _ hq (Nat.le_refl _) hl, (Below.refl _ _).alloc (Nat.le_refl _) _⟩
theorem rune_lt (r : Nat) (hr : r ≤ 1114111) : ∀ x ∈ Jq.runeBytes r, x < 256 := by
  intro x hx
  unfold Jq.runeBytes at hx
  split at hx
  · simp at hx; omega
  · split at hx
    · simp at hx; omega
    · split at hx
      · simp at hx; omega
      · simp at hx; omega

set_option maxHeartbeats 2000000 in
set_option maxRecDepth 100000 in
theorem writeRune_any (r : Nat) (hr : r ≤ 1114111) (w : World) :
    Calls Tryz.prog 130 #[.int .i64 r] w fun e w' => BytesEnd (Jq.runeBytes r) w e w' := by
  have HL := Lib.hid (rune_lt r hr)
  by_cases h1 : r < 128
  · have HR : Hid (Jq.runeBytes r = [r]) := by unfold Hid Jq.runeBytes; rw [if_pos h1]
    have hd : decide ((r : Int) < 128) = true := decide_eq_true (by omega)
    go_enter Tryz.func130, Tryz.ntmps130
    go_wp2
    go_ret
    exact BytesEnd.new (by rw [HR.out]; simp [u8s]) (by rw [HR.out]; rfl) HL.out (by rw [HR.out]; simp)
  have hd : decide ((r : Int) < 128) = false := decide_eq_false (by omega)
  by_cases h2 : r < 2048
  · have HR : Hid (Jq.runeBytes r = [192 + r / 64, 128 + r % 64]) := by unfold Hid Jq.runeBytes; rw [if_neg h1, if_pos h2]
    have hd2 : decide ((r : Int) < 2048) = true := decide_eq_true (by omega)
    go_enter Tryz.func130, Tryz.ntmps130
    go_wp2
    go_ret
    exact BytesEnd.new (by rw [HR.out]; simp [u8s]) (by rw [HR.out]; rfl) HL.out (by rw [HR.out]; simp)
  have hd2 : decide ((r : Int) < 2048) = false := decide_eq_false (by omega)
  by_cases h3 : r < 65536
  · have HR : Hid (Jq.runeBytes r = [224 + r / 4096, 128 + r / 64 % 64, 128 + r % 64]) := by unfold Hid Jq.runeBytes; rw [if_neg h1, if_neg h2, if_pos h3]
    have hd3 : decide ((r : Int) < 65536) = true := decide_eq_true (by omega)
    go_enter Tryz.func130, Tryz.ntmps130
    go_wp2
    go_ret
    exact BytesEnd.new (by rw [HR.out]; simp [u8s]) (by rw [HR.out]; rfl) HL.out (by rw [HR.out]; simp)
  · have HR : Hid (Jq.runeBytes r = [240 + r / 262144, 128 + r / 4096 % 64, 128 + r / 64 % 64, 128 + r % 64]) := by unfold Hid Jq.runeBytes; rw [if_neg h1, if_neg h2, if_neg h3]
    have hd3 : decide ((r : Int) < 65536) = false := decide_eq_false (by omega)
    go_enter Tryz.func130, Tryz.ntmps130
    go_wp2
    go_ret
    exact BytesEnd.new (by rw [HR.out]; simp [u8s]) (by rw [HR.out]; rfl) HL.out (by rw [HR.out]; simp)
end Go.Proofs.YthklgpflaghojaaGreatDoor

/-
  The contract of the document's Long.
-/
namespace Go.Proofs.YthklgpflaghojaaGreatDoor
open Go.RowKit

theorem long_found {l : List Nat} {n : Nat} (h1 : 1 ≤ n) (h4 : n ≤ 4) (hno : ∀ m, 1 ≤ m → m < n → Jq.isRune m l = false) (hy : Jq.isRune n l = true) : Jq.long l = n := by
  unfold Jq.long
  have : n = 1 ∨ n = 2 ∨ n = 3 ∨ n = 4 := by omega
  rcases this with rfl | rfl | rfl | rfl
  · simp [hy]
  · simp [hy, hno 1 (by omega) (by omega)]
  · simp [hy, hno 1 (by omega) (by omega), hno 2 (by omega) (by omega)]
  · simp [hy, hno 1 (by omega) (by omega), hno 2 (by omega) (by omega), hno 3 (by omega) (by omega)]
theorem long_none {l : List Nat} {n : Nat} (hno : ∀ m, 1 ≤ m → m < n → Jq.isRune m l = false) (he : 5 ≤ n ∨ l.length < n) : Jq.long l = 0 := by
  have key : ∀ m, 1 ≤ m → m ≤ 4 → Jq.isRune m l = false := fun m h1 h4 => by
    by_cases h : m < n
    · exact hno m h1 h
    · unfold Jq.isRune
      rw [decide_eq_false (by omega)]
      rfl
  unfold Jq.long
  simp [key 1 (by omega) (by omega), key 2 (by omega) (by omega), key 3 (by omega) (by omega), key 4 (by omega) (by omega)]
/-- The number that so many bytes from a place on say, of the first its rest alone. -/
def runeN (S : List Nat) (i M : Nat) : Nat → Nat
  | 0 => 0
  | 1 => S.getD i 0 % M
  | k + 2 => runeN S i M (k + 1) * 64 + S.getD (i + (k + 1)) 0 % 64
theorem runeN_lt (S : List Nat) (i M : Nat) (h : S.getD i 0 % M < 256) : ∀ k, runeN S i M (k + 1) < 256 * 64 ^ k
  | 0 => by simpa [runeN] using h
  | k + 1 => by
    have := runeN_lt S i M h k
    rw [runeN, Nat.pow_succ]
    omega
theorem runeN_of {S : List Nat} {i : Nat} : ∀ (n : Nat), 1 ≤ n → n ≤ 4 → i + n ≤ S.length → (∀ x ∈ S, x < 256) → Jq.runeOf n (S.drop i) = runeN S i (if n = 1 then 256 else if n = 2 then 32 else if n = 3 then 16 else 8) n := by
  intro n h1 h4 hl hS
  have : n = 1 ∨ n = 2 ∨ n = 3 ∨ n = 4 := by omega
  have hlen : n ≤ (S.drop i).length := by rw [List.length_drop]; omega
  have hd := fun j => getD_drop S i j
  have hb : S.getD (i + 0) 0 < 256 := by
    rw [List.getD_eq_getElem?_getD, List.getElem?_eq_getElem (by omega)]
    exact hS _ (List.getElem_mem _)
  rcases this with rfl | rfl | rfl | rfl
  · match e : S.drop i, hlen with
    | a :: r, _ =>
      rw [e] at hd
      have h0 := hd 0
      simp at h0 hb
      simp [Jq.runeOf, runeN]
      omega
  · match e : S.drop i, hlen with
    | a :: b :: r, _ =>
      rw [e] at hd
      have h0 := hd 0
      have h1 := hd 1
      simp at h0 h1
      simp [Jq.runeOf, runeN, h0, h1]
  · match e : S.drop i, hlen with
    | a :: b :: c :: r, _ =>
      rw [e] at hd
      have h0 := hd 0
      have h1 := hd 1
      have h2 := hd 2
      simp at h0 h1 h2
      simp [Jq.runeOf, runeN, h0, h1, h2]
  · match e : S.drop i, hlen with
    | a :: b :: c :: d :: r, _ =>
      rw [e] at hd
      have h0 := hd 0
      have h1 := hd 1
      have h2 := hd 2
      have h3 := hd 3
      simp at h0 h1 h2 h3
      simp [Jq.runeOf, runeN, h0, h1, h2, h3]
end Go.Proofs.YthklgpflaghojaaGreatDoor

/-
  The walk of the document's Long.
-/
namespace Go.Proofs.YthklgpflaghojaaGreatDoor
open Go.RowKit

theorem writeConv (m : Nat) (hm : m ≤ 1114111) (w : World) : Calls Tryz.prog 130 #[.int .i64 m] w fun e w' => ∃ A c n, e = .returned (.slice A n c) ∧ (convert 27 9 (.slice A n c)).run Tryz.prog w' = .ok (.string (strOf (Jq.runeBytes m))) w' ∧ Below w.heap.size w w' :=
  (writeRune_any m hm w).mono fun _ _ ⟨A, c, he, ha, hb⟩ => ⟨A, c, _, he, conv_str ha, hb⟩
/-- What holds at each round of Long's loop. -/
def LongRel (S : List Nat) (i : Nat) (w : World) (n' : Value) (wr : World) : Prop :=
  ∃ n : Nat, n' = .int .i64 n ∧ 1 ≤ n ∧ n ≤ 5 ∧ (∀ m, 1 ≤ m → m < n → Jq.isRune m (S.drop i) = false) ∧ Below w.heap.size w wr
/-- What holds at each round of its inner loop. -/
def LongIn (S : List Nat) (i M n : Nat) (r' k' : Value) : Prop :=
  ∃ k : Nat, k' = .int .i64 k ∧ 1 ≤ k ∧ k ≤ n ∧ r' = .int .i64 (runeN S i M k : Nat)

set_option maxHeartbeats 8000000 in
set_option maxRecDepth 100000 in
theorem long_any (s : ByteArray) (i : Nat) (hi : i < s.size) (hs : s.size ≤ 4611686018427387904) (w : World) :
    Calls Tryz.prog 108 #[.string s, .int .i64 i] w fun e w' => e = .returned (.int .i64 (Jq.long ((numsOf s).drop i) : Nat)) ∧ Below w.heap.size w w' := by
  have Hlen := Lib.hid (numsOf_length s)
  go_enter Tryz.func108, Tryz.ntmps108
  go_wp2_with fail
  go_loopw [5] (fun n' wr => LongRel (numsOf s) i w n' wr) (fun n' _ => 5 - (intOf n').toNat)
  case atStart => exact ⟨1, rfl, by omega, by omega, (fun m h1 h2 => by omega), Below.refl _ _⟩
  case round =>
    obtain ⟨n, rfl, hn1, hn5, hno, hb⟩ := hrel
    have HNo := Lib.hid hno
    clear hno
    by_cases hgo : n ≤ 4 ∧ i + n ≤ s.size
    · obtain ⟨hn4, hin⟩ := hgo
      have hX := nums_at s i hi
      have hx256 := s[i].toNat_lt
      have hd0 : decide ((n : Int) ≤ 4) = true := decide_eq_true (by omega)
      have hd1 : decide ((i : Int) + (n : Int) ≤ (s.size : Int)) = true := decide_eq_true (by omega)
      have hRO := runeN_of (S := numsOf s) (i := i) n hn1 hn4 (by rw [Hlen.out]; exact hin) (numsOf_lt s)
      by_cases h1 : n = 1
      · obtain ⟨M, eM⟩ : ∃ M, M = 256 := ⟨_, rfl⟩
        have HRM : Hid (Jq.runeOf n ((numsOf s).drop i) = runeN (numsOf s) i M n) := by unfold Hid; rw [hRO, if_pos h1, eM]
        have hMx : (numsOf s).getD i 0 % M < 256 := by rw [eM]; exact Nat.mod_lt _ (by decide)
        have hmod : s[i].toNat % M = s[i].toNat := by rw [eM]; exact Nat.mod_eq_of_lt hx256
        have hd2 : decide ((1 : Int) < (n : Int)) = false := decide_eq_false (by omega)
        have hb3 := hb
        have hle1 : n ≤ 1 := by omega
        clear eM hRO h1
        go_wp2_with fail
        go_loop [6, 7] (fun r k => LongIn (numsOf s) i M n r k) (fun _ k => n - (intOf k).toNat)
        case atStart => exact ⟨1, rfl, by omega, by omega, by rw [runeN, hX, hmod]⟩
        case round =>
          clear hmod
          obtain ⟨k, rfl, hk1, hk2, rfl⟩ := hrel
          have hm := runeN_lt (numsOf s) i M hMx (k - 1)
          rw [show k - 1 + 1 = k from by omega] at hm
          have hm2 : runeN (numsOf s) i M k ≤ 67108863 := by
            have := Nat.pow_le_pow_right (show 0 < 64 by decide) (show k - 1 ≤ 3 by omega)
            have h3 : 64 ^ 3 = 262144 := by decide
            omega
          clear hm
          by_cases hk : k < n
          · exfalso; omega
          · have hkn : k = n := by omega
            obtain rfl := hkn
            have hd : decide ((k : Int) < (k : Int)) = false := by simp
            have HRO : Hid (Jq.runeOf k ((numsOf s).drop i) = runeN (numsOf s) i M k) := HRM.out
            obtain ⟨m, em⟩ : ∃ m, runeN (numsOf s) i M k = m := ⟨_, rfl⟩
            rw [em] at hm2 HRO ⊢
            clear em
            have HI : Hid (Jq.isRune k ((numsOf s).drop i) = (Jq.okRune m && (Jq.runeBytes m == ((numsOf s).drop i).take k))) := by
              unfold Hid Jq.isRune
              rw [HRO.out, decide_eq_true (by rw [List.length_drop, Hlen.out]; omega)]
              simp
            by_cases hm1 : m ≤ 1114111 ∧ (m < 55296 ∨ 57343 < m)
            · obtain ⟨hm1, hm3⟩ := hm1
              have hOk : Hid (Jq.okRune m = true) := by unfold Hid Jq.okRune; simp; omega
              have HL := rune_lt m hm1
              obtain ⟨b, eb⟩ : ∃ b, (Jq.runeBytes m == ((numsOf s).drop i).take k) = b := ⟨_, rfl⟩
              have hEq : ((strOf (Jq.runeBytes m)).toList == (s.extract i (i + k)).toList) = b := by
                have e1 : ((numsOf s).drop i).take k = numsOf (s.extract i (i + k)) := by
                  rw [nums_extract, List.drop_take, show i + k - i = k from by omega]
                have e2 := str_beq HL (numsOf_lt (s.extract i (i + k)))
                rw [strOf_numsOf] at e2
                rw [e2, ← eb, e1]
                rw [Bool.eq_iff_iff, decide_eq_true_iff, beq_iff_eq]
              rw [eb, hOk.out] at HI
              clear eb HL hOk HRO
              have hd1 : decide ((m : Int) ≤ 1114111) = true := decide_eq_true (by omega)
              have hd2 : decide ((m : Int) < 55296) = true ∨ (decide ((m : Int) < 55296) = false ∧ decide ((57343 : Int) < (m : Int)) = true) := by
                rcases hm3 with h | h
                · exact .inl (decide_eq_true (by omega))
                · exact .inr ⟨decide_eq_false (by omega), decide_eq_true (by omega)⟩
              have hW := fun w => writeConv m hm1 w
              obtain ⟨T, eT⟩ : ∃ T, strOf (Jq.runeBytes m) = T := ⟨_, rfl⟩
              rw [eT] at hW hEq
              clear hm3 hm1 eT
              have q1 : IntKind.i64.wrap ((i : Int) + (k : Int)) = (i : Int) + (k : Int) := IntWalk.i64_in _ (by omega)
              have q2 : (0 : Int) ≤ (i : Int) := by omega
              have q3 : (i : Int) ≤ (i : Int) + (k : Int) := by omega
              have q4 : (i : Int) + (k : Int) ≤ (s.size : Int) := by omega
              have q5 : ((i : Int) + (k : Int)).toNat = i + k := by omega
              rcases hd2 with hd2 | ⟨hd2, hd3⟩
              all_goals
                cases b
                · go_upto_region 12 with (fail)
                  clear hb hs hX hm2
                  go_region_held (fun W => Below w.heap.size w W)
                    (first
                      | (go_split_ands; have hbz := (by assumption : Below w.heap.size w _).trans (hba.mono (by assumption : Below w.heap.size w _).size); exact hbz)
                      | (go_split_ands; have hbz := (by assumption : Below w.heap.size w _).drew; exact hbz)
                      | go_keep)
                    (first | (go_at_call 130; with_reducible refine (hW _).mono ?_; rintro e wa ⟨A, c, n', rfl, hcv, hba⟩))
                  all_goals
                    go_split_ands
                    have hfin : Below w.heap.size w wa := by assumption
                    go_wp2
                    go_roundw
                    case rel =>
                      refine ⟨k + 1, by go_num, by omega, by omega, fun m h1 h2 => ?_, hfin⟩
                      rcases Nat.lt_or_eq_of_le (Nat.le_of_lt_succ h2) with h | h
                      · exact HNo.out m h1 h
                      · rw [h, HI.out]; rfl
                    case measure => simp [intOf]; omega
                · have HF : Hid (Jq.long ((numsOf s).drop i) = k) := long_found (by omega) (by omega) HNo.out (by rw [HI.out]; rfl)
                  go_upto_region 12 with (fail)
                  clear hb hs hX hm2
                  go_region_held (fun W => Below w.heap.size w W)
                    (first
                      | (go_split_ands; have hbz := (by assumption : Below w.heap.size w _).trans (hba.mono (by assumption : Below w.heap.size w _).size); exact hbz)
                      | (go_split_ands; have hbz := (by assumption : Below w.heap.size w _).drew; exact hbz)
                      | go_keep)
                    (first | (go_at_call 130; with_reducible refine (hW _).mono ?_; rintro e wa ⟨A, c, n', rfl, hcv, hba⟩))
                  all_goals
                    go_split_ands
                    have hfin : Below w.heap.size w wa := by assumption
                    go_wp2
                    go_ret
                    exact ⟨ret_int (by rw [HF.out]), hfin⟩
            · have hOk : Hid (Jq.okRune m = false) := by
                unfold Hid
                cases h : Jq.okRune m with
                | false => rfl
                | true => unfold Jq.okRune at h; simp at h; omega
              rw [hOk.out, Bool.false_and] at HI
              clear hOk HRO
              have hd1 : decide ((m : Int) ≤ 1114111) = false ∨ (decide ((m : Int) ≤ 1114111) = true ∧ decide ((m : Int) < 55296) = false ∧ decide ((57343 : Int) < (m : Int)) = false) := by
                by_cases h : m ≤ 1114111
                · exact .inr ⟨decide_eq_true (by omega), decide_eq_false (by omega), decide_eq_false (by omega)⟩
                · exact .inl (decide_eq_false (by omega))
              clear hm1
              rcases hd1 with hd1 | ⟨hd1, hd2, hd3⟩
              all_goals
                go_upto_region 12 with (fail)
                clear hb hs hX hm2
                go_quiet (fail)
                all_goals
                  have hfin := hb3.trans (drewN_below _ nq)
                  go_wp2
                  go_roundw
                  case rel =>
                    refine ⟨k + 1, by go_num, by omega, by omega, fun m h1 h2 => ?_, hfin⟩
                    rcases Nat.lt_or_eq_of_le (Nat.le_of_lt_succ h2) with h | h
                    · exact HNo.out m h1 h
                    · rw [h, HI.out]
                  case measure => simp [intOf]; omega
      · obtain ⟨M, eM⟩ : ∃ M, M = (if n = 1 then 256 else if n = 2 then 32 else if n = 3 then 16 else 8) := ⟨_, rfl⟩
        have HRM : Hid (Jq.runeOf n ((numsOf s).drop i) = runeN (numsOf s) i M n) := by unfold Hid; rw [hRO, eM]
        have hMx : (numsOf s).getD i 0 % M < 256 := by
          have := Nat.mod_le ((numsOf s).getD i 0) M
          have := nums_lt s i
          omega
        have hcell : (#[Value.int .i64 1, .int .i64 1, .int .i64 32, .int .i64 16, .int .i64 8] : Array Value)[n]? = some (.int .i64 (M : Int)) := by
          have : n = 2 ∨ n = 3 ∨ n = 4 := by omega
          rcases this with rfl | rfl | rfl <;> rw [eM] <;> rfl
        have hM0 : 8 ≤ M ∧ M ≤ 32 := by
          rw [eM, if_neg h1]
          split
          · omega
          · split <;> omega
        obtain ⟨hM1, hM2⟩ := hM0
        have hM3 : ((M : Int) == 0) = false := by rw [beq_eq_false_iff_ne]; omega
        have hd2 : decide ((1 : Int) < (n : Int)) = true := decide_eq_true (by omega)
        have hmod : ((s[i].toNat : Int)).tmod (M : Int) = ((s[i].toNat % M : Nat) : Int) := rfl
        have hmle : s[i].toNat % M ≤ 255 := by have := Nat.mod_le s[i].toNat M; omega
        have hb3 := hb.alloc hb.size (.cells #[.int .i64 1, .int .i64 1, .int .i64 32, .int .i64 16, .int .i64 8] 3)
        clear eM hRO h1
        go_wp2_with fail
        go_loop [6, 7] (fun r k => LongIn (numsOf s) i M n r k) (fun _ k => n - (intOf k).toNat)
        case atStart => exact ⟨1, rfl, by omega, by omega, by rw [runeN, hX]; rfl⟩
        case round =>
          clear hmod
          obtain ⟨k, rfl, hk1, hk2, rfl⟩ := hrel
          have hm := runeN_lt (numsOf s) i M hMx (k - 1)
          rw [show k - 1 + 1 = k from by omega] at hm
          have hm2 : runeN (numsOf s) i M k ≤ 67108863 := by
            have := Nat.pow_le_pow_right (show 0 < 64 by decide) (show k - 1 ≤ 3 by omega)
            have h3 : 64 ^ 3 = 262144 := by decide
            omega
          clear hm
          by_cases hk : k < n
          · have hd : decide ((k : Int) < (n : Int)) = true := decide_eq_true (by omega)
            have hlt : i + k < s.size := by omega
            have hXk := nums_at s (i + k) hlt
            have hy256 := s[i + k].toNat_lt
            have HE : Hid (runeN (numsOf s) i M (k + 1) = runeN (numsOf s) i M k * 64 + s[i + k].toNat % 64) := by
              unfold Hid
              obtain ⟨j, rfl⟩ : ∃ j, k = j + 1 := ⟨k - 1, by omega⟩
              rw [runeN, hXk]
            obtain ⟨m, em⟩ : ∃ m, runeN (numsOf s) i M k = m := ⟨_, rfl⟩
            rw [em] at hm2 HE ⊢
            clear em hXk
            go_wp2
            go_round
            case rel => exact ⟨k + 1, by go_num, by omega, by omega, by rw [HE.out]; go_num⟩
            case measure => simp [intOf]; omega
          · have hkn : k = n := by omega
            obtain rfl := hkn
            have hd : decide ((k : Int) < (k : Int)) = false := by simp
            have HRO : Hid (Jq.runeOf k ((numsOf s).drop i) = runeN (numsOf s) i M k) := HRM.out
            obtain ⟨m, em⟩ : ∃ m, runeN (numsOf s) i M k = m := ⟨_, rfl⟩
            rw [em] at hm2 HRO ⊢
            clear em
            have HI : Hid (Jq.isRune k ((numsOf s).drop i) = (Jq.okRune m && (Jq.runeBytes m == ((numsOf s).drop i).take k))) := by
              unfold Hid Jq.isRune
              rw [HRO.out, decide_eq_true (by rw [List.length_drop, Hlen.out]; omega)]
              simp
            by_cases hm1 : m ≤ 1114111 ∧ (m < 55296 ∨ 57343 < m)
            · obtain ⟨hm1, hm3⟩ := hm1
              have hOk : Hid (Jq.okRune m = true) := by unfold Hid Jq.okRune; simp; omega
              have HL := rune_lt m hm1
              obtain ⟨b, eb⟩ : ∃ b, (Jq.runeBytes m == ((numsOf s).drop i).take k) = b := ⟨_, rfl⟩
              have hEq : ((strOf (Jq.runeBytes m)).toList == (s.extract i (i + k)).toList) = b := by
                have e1 : ((numsOf s).drop i).take k = numsOf (s.extract i (i + k)) := by
                  rw [nums_extract, List.drop_take, show i + k - i = k from by omega]
                have e2 := str_beq HL (numsOf_lt (s.extract i (i + k)))
                rw [strOf_numsOf] at e2
                rw [e2, ← eb, e1]
                rw [Bool.eq_iff_iff, decide_eq_true_iff, beq_iff_eq]
              rw [eb, hOk.out] at HI
              clear eb HL hOk HRO
              have hd1 : decide ((m : Int) ≤ 1114111) = true := decide_eq_true (by omega)
              have hd2 : decide ((m : Int) < 55296) = true ∨ (decide ((m : Int) < 55296) = false ∧ decide ((57343 : Int) < (m : Int)) = true) := by
                rcases hm3 with h | h
                · exact .inl (decide_eq_true (by omega))
                · exact .inr ⟨decide_eq_false (by omega), decide_eq_true (by omega)⟩
              have hW := fun w => writeConv m hm1 w
              obtain ⟨T, eT⟩ : ∃ T, strOf (Jq.runeBytes m) = T := ⟨_, rfl⟩
              rw [eT] at hW hEq
              clear hm3 hm1 eT
              have q1 : IntKind.i64.wrap ((i : Int) + (k : Int)) = (i : Int) + (k : Int) := IntWalk.i64_in _ (by omega)
              have q2 : (0 : Int) ≤ (i : Int) := by omega
              have q3 : (i : Int) ≤ (i : Int) + (k : Int) := by omega
              have q4 : (i : Int) + (k : Int) ≤ (s.size : Int) := by omega
              have q5 : ((i : Int) + (k : Int)).toNat = i + k := by omega
              rcases hd2 with hd2 | ⟨hd2, hd3⟩
              all_goals
                cases b
                · go_upto_region 12 with (fail)
                  clear hb hs hX hm2
                  go_region_held (fun W => Below w.heap.size w W)
                    (first
                      | (go_split_ands; have hbz := (by assumption : Below w.heap.size w _).trans (hba.mono (by assumption : Below w.heap.size w _).size); exact hbz)
                      | (go_split_ands; have hbz := (by assumption : Below w.heap.size w _).drew; exact hbz)
                      | go_keep)
                    (first | (go_at_call 130; with_reducible refine (hW _).mono ?_; rintro e wa ⟨A, c, n', rfl, hcv, hba⟩))
                  all_goals
                    go_split_ands
                    have hfin : Below w.heap.size w wa := by assumption
                    go_wp2
                    go_roundw
                    case rel =>
                      refine ⟨k + 1, by go_num, by omega, by omega, fun m h1 h2 => ?_, hfin⟩
                      rcases Nat.lt_or_eq_of_le (Nat.le_of_lt_succ h2) with h | h
                      · exact HNo.out m h1 h
                      · rw [h, HI.out]; rfl
                    case measure => simp [intOf]; omega
                · have HF : Hid (Jq.long ((numsOf s).drop i) = k) := long_found (by omega) (by omega) HNo.out (by rw [HI.out]; rfl)
                  go_upto_region 12 with (fail)
                  clear hb hs hX hm2
                  go_region_held (fun W => Below w.heap.size w W)
                    (first
                      | (go_split_ands; have hbz := (by assumption : Below w.heap.size w _).trans (hba.mono (by assumption : Below w.heap.size w _).size); exact hbz)
                      | (go_split_ands; have hbz := (by assumption : Below w.heap.size w _).drew; exact hbz)
                      | go_keep)
                    (first | (go_at_call 130; with_reducible refine (hW _).mono ?_; rintro e wa ⟨A, c, n', rfl, hcv, hba⟩))
                  all_goals
                    go_split_ands
                    have hfin : Below w.heap.size w wa := by assumption
                    go_wp2
                    go_ret
                    exact ⟨ret_int (by rw [HF.out]), hfin⟩
            · have hOk : Hid (Jq.okRune m = false) := by
                unfold Hid
                cases h : Jq.okRune m with
                | false => rfl
                | true => unfold Jq.okRune at h; simp at h; omega
              rw [hOk.out, Bool.false_and] at HI
              clear hOk HRO
              have hd1 : decide ((m : Int) ≤ 1114111) = false ∨ (decide ((m : Int) ≤ 1114111) = true ∧ decide ((m : Int) < 55296) = false ∧ decide ((57343 : Int) < (m : Int)) = false) := by
                by_cases h : m ≤ 1114111
                · exact .inr ⟨decide_eq_true (by omega), decide_eq_false (by omega), decide_eq_false (by omega)⟩
                · exact .inl (decide_eq_false (by omega))
              clear hm1
              rcases hd1 with hd1 | ⟨hd1, hd2, hd3⟩
              all_goals
                go_upto_region 12 with (fail)
                clear hb hs hX hm2
                go_quiet (fail)
                all_goals
                  have hfin := hb3.trans (drewN_below _ nq)
                  go_wp2
                  go_roundw
                  case rel =>
                    refine ⟨k + 1, by go_num, by omega, by omega, fun m h1 h2 => ?_, hfin⟩
                    rcases Nat.lt_or_eq_of_le (Nat.le_of_lt_succ h2) with h | h
                    · exact HNo.out m h1 h
                    · rw [h, HI.out]
                  case measure => simp [intOf]; omega
    · have HF : Hid (Jq.long ((numsOf s).drop i) = 0) := long_none HNo.out (by rw [List.length_drop, Hlen.out]; omega)
      have hdd : decide ((n : Int) ≤ 4) = false ∨ (decide ((n : Int) ≤ 4) = true ∧ decide ((i : Int) + (n : Int) ≤ (s.size : Int)) = false) := by
        by_cases h : n ≤ 4
        · exact .inr ⟨decide_eq_true (by omega), decide_eq_false (by omega)⟩
        · exact .inl (decide_eq_false (by omega))
      rcases hdd with hd | ⟨hd, hd2⟩
      all_goals
        go_wp2
        go_ret
        exact ⟨ret_int (by rw [HF.out]; rfl), hb⟩
end Go.Proofs.YthklgpflaghojaaGreatDoor

/-
  The document's Valid and named.
-/
namespace Go.Proofs.YthklgpflaghojaaGreatDoor
open Go.RowKit
set_option maxHeartbeats 4000000 in
set_option maxRecDepth 100000 in
theorem named_any {ok : Nat → Prop} (ns : List (List Nat)) (t : List Nat) (v : Value) (w : World) (hS : SlIs w ok v ns.length (tcells ns)) (hn : ns.length ≤ 140737488355328) (hns : ∀ p ∈ ns, ∀ y ∈ p, y < 256) (ht : ∀ y ∈ t, y < 256) :
    Calls Tryz.prog 87 #[v, .string (strOf t)] w fun e w' => e = .returned (.bool (decide (t ∈ ns))) ∧ w = w' := by
  obtain ⟨A, c, rfl⟩ := hS.form
  obtain ⟨N, eN⟩ : ∃ N, ns.length = N := ⟨_, rfl⟩
  rw [eN] at hS hn ⊢
  have HN := Lib.hid eN
  have HS := Lib.hid hS
  have HNS := Lib.hid hns
  clear eN hS hns
  go_enter Tryz.func87, Tryz.ntmps87
  go_wp2_with fail
  go_loopw [5] (fun i wr => ∃ k : Nat, i = .int .i64 k ∧ k ≤ N ∧ Hid (∀ j, j < k → ns[j]? ≠ some t) ∧ wr = w) (fun i _ => N - (intOf i).toNat)
  case atStart => exact ⟨0, rfl, Nat.zero_le _, Lib.hid (fun j hj => absurd hj (Nat.not_lt_zero _)), rfl⟩
  case round =>
    obtain ⟨k, rfl, hk, hne, rfl⟩ := hrel
    by_cases hlt : k < N
    · obtain ⟨b, off, p, rfl, _, hblt, hc, hp, p0⟩ := slIs_text HS.out HN.out hlt
      have hTT := str_beq (HNS.out p (List.mem_of_getElem? hp)) ht
      have HP := Lib.hid hp
      clear hp hc
      by_cases heq : p = t
      · rw [decide_eq_true heq] at hTT
        have HV : Hid (decide (t ∈ ns) = true) := decide_eq_true (by rw [← heq]; exact List.mem_of_getElem? HP.out)
        clear heq
        go_wp2
        go_ret
        exact ⟨by rw [HV.out]; rfl, rfl⟩
      · rw [decide_eq_false heq] at hTT
        have HQ : Hid (∀ j, j < k + 1 → ns[j]? ≠ some t) := fun j hj => by
          rcases Nat.lt_or_eq_of_le (Nat.le_of_lt_succ hj) with h | h
          · exact hne.out j h
          · rw [h, HP.out]
            exact fun e => heq (Option.some.inj e)
        clear heq
        go_wp2
        go_roundw
        case rel => exact ⟨k + 1, by go_num, hlt, Lib.hid HQ.out, trivial⟩
        case measure => simp [intOf]; omega
    · obtain rfl : k = N := by omega
      have hd3 : decide ((k : Int) < (k : Int)) = false := by simp
      have HV : Hid (decide (t ∈ ns) = false) := decide_eq_false (fun h => by
        obtain ⟨j, hj, e⟩ := List.mem_iff_getElem.1 h
        exact hne.out j (by rw [← HN.out]; exact hj) (by rw [List.getElem?_eq_getElem hj, e]))
      clear hne
      go_wp2
      go_ret
      exact ⟨by rw [HV.out]; rfl, rfl⟩
end Go.Proofs.YthklgpflaghojaaGreatDoor

/-
  The document's Quoted.
-/
namespace Go.Proofs.YthklgpflaghojaaGreatDoor
open Go.RowKit
theorem QRel.add {S : List Nat} {w w2 : World} {k n : Nat} {T : List Nat} {x : Nat} {v : Value} (q : List Nat) (hq : Hid (Jq.q1 x = q)) (hm6 : q.length ≤ 6) (hx : Hid (S.getD k 0 = x)) (hk : k < S.length) (hT : Hid (T.length = n)) (hn : n ≤ 1 + 6 * k) (he : Hid (T = 34 :: (S.take k).flatMap Jq.q1))
    (hlt : ∀ x ∈ T, x < 256) (hq2 : ∀ x ∈ q, x < 256) (ho : w2.ownsRow w.heap.size 5 1 v (n + q.length) (u8s T ++ u8s q)) (hb : Below w.heap.size w w2) : QRel S w v (.int .i64 ((k + 1 : Nat) : Int)) w2 :=
  QRel.next hx.out hk hT.out hn he hq.out rfl hm6 hlt hq2 ho hb

end Go.Proofs.YthklgpflaghojaaGreatDoor

/-
  The document's writing, plain: text by text, against what is right and its writing.
-/
namespace Go.Proofs.YthklgpflaghojaaGreatDoor.Jq
def parts (v : J) : List (List Nat × J) := if v.kind = 5 then List.zipWith (fun t x => (quoted t ++ [58], x)) v.names v.list else v.list.map fun x => ([], x)
theorem parts_mem {v : J} {p : List Nat × J} (h : p ∈ parts v) : p.2 ∈ v.list := by
  unfold parts at h
  split at h
  · rw [List.mem_iff_getElem?] at h
    obtain ⟨i, hi⟩ := h
    rw [List.getElem?_zipWith] at hi
    cases h1 : v.names[i]? with
    | none => rw [h1] at hi; cases hi
    | some t =>
      cases h2 : v.list[i]? with
      | none => rw [h1, h2] at hi; cases hi
      | some x =>
        rw [h1, h2] at hi
        have e := Option.some.inj hi
        rw [← e]
        exact List.mem_of_getElem? h2
  · obtain ⟨x, hx, rfl⟩ := List.mem_map.1 h
    exact hx
end Go.Proofs.YthklgpflaghojaaGreatDoor.Jq

/-
  The document's Get.
-/
namespace Go.Proofs.YthklgpflaghojaaGreatDoor
open Go.RowKit

theorem firstAt_hit {t : List Nat} {ns : List (List Nat)} {k : Nat} (hk : ns[k]? = some t) (hj : ∀ j, j < k → ns[j]? ≠ some t) : firstAt t ns = some k := by
  have h := firstAt_iff t ns
  cases hf : firstAt t ns with
  | none =>
    rw [hf] at h
    exact absurd (List.mem_of_getElem? hk) h
  | some i =>
    rw [hf] at h
    obtain ⟨h1, h2, h3⟩ := h
    rcases Nat.lt_trichotomy i k with hlt | heq | hgt
    · exact absurd h2 (hj i hlt)
    · rw [heq]
    · exact absurd hk (h3 k hgt)
theorem firstAt_miss {t : List Nat} {ns : List (List Nat)} (hj : ∀ j, j < ns.length → ns[j]? ≠ some t) : firstAt t ns = none := by
  have h := firstAt_iff t ns
  cases hf : firstAt t ns with
  | none => rfl
  | some i =>
    rw [hf] at h
    exact absurd h.2.1 (hj i h.1)
/-- How the document's Get ends. -/
def RGetEnd (ok : Nat → Prop) (res : Option Jq.J) (w : World) (e : Ending) (w' : World) : Prop := Below w.heap.size w w' ∧ match res with
  | some y => ∃ u, e = .returned (.tuple #[u, .bool true]) ∧ IsJ w' ok u y
  | none => e = .returned (.tuple #[jv 0 false 0 ByteArray.empty nilS nilS, .bool false])
theorem RGetEnd.no {ok : Nat → Prop} {res : Option Jq.J} {w w' : World} (h : res = none) (hb : Below w.heap.size w w') : RGetEnd ok res w (.returned (.tuple #[jv 0 false 0 ByteArray.empty nilS nilS, .bool false])) w' := by
  rw [h]; exact ⟨hb, rfl⟩
theorem RGetEnd.yes {ok : Nat → Prop} {res : Option Jq.J} {y : Jq.J} {u : Value} {w w' : World} (h : res = some y) (hb : Below w.heap.size w w') (hJ : IsJ w' ok u y) : RGetEnd ok res w (.returned (.tuple #[u, .bool true])) w' := by
  rw [h]; exact ⟨hb, u, rfl, hJ⟩

set_option maxHeartbeats 4000000 in
set_option maxRecDepth 100000 in
theorem refGet_any {ok : Nat → Prop} (x : Jq.J) (v : Value) (t : List Nat) (ht : ∀ y ∈ t, y < 256) (w : World) (hJ : IsJ w ok v x) :
    Calls Tryz.prog 41 #[v, .string (strOf t)] w (RGetEnd ok (getP x t) w) := by
  obtain ⟨nv, lv, rfl, _, _, _, hS, hns, hnl, hL⟩ := hJ.parts
  obtain ⟨A0, c0, rfl⟩ := hL.form
  obtain ⟨A9, c9, rfl⟩ := hS.form
  have hb0 : ∀ o o', Below w.heap.size w ((w.alloc o).alloc o') := fun o o' => ((Below.refl _ _).alloc (Nat.le_refl _) o).alloc (by simp) o'
  obtain ⟨N, eN⟩ : ∃ N, x.names.length = N := ⟨_, rfl⟩
  obtain ⟨M, eM⟩ : ∃ M, x.list.length = M := ⟨_, rfl⟩
  obtain ⟨RES, eRES⟩ : ∃ RES, getP x t = RES := ⟨_, rfl⟩
  rw [eRES]
  unfold getP at eRES
  have HE : Hid (RES = none → ∀ o o', RGetEnd ok RES w (.returned (.tuple #[jv 0 false 0 ByteArray.empty nilS nilS, .bool false])) ((w.alloc o).alloc o')) := fun e o o' => RGetEnd.no e (hb0 o o')
  have HB0 := Lib.hid hb0
  have HN := Lib.hid eN
  have HM := Lib.hid eM
  have HL := Lib.hid hL
  have HNS := Lib.hid hns
  rw [eN] at hS hnl
  have HS := Lib.hid hS
  rw [eN, eM]
  rw [eM] at HL
  rw [eN, eM] at eRES
  have hNs : N ≤ 140737488355328 := by omega
  clear hb0 hL hS hns hnl eN eM hJ
  by_cases h5 : x.kind = 5
  rotate_left
  · have d5 : (x.kind != 5) = true := by rw [bne_iff_ne]; exact h5
    have HQ := Lib.hid (HE.out (by rw [← eRES]; exact if_neg (fun e => h5 e.1)))
    clear h5 eRES
    go_enter Tryz.func41, Tryz.ntmps41
    go_wp2
    exact bodyPost_ret (by simp [results, Tryz.results41, go_sem]; rfl) rfl (HQ.out _ _)
  have d5 : (x.kind != 5) = false := by rw [h5]; rfl
  by_cases h6 : N = M
  rotate_left
  · have d6 : ((N : Int) != (M : Int)) = true := by rw [bne_iff_ne]; omega
    have HQ := Lib.hid (HE.out (by rw [← eRES]; exact if_neg (fun e => h6 e.2)))
    clear h5 h6 eRES
    go_enter Tryz.func41, Tryz.ntmps41
    go_wp2
    exact bodyPost_ret (by simp [results, Tryz.results41, go_sem]; rfl) rfl (HQ.out _ _)
  subst h6
  have d6 : ((N : Int) != (N : Int)) = false := by simp
  rw [if_pos ⟨h5, rfl⟩] at eRES
  have HR := Lib.hid eRES
  clear h5 eRES
  go_enter Tryz.func41, Tryz.ntmps41
  go_wp2_with fail
  go_loopw [6] (fun i wr => ∃ k : Nat, i = .int .i64 k ∧ k ≤ N ∧ Hid (∀ j, j < k → x.names[j]? ≠ some t) ∧ wr = (w.alloc (.cells #[.int .i64 x.kind, .bool x.bool, .int .i64 x.int, .string (strOf x.text), .slice A9 N c9, .slice A0 N c0] 26)).alloc (.cells #[.int .i64 0, .bool false, .int .i64 0, .string { data := #[] }, .slice none 0 0, .slice none 0 0] 26)) (fun i _ => N - (intOf i).toNat)
  case atStart => exact ⟨0, rfl, Nat.zero_le _, Lib.hid (fun j hj => absurd hj (Nat.not_lt_zero _)), rfl⟩
  case round =>
    obtain ⟨k, rfl, hk, hne, rfl⟩ := hrel
    by_cases hlt : k < N
    · obtain ⟨b, off, p, rfl, _, hblt, hc, hp, p0⟩ := slIs_text HS.out HN.out hlt
      have p0 := (World.cell?_of_block (a := ⟨b, off + k, none⟩) ((HB0.out (.cells #[.int .i64 x.kind, .bool x.bool, .int .i64 x.int, .string (strOf x.text), .slice (some ⟨b, off, none⟩) N c9, .slice A0 N c0] 26) (.cells #[.int .i64 0, .bool false, .int .i64 0, .string { data := #[] }, .slice none 0 0, .slice none 0 0] 26)).block b hblt)).trans p0
      have hTT := str_beq (HNS.out p (List.mem_of_getElem? hp)).2 ht
      have HP := Lib.hid hp
      clear hp hc
      by_cases heq : p = t
      · rw [decide_eq_true heq] at hTT
        obtain ⟨bl, offl, y, B1, e1, B2, e2, rfl, hbl, hbllt, hy, hJy, s0, s1, s2, s3, s4, s5⟩ := HL.out.elem (i := k) (by rw [HM.out]; exact hlt)
        have HBK : Hid (∀ o o', ((w.alloc o).alloc o').heap[bl]? = w.heap[bl]?) := fun o o' => (HB0.out o o').block bl hbllt
        have mv : ∀ (i : Nat) (v : Value) o o', w.cell? ⟨bl, i, none⟩ = some v → ((w.alloc o).alloc o').cell? ⟨bl, i, none⟩ = some v := fun i v o o' h => (World.cell?_of_block (a := ⟨bl, i, none⟩) (HBK.out o o')).trans h
        have s0 := mv _ _ (.cells #[.int .i64 x.kind, .bool x.bool, .int .i64 x.int, .string (strOf x.text), .slice (some ⟨b, off, none⟩) N c9, .slice (some ⟨bl, offl, none⟩) N c0] 26) (.cells #[.int .i64 0, .bool false, .int .i64 0, .string { data := #[] }, .slice none 0 0, .slice none 0 0] 26) s0
        have s1 := mv _ _ (.cells #[.int .i64 x.kind, .bool x.bool, .int .i64 x.int, .string (strOf x.text), .slice (some ⟨b, off, none⟩) N c9, .slice (some ⟨bl, offl, none⟩) N c0] 26) (.cells #[.int .i64 0, .bool false, .int .i64 0, .string { data := #[] }, .slice none 0 0, .slice none 0 0] 26) s1
        have s2 := mv _ _ (.cells #[.int .i64 x.kind, .bool x.bool, .int .i64 x.int, .string (strOf x.text), .slice (some ⟨b, off, none⟩) N c9, .slice (some ⟨bl, offl, none⟩) N c0] 26) (.cells #[.int .i64 0, .bool false, .int .i64 0, .string { data := #[] }, .slice none 0 0, .slice none 0 0] 26) s2
        have s3 := mv _ _ (.cells #[.int .i64 x.kind, .bool x.bool, .int .i64 x.int, .string (strOf x.text), .slice (some ⟨b, off, none⟩) N c9, .slice (some ⟨bl, offl, none⟩) N c0] 26) (.cells #[.int .i64 0, .bool false, .int .i64 0, .string { data := #[] }, .slice none 0 0, .slice none 0 0] 26) s3
        have s4 := mv _ _ (.cells #[.int .i64 x.kind, .bool x.bool, .int .i64 x.int, .string (strOf x.text), .slice (some ⟨b, off, none⟩) N c9, .slice (some ⟨bl, offl, none⟩) N c0] 26) (.cells #[.int .i64 0, .bool false, .int .i64 0, .string { data := #[] }, .slice none 0 0, .slice none 0 0] 26) s4
        have s5 := mv _ _ (.cells #[.int .i64 x.kind, .bool x.bool, .int .i64 x.int, .string (strOf x.text), .slice (some ⟨b, off, none⟩) N c9, .slice (some ⟨bl, offl, none⟩) N c0] 26) (.cells #[.int .i64 0, .bool false, .int .i64 0, .string { data := #[] }, .slice none 0 0, .slice none 0 0] 26) s5
        have HRY : Hid (RES = some y) := by
          unfold Hid
          rw [← HR.out, firstAt_hit (by rw [HP.out, heq]) hne.out]
          exact hy
        have HQ : Hid (∀ o o', RGetEnd ok RES w (.returned (.tuple #[jv y.kind y.bool y.int (strOf y.text) (.slice B1 y.names.length e1) (.slice B2 y.list.length e2), .bool true])) ((w.alloc o).alloc o')) := fun o o' => RGetEnd.yes HRY.out (HB0.out o o') (hJy.on (HB0.out o o'))
        clear heq hy hJy mv
        go_wp2
        exact bodyPost_ret (by simp [results, Tryz.results41, go_sem]) rfl (HQ.out _ _)
      · rw [decide_eq_false heq] at hTT
        have HQ : Hid (∀ j, j < k + 1 → x.names[j]? ≠ some t) := fun j hj => by
          rcases Nat.lt_or_eq_of_le (Nat.le_of_lt_succ hj) with h | h
          · exact hne.out j h
          · rw [h, HP.out]
            exact fun e => heq (Option.some.inj e)
        clear heq
        go_wp2
        go_roundw
        case rel => exact ⟨k + 1, by go_num, hlt, Lib.hid HQ.out, trivial⟩
        case measure => simp [intOf]; omega
    · obtain rfl : k = N := by omega
      have hd3 : decide ((k : Int) < (k : Int)) = false := by simp
      have HQ := Lib.hid (HE.out (by rw [← HR.out, firstAt_miss (fun j hj => hne.out j (by rw [HN.out] at hj; exact hj))]))
      clear hne
      go_wp2
      exact bodyPost_ret (by simp [results, Tryz.results41, go_sem]; rfl) rfl (HQ.out _ _)
end Go.Proofs.YthklgpflaghojaaGreatDoor
