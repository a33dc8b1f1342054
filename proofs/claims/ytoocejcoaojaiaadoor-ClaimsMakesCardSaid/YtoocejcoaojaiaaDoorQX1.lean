/-
  QX1: JDec JSmall JBlanks JFour JWrite JLong JLongW JRValid JRQuoted JRP JRGet, side by side.
-/
import Derived.Test.YtoocejcoaojaiaaDoorQM
import Derived.Deep.RegionLaw
import Derived.IntWalk
import Derived.Outline
import Derived.Test.YtoocejcoaojaiaaDoorQC
import Derived.RegionTactic
import Derived.Deep.RegionWith
import Derived.Test.YtoocejcoaojaiaaDoorQS
import Derived.Deep.RegionHeld
import Derived.WalkSmall
import Derived.Test.YtoocejcoaojaiaaDoorQI
import Derived.Test.YtoocejcoaojaiaaDoorQA
import Derived.Test.YtoocejcoaojaiaaDoorQJ

/-
  The document's Decimal and tens.
-/
namespace Go.Proofs.YtoocejcoaojaiaaDoor
open Go.RowKit

theorem one_alloc' (w : World) (o : Obj) : Below w.heap.size w (w.alloc o) := (Below.refl _ _).alloc (Nat.le_refl _) o
theorem digits_step {m : Nat} (h : 10 ≤ m) : Jq.digits m = Jq.digits (m / 10) ++ [48 + m % 10] := by
  have e : (UInt8.ofNat (48 + m % 10)).toNat = 48 + m % 10 := by simp; omega
  unfold Jq.digits
  rw [Lib.decDigits, dif_neg (by omega), Uq.nums_append]
  simp [Uq.nums]
  omega
theorem digits_one {m : Nat} (h : m < 10) : Jq.digits m = [48 + m] := by
  unfold Jq.digits
  rw [Lib.decDigits, dif_pos h]
  simp [Uq.nums]
  omega
theorem digits_byte : ∀ (m : Nat), ∀ x ∈ Jq.digits m, x < 256 := by
  intro m
  induction m using Nat.strongRecOn with
  | _ m ih =>
    intro x hx
    by_cases h : m < 10
    · rw [digits_one h] at hx
      simp at hx; omega
    · rw [digits_step (by omega)] at hx
      rcases List.mem_append.1 hx with hx | hx
      · exact ih (m / 10) (by omega) x hx
      · simp at hx; omega
theorem digits_len : ∀ (k m : Nat), m < 10 ^ (k + 1) → (Jq.digits m).length ≤ k + 1 := by
  intro k
  induction k with
  | zero => intro m h; rw [digits_one (by omega)]; simp
  | succ k ih =>
    intro m h
    by_cases h10 : m < 10
    · rw [digits_one h10]; simp
    · rw [digits_step (by omega), List.length_append]
      have := ih (m / 10) (by rw [Nat.pow_succ] at h; omega)
      simp
      omega

/-- One byte as a text. -/
theorem byte_conv {r : Nat} (h : 48 + r < 256) (w : World) : (convert 68 9 (.slice (some ⟨w.heap.size, 0, none⟩) 1 1)).run Tryd.prog (w.alloc (.cells #[.int .u8 (48 + (r : Int))] 5)) = .ok (.string (strOf [48 + r])) (w.alloc (.cells #[.int .u8 (48 + (r : Int))] 5)) := by
  have e : (48 + (r : Int)) = ((48 + r : Nat) : Int) := by omega
  rw [e]
  exact conv_str (q := [48 + r]) (arg_new rfl 5 (0, 0) [48 + r] 1 (by simpa using h) (Nat.le_refl _) (by decide))

set_option maxHeartbeats 2000000 in
set_option maxRecDepth 100000 in
theorem tens_any : ∀ (m : Nat), m ≤ 9223372036854775808 → ∀ (w : World), Calls Tryd.prog 61 #[.int .i64 (-(m : Int))] w fun e w' => e = .returned (.string (strOf (Jq.digits m))) ∧ Below w.heap.size w w' := by
  intro m
  induction m using Nat.strongRecOn with
  | _ m ih =>
    intro hm w
    have hn : (-(m : Int)).tmod 10 = -((m % 10 : Nat) : Int) := by rw [Int.neg_tmod]; rfl
    have hq : (-(m : Int)).tdiv 10 = -((m / 10 : Nat) : Int) := by rw [Int.neg_tdiv]; rfl
    have hr10 : m % 10 < 10 := Nat.mod_lt _ (by decide)
    have hcv := byte_conv (r := m % 10) (by omega) w
    have HB := Lib.hid (one_alloc' w (.cells #[.int .u8 (48 + ((m % 10 : Nat) : Int))] 5))
    by_cases h10 : m < 10
    · have hd : decide (-(m : Int) ≤ -10) = false := decide_eq_false (by omega)
      have HD : Hid (Jq.digits m = [48 + m % 10]) := by unfold Hid; rw [digits_one h10, Nat.mod_eq_of_lt h10]
      obtain ⟨n, en⟩ : ∃ n : Int, -(m : Int) = n := ⟨_, rfl⟩
      rw [en] at hn hq hd ⊢
      generalize m % 10 = r at *
      clear ih en hq h10 hm
      go_enter Tryd.func61, Tryd.ntmps61
      go_wp2
      go_ret
      exact ⟨by rw [HD.out]; rfl, HB.out⟩
    · have hd : decide (-(m : Int) ≤ -10) = true := decide_eq_true (by omega)
      have HD : Hid (Jq.digits m = Jq.digits (m / 10) ++ [48 + m % 10]) := digits_step (by omega)
      have hI := ih (m / 10) (by omega) (by omega) (w.alloc (.cells #[.int .u8 (48 + ((m % 10 : Nat) : Int))] 5))
      have HL : Hid ((Jq.digits (m / 10)).length ≤ 20) := digits_len 19 (m / 10) (by omega)
      obtain ⟨n, en⟩ : ∃ n : Int, -(m : Int) = n := ⟨_, rfl⟩
      rw [en] at hn hq hd ⊢
      generalize m % 10 = r at *
      have hqb : m / 10 ≤ 9223372036854775807 := by omega
      generalize hmq : m / 10 = q at *
      clear ih en h10 hm hmq
      go_enter Tryd.func61, Tryd.ntmps61
      go_wp2_with fail
      refine hI.mono ?_
      rintro e w1 ⟨rfl, hb1⟩
      have hsz : (strOf (Jq.digits q)).size + (strOf [48 + r]).size ≤ 40 := by rw [strOf_size, strOf_size]; have := HL.out; simp; omega
      have HS := Lib.hid (strOf_append (Jq.digits q) [48 + r])
      have HB1 : Hid (Below w.heap.size w w1) := HB.out.trans (hb1.mono HB.out.size)
      generalize strOf (Jq.digits q) = X at *
      generalize strOf [48 + r] = Y at *
      clear hI hb1
      go_wp2
      go_ret
      exact ⟨by rw [HD.out, ← HS.out]; rfl, HB1.out⟩

theorem byte_drew {r : Nat} (h : 48 + r < 256) (w : World) : (convert 68 9 (.slice (some ⟨w.heap.size, 0, none⟩) 1 1)).run Tryd.prog (w.alloc (.cells #[.int .u8 (48 + (r : Int))] 5)).drew = .ok (.string (strOf [48 + r])) (w.alloc (.cells #[.int .u8 (48 + (r : Int))] 5)).drew :=
  byte_conv h w.drew
theorem byte_cell {r g : Nat} (h : 48 + r < 256) (w : World) (hg : g < w.heap.size) (hc : w.cell? ⟨g, 0, none⟩ = some (.int .u8 (48 + (r : Int)))) : (convert 68 9 (.slice (some ⟨g, 0, none⟩) 1 1)).run Tryd.prog w = .ok (.string (strOf [48 + r])) w := by
  have e : (48 + (r : Int)) = ((48 + r : Nat) : Int) := by omega
  rw [e] at hc
  refine conv_str (q := [48 + r]) ⟨Nat.le_refl _, by decide, by simpa using h, fun _ => ⟨g, 0, rfl, hg, fun j x hj => ?_⟩⟩
  match j, hj with
  | 0, hj =>
    simp at hj
    subst hj
    exact ⟨h, hc⟩
set_option maxHeartbeats 2000000 in
set_option maxRecDepth 100000 in
/-- Decimal of no negative number. -/
theorem decNat_any : ∀ (m : Nat), m ≤ 9223372036854775807 → ∀ (w : World), Calls Tryd.prog 50 #[.int .i64 (m : Int)] w fun e w' => e = .returned (.string (strOf (Jq.digits m))) ∧ Below w.heap.size w w' := by
  intro m
  induction m using Nat.strongRecOn with
  | _ m ih =>
    intro hm w
    have d0 : decide ((m : Int) < 0) = false := decide_eq_false (by omega)
    by_cases h10 : m < 10
    · have hd : decide ((m : Int) < 10) = true := decide_eq_true (by omega)
      have HD := Lib.hid (digits_one h10)
      have hcv := byte_conv (r := m) (by omega) w
      have HB := Lib.hid (one_alloc' w (.cells #[.int .u8 (48 + (m : Int))] 5))
      clear ih hm
      go_enter Tryd.func50, Tryd.ntmps50
      go_wp2
      go_ret
      exact ⟨by rw [HD.out]; rfl, HB.out⟩
    · have hd : decide ((m : Int) < 10) = false := decide_eq_false (by omega)
      have HD : Hid (Jq.digits m = Jq.digits (m / 10) ++ [48 + m % 10]) := digits_step (by omega)
      have hI := fun w => ih (m / 10) (by omega) (by omega) w
      have HL : Hid ((Jq.digits (m / 10)).length ≤ 20) := digits_len 19 (m / 10) (by omega)
      have hn : (m : Int).tmod 10 = ((m % 10 : Nat) : Int) := rfl
      have hq : (m : Int).tdiv 10 = ((m / 10 : Nat) : Int) := rfl
      have hr10 : m % 10 < 10 := Nat.mod_lt _ (by decide)
      have hqb : m / 10 ≤ 9223372036854775807 := by omega
      have hc1 := fun w => byte_conv (r := m % 10) (by omega) w
      have hc2 := fun w => byte_drew (r := m % 10) (by omega) w
      have HC3 : Hid (∀ (W w1 : World) (g : Nat), g < W.heap.size → W.cell? ⟨g, 0, none⟩ = some (.int .u8 (48 + ((m % 10 : Nat) : Int))) → Below W.heap.size W w1 → (convert 68 9 (.slice (some ⟨g, 0, none⟩) 1 1)).run Tryd.prog w1 = .ok (.string (strOf [48 + m % 10])) w1) :=
        fun W w1 g hg hc hb => byte_cell (by omega) w1 (Nat.lt_of_lt_of_le hg hb.size) ((World.cell?_of_block (a := ⟨g, 0, none⟩) (hb.block g hg)).trans hc)
      obtain ⟨n, en⟩ : ∃ n : Int, (m : Int) = n := ⟨_, rfl⟩
      rw [en] at hn hq hd d0 ⊢
      generalize m % 10 = r at *
      generalize m / 10 = q at *
      have hsz : (strOf (Jq.digits q)).size + (strOf [48 + r]).size ≤ 40 := by rw [strOf_size, strOf_size]; have := HL.out; simp; omega
      have HS := Lib.hid (strOf_append (Jq.digits q) [48 + r])
      generalize strOf (Jq.digits q) = X at *
      generalize strOf [48 + r] = Y at *
      clear ih en h10 hm
      go_enter Tryd.func50, Tryd.ntmps50
      have w1 : IntKind.i64.wrap (q : Int) = (q : Int) := IntWalk.i64_in _ (by omega)
      have w2 : IntKind.i64.wrap (48 + (r : Int)) = 48 + (r : Int) := IntWalk.i64_in _ (by omega)
      have w3 : IntKind.u8.wrap (48 + (r : Int)) = 48 + (r : Int) := IntWalk.u8_in _ (by omega)
      have hsz2 : ¬ 9223372036854775807 < X.size + Y.size := by omega
      go_upto_region 5 with (fail)
      go_region_law (go_simp; go_at_call 50; refine (hI _).mono ?_; rintro e w1 ⟨rfl, hb1⟩; have hc3 := fun h1 h2 => HC3.out _ w1 w.heap.size h1 h2 hb1; simp only [])
      all_goals
        have hbf : Below w.heap.size w w1 := by
          first
            | exact ⟨hb1.os, hb1.tape, hb1.output, hb1.size, hb1.block⟩
            | exact ((one_alloc' w _).drew).trans (hb1.mono (by simp))
        clear hb1 hc3
        go_wp2
        go_ret
        exact ⟨by rw [HD.out, ← HS.out]; rfl, by first | exact hbf | exact hbf.alloc hbf.size _⟩
set_option maxHeartbeats 2000000 in
set_option maxRecDepth 100000 in
theorem decimal_any (n : Int) (h0 : -9223372036854775808 ≤ n) (h1 : n ≤ 9223372036854775807) (w : World) : Calls Tryd.prog 50 #[.int .i64 n] w fun e w' => e = .returned (.string (strOf (Jq.decimal n))) ∧ Below w.heap.size w w' := by
  by_cases hn : n < 0
  · have d0 : decide (n < 0) = true := decide_eq_true hn
    have hT := tens_any n.natAbs (by omega) w
    rw [show -((n.natAbs : Nat) : Int) = n from by omega] at hT
    have HD : Hid (strOf (Jq.decimal n) = { data := #[45] } ++ strOf (Jq.digits n.natAbs)) := by
      unfold Hid Jq.decimal
      rw [if_pos hn]
      exact (strOf_append [45] (Jq.digits n.natAbs)).symm
    have hlen : (strOf (Jq.digits n.natAbs)).size ≤ 20 := by rw [strOf_size]; exact digits_len 19 _ (by omega)
    generalize strOf (Jq.digits n.natAbs) = X at *
    clear hn
    go_enter Tryd.func50, Tryd.ntmps50
    go_wp2_with fail
    refine hT.mono ?_
    rintro e w1 ⟨rfl, hb⟩
    clear hT
    go_wp2
    go_ret
    exact ⟨by rw [HD.out]; rfl, hb⟩
  · have hD := decNat_any n.toNat (by omega) w
    rw [show ((n.toNat : Nat) : Int) = n from by omega] at hD
    have : Jq.decimal n = Jq.digits n.toNat := if_neg hn
    rw [this]
    exact hD
end Go.Proofs.YtoocejcoaojaiaaDoor

/-
  The contracts of the document's small functions over texts: at, digit, hex, blanks.
-/
namespace Go.Proofs.YtoocejcoaojaiaaDoor
open Go.RowKit
theorem hexv_le (c : Nat) : Jq.hexv c ≤ 16 := by
  unfold Jq.hexv
  split
  · omega
  · split
    · omega
    · split <;> omega
theorem hexv_cases (c : Nat) : (Jq.dig c = true ∧ 48 ≤ c ∧ c ≤ 57 ∧ Jq.hexv c = c - 48) ∨ (Jq.dig c = false ∧ 97 ≤ c ∧ c ≤ 102 ∧ Jq.hexv c = c - 87) ∨ (Jq.dig c = false ∧ 65 ≤ c ∧ c ≤ 70 ∧ Jq.hexv c = c - 55) ∨ (Jq.dig c = false ∧ ¬ (97 ≤ c ∧ c ≤ 102) ∧ ¬ (65 ≤ c ∧ c ≤ 70) ∧ Jq.hexv c = 16) := by
  unfold Jq.hexv
  by_cases h1 : 48 ≤ c ∧ c ≤ 57
  · exact .inl ⟨(Jq.dig_iff c).2 h1, h1.1, h1.2, by rw [if_pos h1]⟩
  have hd : Jq.dig c = false := by
    cases h : Jq.dig c with
    | false => rfl
    | true => exact absurd ((Jq.dig_iff c).1 h) h1
  by_cases h2 : 97 ≤ c ∧ c ≤ 102
  · exact .inr (.inl ⟨hd, h2.1, h2.2, by rw [if_neg h1, if_pos h2]⟩)
  by_cases h3 : 65 ≤ c ∧ c ≤ 70
  · exact .inr (.inr (.inl ⟨hd, h3.1, h3.2, by rw [if_neg h1, if_neg h2, if_pos h3]⟩))
  · exact .inr (.inr (.inr ⟨hd, h2, h3, by rw [if_neg h1, if_neg h2, if_neg h3]⟩))

/-- The place behind blanks. -/
def past (S : List Nat) (i : Nat) : Nat := S.length - (Jq.skip (S.drop i)).length
theorem skip_drop (S : List Nat) (i : Nat) : Jq.skip (S.drop i) = S.drop (past S i) := by
  have h : ∃ k, Jq.skip (S.drop i) = S.drop k := by
    have := List.dropWhile_suffix (l := S.drop i) Jq.blank
    obtain ⟨t, ht⟩ := this
    refine ⟨i + t.length, ?_⟩
    rw [← List.drop_drop]
    show List.dropWhile Jq.blank (S.drop i) = _
    conv => rhs; rw [← ht]
    rw [List.drop_left]
  obtain ⟨k, hk⟩ := h
  rw [past, hk, List.length_drop]
  by_cases hle : k ≤ S.length
  · rw [show S.length - (S.length - k) = k from by omega]
  · rw [List.drop_eq_nil_of_le (by omega), List.drop_eq_nil_of_le (by omega)]
theorem past_stop {S : List Nat} {i : Nat} (hi : i ≤ S.length) (h : Jq.blank (S.getD i 0) = false) : past S i = i := by
  have : Jq.skip (S.drop i) = S.drop i := by
    rcases Nat.lt_or_eq_of_le hi with hlt | heq
    · rw [List.drop_eq_getElem_cons hlt]
      rw [List.getD_eq_getElem?_getD, List.getElem?_eq_getElem hlt] at h
      exact Jq.skip_sign h _
    · rw [List.drop_eq_nil_of_le (by omega)]; rfl
  rw [past, this, List.length_drop]
  omega
theorem past_step {S : List Nat} {i : Nat} (h : Jq.blank (S.getD i 0) = true) : i < S.length ∧ past S i = past S (i + 1) := by
  have hlt : i < S.length := by
    rcases Nat.lt_or_ge i S.length with h1 | h1
    · exact h1
    · rw [List.getD_eq_getElem?_getD, List.getElem?_eq_none h1] at h; cases h
  refine ⟨hlt, ?_⟩
  unfold past
  rw [List.drop_eq_getElem_cons hlt]
  rw [List.getD_eq_getElem?_getD, List.getElem?_eq_getElem hlt] at h
  have : Jq.skip (S[i] :: S.drop (i + 1)) = Jq.skip (S.drop (i + 1)) := by
    have h' : Jq.blank S[i] = true := h
    unfold Jq.skip
    rw [List.dropWhile_cons, if_pos h']
  rw [this]
theorem past_le (S : List Nat) (i : Nat) : past S i ≤ S.length := by unfold past; omega
theorem past_ge {S : List Nat} {i : Nat} (hi : i ≤ S.length) : i ≤ past S i := by
  unfold past
  have := Jq.skip_len (S.drop i)
  rw [List.length_drop] at this
  omega
theorem blank_iff (c : Nat) : Jq.blank c = true ↔ c = 32 ∨ c = 9 ∨ c = 10 ∨ c = 13 := by
  unfold Jq.blank
  simp [or_assoc]
end Go.Proofs.YtoocejcoaojaiaaDoor

/-
  The contract of the document's blanks.
-/
namespace Go.Proofs.YtoocejcoaojaiaaDoor
open Go.RowKit

/-- What holds at each round of the loop. -/
def BlanksRel (S : List Nat) (i0 : Nat) (w : World) (i : Value) (wr : World) : Prop :=
  ∃ k : Nat, i = .int .i64 k ∧ k ≤ S.length ∧ past S k = past S i0 ∧ wr = w

end Go.Proofs.YtoocejcoaojaiaaDoor

/-
  The contracts of the document's four and Write.
-/
namespace Go.Proofs.YtoocejcoaojaiaaDoor
open Go.RowKit

/-- A number, or one below 0 where there is none. -/
def orLess : Option Nat → Int
  | none => -1
  | some n => n

/-- What holds at each round of four's loop. -/
def FourRel (S : List Nat) (i : Nat) (w : World) (n' k' : Value) (wr : World) : Prop :=
  ∃ k : Nat, k' = .int .i64 k ∧ k ≤ 4 ∧ n' = .int .i64 (hexN S i k : Nat) ∧ (∀ j, j < k → Jq.hexv (S.getD (i + j) 0) < 16) ∧ hexN S i k ≤ 65535 ∧ wr = w

end Go.Proofs.YtoocejcoaojaiaaDoor

/-
  The contract of the document's Write: a rune's bytes.
-/
namespace Go.Proofs.YtoocejcoaojaiaaDoor
open Go.RowKit

/-- Bytes that were made. -/
def BytesEnd (q : List Nat) (w : World) (e : Ending) (w' : World) : Prop := ∃ A c, e = .returned (.slice A q.length c) ∧ ArgIs w' A c q ∧ Below w.heap.size w w'
theorem BytesEnd.new {q : List Nat} {w : World} {fr : Nat × Nat} {t : TypeId} {cs : Array Value} {n : Nat} (hcs : cs = (u8s q).toArray) (hn : n = q.length) (hq : ∀ x ∈ q, x < 256) (hl : q.length ≤ 9223372036854775807) :
    BytesEnd q w (.returned (.slice (some ⟨w.heap.size, 0, none⟩) n n)) (w.alloc (.cells cs t fr)) := by
  subst hcs hn
  exact ⟨_, _, rfl, arg_new rfl t fr q _ hq (Nat.le_refl _) hl, (Below.refl _ _).alloc (Nat.le_refl _) _⟩
theorem rune_lt (r : Nat) (hr : r ≤ 1114111) : ∀ x ∈ Jq.runeBytes r, x < 256 := by
  intro x hx
  unfold Jq.runeBytes at hx
  split at hx
  · simp at hx; omega
  · split at hx
    · simp at hx; omega
    · split at hx
      · simp at hx; omega
      · simp at hx; omega

set_option maxHeartbeats 2000000 in
set_option maxRecDepth 100000 in
theorem writeRune_any (r : Nat) (hr : r ≤ 1114111) (w : World) :
    Calls Tryd.prog 70 #[.int .i64 r] w fun e w' => BytesEnd (Jq.runeBytes r) w e w' := by
  have HL := Lib.hid (rune_lt r hr)
  by_cases h1 : r < 128
  · have HR : Hid (Jq.runeBytes r = [r]) := by unfold Hid Jq.runeBytes; rw [if_pos h1]
    have hd : decide ((r : Int) < 128) = true := decide_eq_true (by omega)
    go_enter Tryd.func70, Tryd.ntmps70
    go_wp2
    go_ret
    exact BytesEnd.new (by rw [HR.out]; simp [u8s]) (by rw [HR.out]; rfl) HL.out (by rw [HR.out]; simp)
  have hd : decide ((r : Int) < 128) = false := decide_eq_false (by omega)
  by_cases h2 : r < 2048
  · have HR : Hid (Jq.runeBytes r = [192 + r / 64, 128 + r % 64]) := by unfold Hid Jq.runeBytes; rw [if_neg h1, if_pos h2]
    have hd2 : decide ((r : Int) < 2048) = true := decide_eq_true (by omega)
    go_enter Tryd.func70, Tryd.ntmps70
    go_wp2
    go_ret
    exact BytesEnd.new (by rw [HR.out]; simp [u8s]) (by rw [HR.out]; rfl) HL.out (by rw [HR.out]; simp)
  have hd2 : decide ((r : Int) < 2048) = false := decide_eq_false (by omega)
  by_cases h3 : r < 65536
  · have HR : Hid (Jq.runeBytes r = [224 + r / 4096, 128 + r / 64 % 64, 128 + r % 64]) := by unfold Hid Jq.runeBytes; rw [if_neg h1, if_neg h2, if_pos h3]
    have hd3 : decide ((r : Int) < 65536) = true := decide_eq_true (by omega)
    go_enter Tryd.func70, Tryd.ntmps70
    go_wp2
    go_ret
    exact BytesEnd.new (by rw [HR.out]; simp [u8s]) (by rw [HR.out]; rfl) HL.out (by rw [HR.out]; simp)
  · have HR : Hid (Jq.runeBytes r = [240 + r / 262144, 128 + r / 4096 % 64, 128 + r / 64 % 64, 128 + r % 64]) := by unfold Hid Jq.runeBytes; rw [if_neg h1, if_neg h2, if_neg h3]
    have hd3 : decide ((r : Int) < 65536) = false := decide_eq_false (by omega)
    go_enter Tryd.func70, Tryd.ntmps70
    go_wp2
    go_ret
    exact BytesEnd.new (by rw [HR.out]; simp [u8s]) (by rw [HR.out]; rfl) HL.out (by rw [HR.out]; simp)
end Go.Proofs.YtoocejcoaojaiaaDoor

/-
  The contract of the document's Long.
-/
namespace Go.Proofs.YtoocejcoaojaiaaDoor
open Go.RowKit

theorem long_found {l : List Nat} {n : Nat} (h1 : 1 ≤ n) (h4 : n ≤ 4) (hno : ∀ m, 1 ≤ m → m < n → Jq.isRune m l = false) (hy : Jq.isRune n l = true) : Jq.long l = n := by
  unfold Jq.long
  have : n = 1 ∨ n = 2 ∨ n = 3 ∨ n = 4 := by omega
  rcases this with rfl | rfl | rfl | rfl
  · simp [hy]
  · simp [hy, hno 1 (by omega) (by omega)]
  · simp [hy, hno 1 (by omega) (by omega), hno 2 (by omega) (by omega)]
  · simp [hy, hno 1 (by omega) (by omega), hno 2 (by omega) (by omega), hno 3 (by omega) (by omega)]
theorem long_none {l : List Nat} {n : Nat} (hno : ∀ m, 1 ≤ m → m < n → Jq.isRune m l = false) (he : 5 ≤ n ∨ l.length < n) : Jq.long l = 0 := by
  have key : ∀ m, 1 ≤ m → m ≤ 4 → Jq.isRune m l = false := fun m h1 h4 => by
    by_cases h : m < n
    · exact hno m h1 h
    · unfold Jq.isRune
      rw [decide_eq_false (by omega)]
      rfl
  unfold Jq.long
  simp [key 1 (by omega) (by omega), key 2 (by omega) (by omega), key 3 (by omega) (by omega), key 4 (by omega) (by omega)]
/-- The number that so many bytes from a place on say, of the first its rest alone. -/
def runeN (S : List Nat) (i M : Nat) : Nat → Nat
  | 0 => 0
  | 1 => S.getD i 0 % M
  | k + 2 => runeN S i M (k + 1) * 64 + S.getD (i + (k + 1)) 0 % 64
theorem runeN_lt (S : List Nat) (i M : Nat) (h : S.getD i 0 % M < 256) : ∀ k, runeN S i M (k + 1) < 256 * 64 ^ k
  | 0 => by simpa [runeN] using h
  | k + 1 => by
    have := runeN_lt S i M h k
    rw [runeN, Nat.pow_succ]
    omega
theorem runeN_of {S : List Nat} {i : Nat} : ∀ (n : Nat), 1 ≤ n → n ≤ 4 → i + n ≤ S.length → (∀ x ∈ S, x < 256) → Jq.runeOf n (S.drop i) = runeN S i (if n = 1 then 256 else if n = 2 then 32 else if n = 3 then 16 else 8) n := by
  intro n h1 h4 hl hS
  have : n = 1 ∨ n = 2 ∨ n = 3 ∨ n = 4 := by omega
  have hlen : n ≤ (S.drop i).length := by rw [List.length_drop]; omega
  have hd := fun j => getD_drop S i j
  have hb : S.getD (i + 0) 0 < 256 := by
    rw [List.getD_eq_getElem?_getD, List.getElem?_eq_getElem (by omega)]
    exact hS _ (List.getElem_mem _)
  rcases this with rfl | rfl | rfl | rfl
  · match e : S.drop i, hlen with
    | a :: r, _ =>
      rw [e] at hd
      have h0 := hd 0
      simp at h0 hb
      simp [Jq.runeOf, runeN]
      omega
  · match e : S.drop i, hlen with
    | a :: b :: r, _ =>
      rw [e] at hd
      have h0 := hd 0
      have h1 := hd 1
      simp at h0 h1
      simp [Jq.runeOf, runeN, h0, h1]
  · match e : S.drop i, hlen with
    | a :: b :: c :: r, _ =>
      rw [e] at hd
      have h0 := hd 0
      have h1 := hd 1
      have h2 := hd 2
      simp at h0 h1 h2
      simp [Jq.runeOf, runeN, h0, h1, h2]
  · match e : S.drop i, hlen with
    | a :: b :: c :: d :: r, _ =>
      rw [e] at hd
      have h0 := hd 0
      have h1 := hd 1
      have h2 := hd 2
      have h3 := hd 3
      simp at h0 h1 h2 h3
      simp [Jq.runeOf, runeN, h0, h1, h2, h3]
end Go.Proofs.YtoocejcoaojaiaaDoor

/-
  The walk of the document's Long.
-/
namespace Go.Proofs.YtoocejcoaojaiaaDoor
open Go.RowKit

theorem writeConv (m : Nat) (hm : m ≤ 1114111) (w : World) : Calls Tryd.prog 70 #[.int .i64 m] w fun e w' => ∃ A c n, e = .returned (.slice A n c) ∧ (convert 68 9 (.slice A n c)).run Tryd.prog w' = .ok (.string (strOf (Jq.runeBytes m))) w' ∧ Below w.heap.size w w' :=
  (writeRune_any m hm w).mono fun _ _ ⟨A, c, he, ha, hb⟩ => ⟨A, c, _, he, conv_str ha, hb⟩
/-- What holds at each round of Long's loop. -/
def LongRel (S : List Nat) (i : Nat) (w : World) (n' : Value) (wr : World) : Prop :=
  ∃ n : Nat, n' = .int .i64 n ∧ 1 ≤ n ∧ n ≤ 5 ∧ (∀ m, 1 ≤ m → m < n → Jq.isRune m (S.drop i) = false) ∧ Below w.heap.size w wr
/-- What holds at each round of its inner loop. -/
def LongIn (S : List Nat) (i M n : Nat) (r' k' : Value) : Prop :=
  ∃ k : Nat, k' = .int .i64 k ∧ 1 ≤ k ∧ k ≤ n ∧ r' = .int .i64 (runeN S i M k : Nat)

set_option maxHeartbeats 8000000 in
set_option maxRecDepth 100000 in
theorem long_any (s : ByteArray) (i : Nat) (hi : i < s.size) (hs : s.size ≤ 4611686018427387904) (w : World) :
    Calls Tryd.prog 67 #[.string s, .int .i64 i] w fun e w' => e = .returned (.int .i64 (Jq.long ((numsOf s).drop i) : Nat)) ∧ Below w.heap.size w w' := by
  have Hlen := Lib.hid (numsOf_length s)
  go_enter Tryd.func67, Tryd.ntmps67
  go_wp2_with fail
  go_loopw [5] (fun n' wr => LongRel (numsOf s) i w n' wr) (fun n' _ => 5 - (intOf n').toNat)
  case atStart => exact ⟨1, rfl, by omega, by omega, (fun m h1 h2 => by omega), Below.refl _ _⟩
  case round =>
    obtain ⟨n, rfl, hn1, hn5, hno, hb⟩ := hrel
    have HNo := Lib.hid hno
    clear hno
    by_cases hgo : n ≤ 4 ∧ i + n ≤ s.size
    · obtain ⟨hn4, hin⟩ := hgo
      have hX := nums_at s i hi
      have hx256 := s[i].toNat_lt
      have hd0 : decide ((n : Int) ≤ 4) = true := decide_eq_true (by omega)
      have hd1 : decide ((i : Int) + (n : Int) ≤ (s.size : Int)) = true := decide_eq_true (by omega)
      have hRO := runeN_of (S := numsOf s) (i := i) n hn1 hn4 (by rw [Hlen.out]; exact hin) (numsOf_lt s)
      by_cases h1 : n = 1
      · obtain ⟨M, eM⟩ : ∃ M, M = 256 := ⟨_, rfl⟩
        have HRM : Hid (Jq.runeOf n ((numsOf s).drop i) = runeN (numsOf s) i M n) := by unfold Hid; rw [hRO, if_pos h1, eM]
        have hMx : (numsOf s).getD i 0 % M < 256 := by rw [eM]; exact Nat.mod_lt _ (by decide)
        have hmod : s[i].toNat % M = s[i].toNat := by rw [eM]; exact Nat.mod_eq_of_lt hx256
        have hd2 : decide ((1 : Int) < (n : Int)) = false := decide_eq_false (by omega)
        have hb3 := hb
        have hle1 : n ≤ 1 := by omega
        clear eM hRO h1
        go_wp2_with fail
        go_loop [6, 7] (fun r k => LongIn (numsOf s) i M n r k) (fun _ k => n - (intOf k).toNat)
        case atStart => exact ⟨1, rfl, by omega, by omega, by rw [runeN, hX, hmod]⟩
        case round =>
          clear hmod
          obtain ⟨k, rfl, hk1, hk2, rfl⟩ := hrel
          have hm := runeN_lt (numsOf s) i M hMx (k - 1)
          rw [show k - 1 + 1 = k from by omega] at hm
          have hm2 : runeN (numsOf s) i M k ≤ 67108863 := by
            have := Nat.pow_le_pow_right (show 0 < 64 by decide) (show k - 1 ≤ 3 by omega)
            have h3 : 64 ^ 3 = 262144 := by decide
            omega
          clear hm
          by_cases hk : k < n
          · exfalso; omega
          · have hkn : k = n := by omega
            obtain rfl := hkn
            have hd : decide ((k : Int) < (k : Int)) = false := by simp
            have HRO : Hid (Jq.runeOf k ((numsOf s).drop i) = runeN (numsOf s) i M k) := HRM.out
            obtain ⟨m, em⟩ : ∃ m, runeN (numsOf s) i M k = m := ⟨_, rfl⟩
            rw [em] at hm2 HRO ⊢
            clear em
            have HI : Hid (Jq.isRune k ((numsOf s).drop i) = (Jq.okRune m && (Jq.runeBytes m == ((numsOf s).drop i).take k))) := by
              unfold Hid Jq.isRune
              rw [HRO.out, decide_eq_true (by rw [List.length_drop, Hlen.out]; omega)]
              simp
            by_cases hm1 : m ≤ 1114111 ∧ (m < 55296 ∨ 57343 < m)
            · obtain ⟨hm1, hm3⟩ := hm1
              have hOk : Hid (Jq.okRune m = true) := by unfold Hid Jq.okRune; simp; omega
              have HL := rune_lt m hm1
              obtain ⟨b, eb⟩ : ∃ b, (Jq.runeBytes m == ((numsOf s).drop i).take k) = b := ⟨_, rfl⟩
              have hEq : ((strOf (Jq.runeBytes m)).toList == (s.extract i (i + k)).toList) = b := by
                have e1 : ((numsOf s).drop i).take k = numsOf (s.extract i (i + k)) := by
                  rw [nums_extract, List.drop_take, show i + k - i = k from by omega]
                have e2 := str_beq HL (numsOf_lt (s.extract i (i + k)))
                rw [strOf_numsOf] at e2
                rw [e2, ← eb, e1]
                rw [Bool.eq_iff_iff, decide_eq_true_iff, beq_iff_eq]
              rw [eb, hOk.out] at HI
              clear eb HL hOk HRO
              have hd1 : decide ((m : Int) ≤ 1114111) = true := decide_eq_true (by omega)
              have hd2 : decide ((m : Int) < 55296) = true ∨ (decide ((m : Int) < 55296) = false ∧ decide ((57343 : Int) < (m : Int)) = true) := by
                rcases hm3 with h | h
                · exact .inl (decide_eq_true (by omega))
                · exact .inr ⟨decide_eq_false (by omega), decide_eq_true (by omega)⟩
              have hW := fun w => writeConv m hm1 w
              obtain ⟨T, eT⟩ : ∃ T, strOf (Jq.runeBytes m) = T := ⟨_, rfl⟩
              rw [eT] at hW hEq
              clear hm3 hm1 eT
              have q1 : IntKind.i64.wrap ((i : Int) + (k : Int)) = (i : Int) + (k : Int) := IntWalk.i64_in _ (by omega)
              have q2 : (0 : Int) ≤ (i : Int) := by omega
              have q3 : (i : Int) ≤ (i : Int) + (k : Int) := by omega
              have q4 : (i : Int) + (k : Int) ≤ (s.size : Int) := by omega
              have q5 : ((i : Int) + (k : Int)).toNat = i + k := by omega
              rcases hd2 with hd2 | ⟨hd2, hd3⟩
              all_goals
                cases b
                · go_upto_region 12 with (fail)
                  clear hb hs hX hm2
                  go_region_held (fun W => Below w.heap.size w W)
                    (first
                      | (go_split_ands; have hbz := (by assumption : Below w.heap.size w _).trans (hba.mono (by assumption : Below w.heap.size w _).size); exact hbz)
                      | (go_split_ands; have hbz := (by assumption : Below w.heap.size w _).drew; exact hbz)
                      | go_keep)
                    (first | (go_at_call 70; with_reducible refine (hW _).mono ?_; rintro e wa ⟨A, c, n', rfl, hcv, hba⟩))
                  all_goals
                    go_split_ands
                    have hfin : Below w.heap.size w wa := by assumption
                    go_wp2
                    go_roundw
                    case rel =>
                      refine ⟨k + 1, by go_num, by omega, by omega, fun m h1 h2 => ?_, hfin⟩
                      rcases Nat.lt_or_eq_of_le (Nat.le_of_lt_succ h2) with h | h
                      · exact HNo.out m h1 h
                      · rw [h, HI.out]; rfl
                    case measure => simp [intOf]; omega
                · have HF : Hid (Jq.long ((numsOf s).drop i) = k) := long_found (by omega) (by omega) HNo.out (by rw [HI.out]; rfl)
                  go_upto_region 12 with (fail)
                  clear hb hs hX hm2
                  go_region_held (fun W => Below w.heap.size w W)
                    (first
                      | (go_split_ands; have hbz := (by assumption : Below w.heap.size w _).trans (hba.mono (by assumption : Below w.heap.size w _).size); exact hbz)
                      | (go_split_ands; have hbz := (by assumption : Below w.heap.size w _).drew; exact hbz)
                      | go_keep)
                    (first | (go_at_call 70; with_reducible refine (hW _).mono ?_; rintro e wa ⟨A, c, n', rfl, hcv, hba⟩))
                  all_goals
                    go_split_ands
                    have hfin : Below w.heap.size w wa := by assumption
                    go_wp2
                    go_ret
                    exact ⟨ret_int (by rw [HF.out]), hfin⟩
            · have hOk : Hid (Jq.okRune m = false) := by
                unfold Hid
                cases h : Jq.okRune m with
                | false => rfl
                | true => unfold Jq.okRune at h; simp at h; omega
              rw [hOk.out, Bool.false_and] at HI
              clear hOk HRO
              have hd1 : decide ((m : Int) ≤ 1114111) = false ∨ (decide ((m : Int) ≤ 1114111) = true ∧ decide ((m : Int) < 55296) = false ∧ decide ((57343 : Int) < (m : Int)) = false) := by
                by_cases h : m ≤ 1114111
                · exact .inr ⟨decide_eq_true (by omega), decide_eq_false (by omega), decide_eq_false (by omega)⟩
                · exact .inl (decide_eq_false (by omega))
              clear hm1
              rcases hd1 with hd1 | ⟨hd1, hd2, hd3⟩
              all_goals
                go_upto_region 12 with (fail)
                clear hb hs hX hm2
                go_quiet (fail)
                all_goals
                  have hfin := hb3.trans (drewN_below _ nq)
                  go_wp2
                  go_roundw
                  case rel =>
                    refine ⟨k + 1, by go_num, by omega, by omega, fun m h1 h2 => ?_, hfin⟩
                    rcases Nat.lt_or_eq_of_le (Nat.le_of_lt_succ h2) with h | h
                    · exact HNo.out m h1 h
                    · rw [h, HI.out]
                  case measure => simp [intOf]; omega
      · obtain ⟨M, eM⟩ : ∃ M, M = (if n = 1 then 256 else if n = 2 then 32 else if n = 3 then 16 else 8) := ⟨_, rfl⟩
        have HRM : Hid (Jq.runeOf n ((numsOf s).drop i) = runeN (numsOf s) i M n) := by unfold Hid; rw [hRO, eM]
        have hMx : (numsOf s).getD i 0 % M < 256 := by
          have := Nat.mod_le ((numsOf s).getD i 0) M
          have := nums_lt s i
          omega
        have hcell : (#[Value.int .i64 1, .int .i64 1, .int .i64 32, .int .i64 16, .int .i64 8] : Array Value)[n]? = some (.int .i64 (M : Int)) := by
          have : n = 2 ∨ n = 3 ∨ n = 4 := by omega
          rcases this with rfl | rfl | rfl <;> rw [eM] <;> rfl
        have hM0 : 8 ≤ M ∧ M ≤ 32 := by
          rw [eM, if_neg h1]
          split
          · omega
          · split <;> omega
        obtain ⟨hM1, hM2⟩ := hM0
        have hM3 : ((M : Int) == 0) = false := by rw [beq_eq_false_iff_ne]; omega
        have hd2 : decide ((1 : Int) < (n : Int)) = true := decide_eq_true (by omega)
        have hmod : ((s[i].toNat : Int)).tmod (M : Int) = ((s[i].toNat % M : Nat) : Int) := rfl
        have hmle : s[i].toNat % M ≤ 255 := by have := Nat.mod_le s[i].toNat M; omega
        have hb3 := hb.alloc hb.size (.cells #[.int .i64 1, .int .i64 1, .int .i64 32, .int .i64 16, .int .i64 8] 3)
        clear eM hRO h1
        go_wp2_with fail
        go_loop [6, 7] (fun r k => LongIn (numsOf s) i M n r k) (fun _ k => n - (intOf k).toNat)
        case atStart => exact ⟨1, rfl, by omega, by omega, by rw [runeN, hX]; rfl⟩
        case round =>
          clear hmod
          obtain ⟨k, rfl, hk1, hk2, rfl⟩ := hrel
          have hm := runeN_lt (numsOf s) i M hMx (k - 1)
          rw [show k - 1 + 1 = k from by omega] at hm
          have hm2 : runeN (numsOf s) i M k ≤ 67108863 := by
            have := Nat.pow_le_pow_right (show 0 < 64 by decide) (show k - 1 ≤ 3 by omega)
            have h3 : 64 ^ 3 = 262144 := by decide
            omega
          clear hm
          by_cases hk : k < n
          · have hd : decide ((k : Int) < (n : Int)) = true := decide_eq_true (by omega)
            have hlt : i + k < s.size := by omega
            have hXk := nums_at s (i + k) hlt
            have hy256 := s[i + k].toNat_lt
            have HE : Hid (runeN (numsOf s) i M (k + 1) = runeN (numsOf s) i M k * 64 + s[i + k].toNat % 64) := by
              unfold Hid
              obtain ⟨j, rfl⟩ : ∃ j, k = j + 1 := ⟨k - 1, by omega⟩
              rw [runeN, hXk]
            obtain ⟨m, em⟩ : ∃ m, runeN (numsOf s) i M k = m := ⟨_, rfl⟩
            rw [em] at hm2 HE ⊢
            clear em hXk
            go_wp2
            go_round
            case rel => exact ⟨k + 1, by go_num, by omega, by omega, by rw [HE.out]; go_num⟩
            case measure => simp [intOf]; omega
          · have hkn : k = n := by omega
            obtain rfl := hkn
            have hd : decide ((k : Int) < (k : Int)) = false := by simp
            have HRO : Hid (Jq.runeOf k ((numsOf s).drop i) = runeN (numsOf s) i M k) := HRM.out
            obtain ⟨m, em⟩ : ∃ m, runeN (numsOf s) i M k = m := ⟨_, rfl⟩
            rw [em] at hm2 HRO ⊢
            clear em
            have HI : Hid (Jq.isRune k ((numsOf s).drop i) = (Jq.okRune m && (Jq.runeBytes m == ((numsOf s).drop i).take k))) := by
              unfold Hid Jq.isRune
              rw [HRO.out, decide_eq_true (by rw [List.length_drop, Hlen.out]; omega)]
              simp
            by_cases hm1 : m ≤ 1114111 ∧ (m < 55296 ∨ 57343 < m)
            · obtain ⟨hm1, hm3⟩ := hm1
              have hOk : Hid (Jq.okRune m = true) := by unfold Hid Jq.okRune; simp; omega
              have HL := rune_lt m hm1
              obtain ⟨b, eb⟩ : ∃ b, (Jq.runeBytes m == ((numsOf s).drop i).take k) = b := ⟨_, rfl⟩
              have hEq : ((strOf (Jq.runeBytes m)).toList == (s.extract i (i + k)).toList) = b := by
                have e1 : ((numsOf s).drop i).take k = numsOf (s.extract i (i + k)) := by
                  rw [nums_extract, List.drop_take, show i + k - i = k from by omega]
                have e2 := str_beq HL (numsOf_lt (s.extract i (i + k)))
                rw [strOf_numsOf] at e2
                rw [e2, ← eb, e1]
                rw [Bool.eq_iff_iff, decide_eq_true_iff, beq_iff_eq]
              rw [eb, hOk.out] at HI
              clear eb HL hOk HRO
              have hd1 : decide ((m : Int) ≤ 1114111) = true := decide_eq_true (by omega)
              have hd2 : decide ((m : Int) < 55296) = true ∨ (decide ((m : Int) < 55296) = false ∧ decide ((57343 : Int) < (m : Int)) = true) := by
                rcases hm3 with h | h
                · exact .inl (decide_eq_true (by omega))
                · exact .inr ⟨decide_eq_false (by omega), decide_eq_true (by omega)⟩
              have hW := fun w => writeConv m hm1 w
              obtain ⟨T, eT⟩ : ∃ T, strOf (Jq.runeBytes m) = T := ⟨_, rfl⟩
              rw [eT] at hW hEq
              clear hm3 hm1 eT
              have q1 : IntKind.i64.wrap ((i : Int) + (k : Int)) = (i : Int) + (k : Int) := IntWalk.i64_in _ (by omega)
              have q2 : (0 : Int) ≤ (i : Int) := by omega
              have q3 : (i : Int) ≤ (i : Int) + (k : Int) := by omega
              have q4 : (i : Int) + (k : Int) ≤ (s.size : Int) := by omega
              have q5 : ((i : Int) + (k : Int)).toNat = i + k := by omega
              rcases hd2 with hd2 | ⟨hd2, hd3⟩
              all_goals
                cases b
                · go_upto_region 12 with (fail)
                  clear hb hs hX hm2
                  go_region_held (fun W => Below w.heap.size w W)
                    (first
                      | (go_split_ands; have hbz := (by assumption : Below w.heap.size w _).trans (hba.mono (by assumption : Below w.heap.size w _).size); exact hbz)
                      | (go_split_ands; have hbz := (by assumption : Below w.heap.size w _).drew; exact hbz)
                      | go_keep)
                    (first | (go_at_call 70; with_reducible refine (hW _).mono ?_; rintro e wa ⟨A, c, n', rfl, hcv, hba⟩))
                  all_goals
                    go_split_ands
                    have hfin : Below w.heap.size w wa := by assumption
                    go_wp2
                    go_roundw
                    case rel =>
                      refine ⟨k + 1, by go_num, by omega, by omega, fun m h1 h2 => ?_, hfin⟩
                      rcases Nat.lt_or_eq_of_le (Nat.le_of_lt_succ h2) with h | h
                      · exact HNo.out m h1 h
                      · rw [h, HI.out]; rfl
                    case measure => simp [intOf]; omega
                · have HF : Hid (Jq.long ((numsOf s).drop i) = k) := long_found (by omega) (by omega) HNo.out (by rw [HI.out]; rfl)
                  go_upto_region 12 with (fail)
                  clear hb hs hX hm2
                  go_region_held (fun W => Below w.heap.size w W)
                    (first
                      | (go_split_ands; have hbz := (by assumption : Below w.heap.size w _).trans (hba.mono (by assumption : Below w.heap.size w _).size); exact hbz)
                      | (go_split_ands; have hbz := (by assumption : Below w.heap.size w _).drew; exact hbz)
                      | go_keep)
                    (first | (go_at_call 70; with_reducible refine (hW _).mono ?_; rintro e wa ⟨A, c, n', rfl, hcv, hba⟩))
                  all_goals
                    go_split_ands
                    have hfin : Below w.heap.size w wa := by assumption
                    go_wp2
                    go_ret
                    exact ⟨ret_int (by rw [HF.out]), hfin⟩
            · have hOk : Hid (Jq.okRune m = false) := by
                unfold Hid
                cases h : Jq.okRune m with
                | false => rfl
                | true => unfold Jq.okRune at h; simp at h; omega
              rw [hOk.out, Bool.false_and] at HI
              clear hOk HRO
              have hd1 : decide ((m : Int) ≤ 1114111) = false ∨ (decide ((m : Int) ≤ 1114111) = true ∧ decide ((m : Int) < 55296) = false ∧ decide ((57343 : Int) < (m : Int)) = false) := by
                by_cases h : m ≤ 1114111
                · exact .inr ⟨decide_eq_true (by omega), decide_eq_false (by omega), decide_eq_false (by omega)⟩
                · exact .inl (decide_eq_false (by omega))
              clear hm1
              rcases hd1 with hd1 | ⟨hd1, hd2, hd3⟩
              all_goals
                go_upto_region 12 with (fail)
                clear hb hs hX hm2
                go_quiet (fail)
                all_goals
                  have hfin := hb3.trans (drewN_below _ nq)
                  go_wp2
                  go_roundw
                  case rel =>
                    refine ⟨k + 1, by go_num, by omega, by omega, fun m h1 h2 => ?_, hfin⟩
                    rcases Nat.lt_or_eq_of_le (Nat.le_of_lt_succ h2) with h | h
                    · exact HNo.out m h1 h
                    · rw [h, HI.out]
                  case measure => simp [intOf]; omega
    · have HF : Hid (Jq.long ((numsOf s).drop i) = 0) := long_none HNo.out (by rw [List.length_drop, Hlen.out]; omega)
      have hdd : decide ((n : Int) ≤ 4) = false ∨ (decide ((n : Int) ≤ 4) = true ∧ decide ((i : Int) + (n : Int) ≤ (s.size : Int)) = false) := by
        by_cases h : n ≤ 4
        · exact .inr ⟨decide_eq_true (by omega), decide_eq_false (by omega)⟩
        · exact .inl (decide_eq_false (by omega))
      rcases hdd with hd | ⟨hd, hd2⟩
      all_goals
        go_wp2
        go_ret
        exact ⟨ret_int (by rw [HF.out]; rfl), hb⟩
end Go.Proofs.YtoocejcoaojaiaaDoor

/-
  The document's Valid and named.
-/
namespace Go.Proofs.YtoocejcoaojaiaaDoor
open Go.RowKit

/-- What holds at each round of Valid's loop. -/
def ValidRel (S : List Nat) (w : World) (i l : Value) (wr : World) : Prop :=
  ∃ (k : Nat) (l' : Value), i = .int .i64 k ∧ l = l' ∧ k ≤ S.length ∧ Hid (Jq.valid S = Jq.valid (S.drop k)) ∧ Below w.heap.size w wr

set_option maxHeartbeats 4000000 in
set_option maxRecDepth 100000 in
theorem refValid_any (s : ByteArray) (hs : s.size ≤ 4611686018427387904) (w : World) :
    Calls Tryd.prog 59 #[.string s] w fun e w' => e = .returned (.bool (Jq.valid (numsOf s))) ∧ Below w.heap.size w w' := by
  have Hlen := Lib.hid (numsOf_length s)
  go_enter Tryd.func59, Tryd.ntmps59
  go_wp2_with fail
  go_loopw [3, 4] (fun i l wr => ValidRel (numsOf s) w i l wr) (fun i _ _ => s.size - (intOf i).toNat)
  case atStart => exact ⟨0, _, rfl, rfl, Nat.zero_le _, Lib.hid rfl, Below.refl _ _⟩
  case round =>
    obtain ⟨k, l', rfl, rfl, hk, hv, hb⟩ := hrel
    rw [Hlen.out] at hk
    by_cases hlt : k < s.size
    · have hd : decide ((k : Int) < (s.size : Int)) = true := decide_eq_true (by omega)
      have hL := long_any s k hlt hs wr
      have hne : (numsOf s).drop k ≠ [] := fun e => by
        have := congrArg List.length e
        rw [List.length_drop, Hlen.out] at this
        simp at this; omega
      have hst := Jq.valid_step hne
      obtain ⟨n, en⟩ : ∃ n, Jq.long ((numsOf s).drop k) = n := ⟨_, rfl⟩
      rw [en] at hL hst
      by_cases h0 : n = 0
      · have HV : Hid (Jq.valid (numsOf s) = false) := by unfold Hid; rw [hv.out, hst, if_pos h0]
        subst h0
        clear hst hne en
        go_wp2_with fail
        refine hL.mono ?_
        rintro e w1 ⟨rfl, hb1⟩
        have hb2 := below_more hb hb1
        clear hL hb hb1
        go_wp2
        go_ret
        exact ⟨by rw [HV.out]; rfl, hb2⟩
      · have hle := Jq.long_le ((numsOf s).drop k) (by rw [en]; omega)
        rw [en, List.length_drop, Hlen.out] at hle
        have HV : Hid (Jq.valid (numsOf s) = Jq.valid ((numsOf s).drop (k + n))) := by unfold Hid; rw [hv.out, hst, if_neg h0, List.drop_drop]
        have hd2 : ((n : Int) == 0) = false := by rw [beq_eq_false_iff_ne]; omega
        have hkn : k + n ≤ s.size := by omega
        have hn1 : 1 ≤ n := by omega
        clear hst hne en h0 hle
        go_wp2_with fail
        refine hL.mono ?_
        rintro e w1 ⟨rfl, hb1⟩
        have hb2 := below_more hb hb1
        clear hL hb hb1
        go_wp2
        go_roundw
        case rel => exact ⟨k + n, _, by go_num, rfl, by rw [Hlen.out]; exact hkn, Lib.hid HV.out, hb2⟩
        case measure => simp [intOf]; omega
    · obtain rfl : k = s.size := by omega
      have hd : decide ((s.size : Int) < (s.size : Int)) = false := by simp
      have HV : Hid (Jq.valid (numsOf s) = true) := by
        unfold Hid
        rw [hv.out, List.drop_eq_nil_of_le (by rw [Hlen.out]; exact Nat.le_refl _)]
        exact Jq.valid_nil
      clear hv
      go_wp2
      go_ret
      exact ⟨by rw [HV.out]; rfl, hb⟩

set_option maxHeartbeats 4000000 in
set_option maxRecDepth 100000 in
theorem named_any {ok : Nat → Prop} (ns : List (List Nat)) (t : List Nat) (v : Value) (w : World) (hS : SlIs w ok v ns.length (tcells ns)) (hn : ns.length ≤ 140737488355328) (hns : ∀ p ∈ ns, ∀ y ∈ p, y < 256) (ht : ∀ y ∈ t, y < 256) :
    Calls Tryd.prog 60 #[v, .string (strOf t)] w fun e w' => e = .returned (.bool (decide (t ∈ ns))) ∧ w = w' := by
  obtain ⟨A, c, rfl⟩ := hS.form
  obtain ⟨N, eN⟩ : ∃ N, ns.length = N := ⟨_, rfl⟩
  rw [eN] at hS hn ⊢
  have HN := Lib.hid eN
  have HS := Lib.hid hS
  have HNS := Lib.hid hns
  clear eN hS hns
  go_enter Tryd.func60, Tryd.ntmps60
  go_wp2_with fail
  go_loopw [5] (fun i wr => ∃ k : Nat, i = .int .i64 k ∧ k ≤ N ∧ Hid (∀ j, j < k → ns[j]? ≠ some t) ∧ wr = w) (fun i _ => N - (intOf i).toNat)
  case atStart => exact ⟨0, rfl, Nat.zero_le _, Lib.hid (fun j hj => absurd hj (Nat.not_lt_zero _)), rfl⟩
  case round =>
    obtain ⟨k, rfl, hk, hne, rfl⟩ := hrel
    by_cases hlt : k < N
    · obtain ⟨b, off, p, rfl, _, hblt, hc, hp, p0⟩ := slIs_text HS.out HN.out hlt
      have hTT := str_beq (HNS.out p (List.mem_of_getElem? hp)) ht
      have HP := Lib.hid hp
      clear hp hc
      by_cases heq : p = t
      · rw [decide_eq_true heq] at hTT
        have HV : Hid (decide (t ∈ ns) = true) := decide_eq_true (by rw [← heq]; exact List.mem_of_getElem? HP.out)
        clear heq
        go_wp2
        go_ret
        exact ⟨by rw [HV.out]; rfl, rfl⟩
      · rw [decide_eq_false heq] at hTT
        have HQ : Hid (∀ j, j < k + 1 → ns[j]? ≠ some t) := fun j hj => by
          rcases Nat.lt_or_eq_of_le (Nat.le_of_lt_succ hj) with h | h
          · exact hne.out j h
          · rw [h, HP.out]
            exact fun e => heq (Option.some.inj e)
        clear heq
        go_wp2
        go_roundw
        case rel => exact ⟨k + 1, by go_num, hlt, Lib.hid HQ.out, trivial⟩
        case measure => simp [intOf]; omega
    · obtain rfl : k = N := by omega
      have hd3 : decide ((k : Int) < (k : Int)) = false := by simp
      have HV : Hid (decide (t ∈ ns) = false) := decide_eq_false (fun h => by
        obtain ⟨j, hj, e⟩ := List.mem_iff_getElem.1 h
        exact hne.out j (by rw [← HN.out]; exact hj) (by rw [List.getElem?_eq_getElem hj, e]))
      clear hne
      go_wp2
      go_ret
      exact ⟨by rw [HV.out]; rfl, rfl⟩
end Go.Proofs.YtoocejcoaojaiaaDoor

/-
  The document's Quoted.
-/
namespace Go.Proofs.YtoocejcoaojaiaaDoor
open Go.RowKit

theorem own_two {w : World} {base : Nat} {v : Value} {n : Nat} {T a b : List Nat} {m k : Nat} (h : w.ownsRow base 5 1 v (n + m + k) ((u8s T ++ u8s a) ++ u8s b)) : w.ownsRow base 5 1 v (n + (m + k)) (u8s T ++ u8s (a ++ b)) := by
  rw [u8s_append, ← List.append_assoc, ← Nat.add_assoc]; exact h
theorem one_list (a : Int) : ∀ u ∈ [Value.int .u8 a], u.oneCell' = true := by
  intro u hu
  simp at hu
  rw [hu]; rfl
theorem hex_atN (n : Nat) (hn : n < 16) (p : n < hexB.size) : ((hexB[n]'p).toNat : Int) = ((Jq.hexl n : Nat) : Int) := hex_at (n : Int) n rfl hn p
theorem QRel.add {S : List Nat} {w w2 : World} {k n : Nat} {T : List Nat} {x : Nat} {v : Value} (q : List Nat) (hq : Hid (Jq.q1 x = q)) (hm6 : q.length ≤ 6) (hx : Hid (S.getD k 0 = x)) (hk : k < S.length) (hT : Hid (T.length = n)) (hn : n ≤ 1 + 6 * k) (he : Hid (T = 34 :: (S.take k).flatMap Jq.q1))
    (hlt : ∀ x ∈ T, x < 256) (hq2 : ∀ x ∈ q, x < 256) (ho : w2.ownsRow w.heap.size 5 1 v (n + q.length) (u8s T ++ u8s q)) (hb : Below w.heap.size w w2) : QRel S w v (.int .i64 ((k + 1 : Nat) : Int)) w2 :=
  QRel.next hx.out hk hT.out hn he hq.out rfl hm6 hlt hq2 ho hb

set_option maxHeartbeats 8000000 in
set_option maxRecDepth 100000 in
theorem refQuoted_any (s : ByteArray) (hs : s.size ≤ 4096) (w : World) :
    Calls Tryd.prog 51 #[.string s] w fun e w' => e = .returned (.string (strOf (Jq.quoted (numsOf s)))) ∧ Below w.heap.size w w' := by
  have Hlen := Lib.hid (numsOf_length s)
  go_enter Tryd.func51, Tryd.ntmps51
  go_wp2_with fail
  go_loopw [4, 5] (fun t i wr => QRel (numsOf s) w t i wr) (fun _ i _ => s.size - (intOf i).toNat)
  case atStart => exact ⟨0, 1, [34], rfl, Nat.zero_le _, rfl, by omega, Lib.hid rfl, own_new1 rfl (Nat.le_refl _), by decide, (Below.refl _ _).alloc (Nat.le_refl _) _⟩
  case round =>
    obtain ⟨k, n, T, rfl, hk, hn, hnk, hT, hown, hlt256, hb⟩ := hrel
    rw [Hlen.out] at hk
    have Hn := Lib.hid hn
    clear hn
    have hwr : w.heap.size ≤ wr.heap.size := hb.size
    by_cases hlt : k < s.size
    · have hX := Lib.hid (nums_at s k hlt)
      have hx256 := s[k].toNat_lt
      by_cases h1 : s[k].toNat = 34 ∨ s[k].toNat = 92
      · have hQ := Lib.hid (q1_esc h1)
        have hdd : (((s[k].toNat : Int) == 34) = true) ∨ (((s[k].toNat : Int) == 34) = false ∧ ((s[k].toNat : Int) == 92) = true) := by
          rcases h1 with h1 | h1
          · exact .inl (by rw [h1]; rfl)
          · exact .inr (by rw [h1]; exact ⟨rfl, rfl⟩)
        have d3 : decide ((s[k].toNat : Int) < 32) = false := decide_eq_false (by omega)
        clear h1
        rcases hdd with d1 | ⟨d1, d2⟩
        all_goals
          go_upto_region 7 with (fail)
          repeat ((fail_if_success (with_reducible show wpList _ _ _ (⟨some 25, _, _, _, _, _⟩ :: _) _ _)); first | go_values | go_skip | go_guarded | go_step | go_upon | go_back | go_simp)
          with_reducible refine append_row rfl (.tmp 23) (.tmp 24) 68 5 (.int .u8 0) 1 1 rfl Tryd.underlying68 infoByte rfl (by decide) w.heap.size _ n _ ⟨wr.heap.size, 0, none⟩ 1 1 (u8s [92]) (hown.alloc _) ?c1 ?c2 ?c3 ?c4 ?c5 ?c6 ?c7 ?c8 ?_
          case c1 => rfl
          case c2 => exact fun j u hj => new_cells wr _ _ j u hj
          case c3 => exact u8s_one _
          case c4 => rfl
          case c5 => rfl
          case c6 => omega
          case c7 => omega
          case c8 => simp; omega
          intro v2 w2 hown2 hgr2
          have hb2 : Below w.heap.size w w2 := (hb.alloc hb.size _).grown hgr2 (by simp; omega) (own_ge hown)
          have hw2 : w.heap.size ≤ w2.heap.size := hb2.size
          clear hgr2 hown hb
          go_frame
          repeat ((fail_if_success (with_reducible show wpList _ _ _ (⟨some 55, _, _, _, _, _⟩ :: _) _ _)); first | go_values | go_skip | go_guarded | go_step | go_upon | go_back | go_simp)
          with_reducible refine append_row rfl (.tmp 50) (.tmp 54) 68 5 (.int .u8 0) 1 1 rfl Tryd.underlying68 infoByte rfl (by decide) w.heap.size _ (n + 1) _ ⟨w2.heap.size, 0, none⟩ 1 1 (u8s [s[k].toNat]) (hown2.alloc _) ?c1 ?c2 ?c3 ?c4 ?c5 ?c6 ?c7 ?c8 ?_
          case c1 => rfl
          case c2 => exact fun j u hj => new_cells w2 _ _ j u hj
          case c3 => exact u8s_one _
          case c4 => rfl
          case c5 => rfl
          case c6 => omega
          case c7 => omega
          case c8 => simp; omega
          intro v3 w3 hown3 hgr3
          have hb3 : Below w.heap.size w w3 := (hb2.alloc hb2.size _).grown hgr3 (by simp; omega) (own_ge hown2)
          have HR := Lib.hid (QRel.add [92, s[k].toNat] hQ (by simp) hX (by rw [Hlen.out]; exact hlt) Hn hnk hT hlt256 (by intro x hx; simp at hx; omega) (own_two hown3) hb3)
          clear hgr3 hown2 hown3 hb2 hb3
          go_frame
          go_wp2
          go_roundw
          case rel => exact HR.out
          case measure => simp [intOf]; omega
      have d1 : ((s[k].toNat : Int) == 34) = false := by rw [beq_eq_false_iff_ne]; omega
      have d2 : ((s[k].toNat : Int) == 92) = false := by rw [beq_eq_false_iff_ne]; omega
      by_cases h3 : s[k].toNat < 32
      · have hQ := Lib.hid (q1_ctl h3)
        have d3 : decide ((s[k].toNat : Int) < 32) = true := decide_eq_true (by omega)
        clear h1
        go_upto_region 9 with (fail)
        obtain ⟨i0, hi, hz0, hz1, hz2⟩ := info_parts infoByte
        repeat ((fail_if_success (with_reducible show wpList _ _ _ (⟨some 31, _, _, _, _, _⟩ :: _) _ _)); first | go_values | go_skip | go_guarded | go_step | go_upon | go_back | go_simp)
        with_reducible refine Lib.wpList_append_own_string _ rfl (.tmp 30) (.const (.string { data := #[92, 117, 48, 48] })) 68 9 rfl w.heap.size 5 i0 Tryd.underlying68 Tryd.underlying9 hi hz0 hz1 hz2 u4 n (u8s T) ?r1 hown { data := #[92, 117, 48, 48] } ?r2 ?r3 ?r4 ?r5 ?r6
        case r1 => rfl
        case r2 => rfl
        case r3 => show n + 4 ≤ maxLen; unfold maxLen; omega
        case r4 => show n + 4 ≤ _; omega
        case r5 => exact hwr
        case r6 =>
        intro v2 w2 hown2 hgr2 hnil
        clear hnil
        have hown2 : w2.ownsRow w.heap.size 5 1 v2 (n + 4) (u8s T ++ u8s [92, 117, 48, 48]) := hown2
        have hb2 : Below w.heap.size w w2 := hb.grown hgr2 hwr (own_ge hown)
        have hw2 : w.heap.size ≤ w2.heap.size := hb2.size
        have p1 : s[k].toNat / 16 < hexB.size := by show _ < 16; omega
        have p2 : s[k].toNat % 16 < hexB.size := by show _ < 16; omega
        have b1 : (0 : Int) ≤ (s[k].toNat : Int) / 16 := by omega
        have b2 : (s[k].toNat : Int) / 16 < 16 := by omega
        have b3 : (0 : Int) ≤ (s[k].toNat : Int) % 16 := by omega
        have b4 : (s[k].toNat : Int) % 16 < 16 := by omega
        clear hgr2 hown hb hi hz0 hz1 hz2 i0
        go_frame
        repeat ((fail_if_success (with_reducible show wpList _ _ _ (⟨some 40, _, _, _, _, _⟩ :: _) _ _)); first | go_values | go_skip | go_guarded | go_step | go_upon | go_back | go_simp)
        with_reducible refine append_row rfl (.tmp 32) (.tmp 39) 68 5 (.int .u8 0) 1 1 rfl Tryd.underlying68 infoByte rfl (by decide) w.heap.size _ (n + 4) _ ⟨w2.heap.size, 0, none⟩ 1 1 [.int .u8 (((hexB[s[k].toNat / 16]'p1).toNat : Nat) : Int)] (hown2.alloc _) ?c1 ?c2 ?c3 ?c4 ?c5 ?c6 ?c7 ?c8 ?_
        case c2 => exact fun j u hj => new_cells w2 _ _ j u hj
        case c1 => rfl
        case c3 => exact one_list _
        case c4 => rfl
        case c5 => rfl
        case c6 => omega
        case c7 => omega
        case c8 => simp; omega
        intro v3 w3 hown3 hgr3
        have hb3 : Below w.heap.size w w3 := (hb2.alloc hb2.size _).grown hgr3 (by simp; omega) (own_ge hown2)
        have hown3 : w3.ownsRow w.heap.size 5 1 v3 (n + 4 + 1) (u8s T ++ u8s [92, 117, 48, 48] ++ u8s [Jq.hexl (s[k].toNat / 16)]) := own_as hown3 (by
          rw [hex_atN _ (by omega) p1]; rfl)
        have hw3 : w.heap.size ≤ w3.heap.size := hb3.size
        clear hgr3 hown2 hb2
        go_frame
        repeat ((fail_if_success (with_reducible show wpList _ _ _ (⟨some 49, _, _, _, _, _⟩ :: _) _ _)); first | go_values | go_skip | go_guarded | go_step | go_upon | go_back | go_simp)
        with_reducible refine append_row rfl (.tmp 41) (.tmp 48) 68 5 (.int .u8 0) 1 1 rfl Tryd.underlying68 infoByte rfl (by decide) w.heap.size _ (n + 4 + 1) _ ⟨w3.heap.size, 0, none⟩ 1 1 [.int .u8 (((hexB[s[k].toNat % 16]'p2).toNat : Nat) : Int)] (hown3.alloc _) ?c1 ?c2 ?c3 ?c4 ?c5 ?c6 ?c7 ?c8 ?_
        case c2 => exact fun j u hj => new_cells w3 _ _ j u hj
        case c1 => rfl
        case c3 => exact one_list _
        case c4 => rfl
        case c5 => rfl
        case c6 => omega
        case c7 => omega
        case c8 => simp; omega
        intro v4 w4 hown4 hgr4
        have hb4 : Below w.heap.size w w4 := (hb3.alloc hb3.size _).grown hgr4 (by simp; omega) (own_ge hown3)
        have hown4 : w4.ownsRow w.heap.size 5 1 v4 (n + 4 + 1 + 1) (u8s T ++ u8s [92, 117, 48, 48] ++ u8s [Jq.hexl (s[k].toNat / 16)] ++ u8s [Jq.hexl (s[k].toNat % 16)]) := own_as hown4 (by
          rw [hex_atN _ (by omega) p2]; rfl)
        have hown5 : w4.ownsRow w.heap.size 5 1 v4 (n + 6) (u8s T ++ u8s [92, 117, 48, 48, Jq.hexl (s[k].toNat / 16), Jq.hexl (s[k].toNat % 16)]) := by
          rw [List.append_assoc, List.append_assoc, ← u8s_append, ← u8s_append] at hown4
          exact hown4
        have HR := Lib.hid (QRel.add _ hQ (by simp) hX (by rw [Hlen.out]; exact hlt) Hn hnk hT hlt256 (by have := hexl_lt (n := s[k].toNat / 16) (by omega); have := hexl_lt (n := s[k].toNat % 16) (by omega); intro x hx; simp at hx; omega) hown5 hb4)
        clear hgr4 hown3 hown4 hown5 hb3 hb4
        go_frame
        go_wp2
        go_roundw
        case rel => exact HR.out
        case measure => simp [intOf]; omega
      · have hQ := Lib.hid (q1_lit (fun e => h1 (.inl e)) (fun e => h1 (.inr e)) h3)
        have d3 : decide ((s[k].toNat : Int) < 32) = false := decide_eq_false (by omega)
        clear h1 h3
        go_upto_region 12 with (fail)
        repeat ((fail_if_success (with_reducible show wpList _ _ _ (⟨some 55, _, _, _, _, _⟩ :: _) _ _)); first | go_values | go_skip | go_guarded | go_step | go_upon | go_back | go_simp)
        with_reducible refine append_row rfl (.tmp 50) (.tmp 54) 68 5 (.int .u8 0) 1 1 rfl Tryd.underlying68 infoByte rfl (by decide) w.heap.size _ n _ ⟨wr.heap.size, 0, none⟩ 1 1 (u8s [s[k].toNat]) (hown.alloc _) ?c1 ?c2 ?c3 ?c4 ?c5 ?c6 ?c7 ?c8 ?_
        case c1 => rfl
        case c2 => exact fun j u hj => new_cells wr _ _ j u hj
        case c3 => exact u8s_one _
        case c4 => rfl
        case c5 => rfl
        case c6 => omega
        case c7 => omega
        case c8 => simp; omega
        intro v2 w2 hown2 hgr2
        have hb2 : Below w.heap.size w w2 := (hb.alloc hb.size _).grown hgr2 (by simp; omega) (own_ge hown)
        have HR := Lib.hid (QRel.add [s[k].toNat] hQ (by simp) hX (by rw [Hlen.out]; exact hlt) Hn hnk hT hlt256 (by intro x hx; simp at hx; omega) hown2 hb2)
        clear hgr2 hown hown2 hb hb2
        go_frame
        go_wp2
        go_roundw
        case rel => exact HR.out
        case measure => simp [intOf]; omega
    · obtain rfl : k = s.size := by omega
      have hd2 : decide ((s.size : Int) < (s.size : Int)) = false := by simp
      have HT : Hid (T ++ [34] = Jq.quoted (numsOf s)) := by
        unfold Hid Jq.quoted
        rw [hT.out, List.take_of_length_le (by rw [Hlen.out]; exact Nat.le_refl _)]
        rfl
      go_upto_region 13 with (fail)
      repeat ((fail_if_success (with_reducible show wpList _ _ _ (⟨some 58, _, _, _, _, _⟩ :: _) _ _)); first | go_values | go_skip | go_guarded | go_step | go_upon | go_back | go_simp)
      with_reducible refine append_row rfl (.tmp 56) (.tmp 57) 68 5 (.int .u8 0) 1 1 rfl Tryd.underlying68 infoByte rfl (by decide) w.heap.size _ n _ ⟨wr.heap.size, 0, none⟩ 1 1 (u8s [34]) (hown.alloc _) ?c1 ?c2 ?c3 ?c4 ?c5 ?c6 ?c7 ?c8 ?_
      case c1 => rfl
      case c2 => exact fun j u hj => new_cells wr _ _ j u hj
      case c3 => exact u8s_one _
      case c4 => rfl
      case c5 => rfl
      case c6 => omega
      case c7 => omega
      case c8 => simp; omega
      intro v2 w2 hown2 hgr2
      have hb2 : Below w.heap.size w w2 := (hb.alloc hb.size _).grown hgr2 (by simp; omega) (own_ge hown)
      rw [← u8s_append, HT.out] at hown2
      have hq256 : ∀ x ∈ Jq.quoted (numsOf s), x < 256 := by
        rw [← HT.out]
        exact snoc_lt hlt256 (by decide)
      obtain ⟨A1, c1, rfl⟩ := own_slice hown2
      obtain ⟨hql, harg⟩ := own_arg hown2 hq256
      have hcv := conv_str harg
      rw [hql] at hcv
      clear hgr2 hown hown2 hb harg hql hq256 hlt256
      go_frame
      go_wp2
      go_ret
      exact ⟨rfl, hb2⟩
end Go.Proofs.YtoocejcoaojaiaaDoor

/-
  The document's writing, plain: text by text, against what is right and its writing.
-/
namespace Go.Proofs.YtoocejcoaojaiaaDoor.Jq

/-- The items behind each other, with commas between them: what stands ahead of each, and the items. -/
def lp (el : J → Option (List Nat)) : Nat → List Nat → List (List Nat × J) → Option (List Nat)
  | _, s, [] => some s
  | i, s, p :: r => match el p.2 with
    | none => none
    | some y => if 4096 < s.length then none else lp el (i + 1) (s ++ ((if i = 0 then [] else [44]) ++ (p.1 ++ y))) r
def parts (v : J) : List (List Nat × J) := if v.kind = 5 then List.zipWith (fun t x => (quoted t ++ [58], x)) v.names v.list else v.list.map fun x => ([], x)
noncomputable def rp : Nat → J → Option (List Nat)
  | n, v =>
    open Classical in
    if Form n v then
      (if v.kind = 0 then some wNull
       else if v.kind = 1 then some (if v.bool then wTrue else wFalse)
       else if v.kind = 2 then some (decimal v.int)
       else if v.kind = 3 then some (quoted v.text)
       else match n with
         | 0 => none
         | m + 1 => (lp (rp m) 0 [] (parts v)).bind fun s => if s.length ≤ 4096 then some (if v.kind = 5 then 123 :: (s ++ [125]) else 91 :: (s ++ [93])) else none)
    else none
theorem lp_some {el : J → Option (List Nat)} {w : J → List Nat} {G : J → Prop} : ∀ (ps : List (List Nat × J)) (i : Nat) (s s' : List Nat), (∀ p ∈ ps, ∀ y, el p.2 = some y → G p.2 ∧ y = w p.2) → lp el i s ps = some s' → (∀ p ∈ ps, G p.2) ∧ s' = s ++ jn i (ps.map fun p => p.1 ++ w p.2)
  | [], i, s, s', _, h => by
    rw [lp] at h
    injection h with h
    exact ⟨fun p hp => (nomatch hp), by simp [jn, h]⟩
  | p :: r, i, s, s', he, h => by
    rw [lp] at h
    cases hp : el p.2 with
    | none => rw [hp] at h; cases h
    | some y =>
      rw [hp] at h
      simp only at h
      split at h
      · cases h
      obtain ⟨g, ey⟩ := he p (by simp) y hp
      obtain ⟨g2, e2⟩ := lp_some r (i + 1) _ s' (fun q hq => he q (by simp [hq])) h
      refine ⟨fun q hq => ?_, ?_⟩
      · rcases List.mem_cons.1 hq with rfl | hq
        · exact g
        · exact g2 q hq
      · rw [e2, ey, List.map_cons, jn]
        simp [List.append_assoc]
theorem lp_yes {el : J → Option (List Nat)} {w : J → List Nat} : ∀ (ps : List (List Nat × J)) (i : Nat) (s : List Nat), (∀ p ∈ ps, (w p.2).length ≤ 4096 → el p.2 = some (w p.2)) → (s ++ jn i (ps.map fun p => p.1 ++ w p.2)).length ≤ 4096 → lp el i s ps = some (s ++ jn i (ps.map fun p => p.1 ++ w p.2))
  | [], i, s, _, _ => by rw [lp]; simp [jn]
  | p :: r, i, s, he, h => by
    rw [List.map_cons, jn] at h ⊢
    have e : s ++ ((if i = 0 then [] else [44]) ++ (p.1 ++ w p.2 ++ jn (i + 1) (r.map fun p => p.1 ++ w p.2))) = (s ++ ((if i = 0 then [] else [44]) ++ (p.1 ++ w p.2))) ++ jn (i + 1) (r.map fun p => p.1 ++ w p.2) := by simp [List.append_assoc]
    have hl : (w p.2).length ≤ 4096 ∧ s.length ≤ 4096 := by
      simp only [List.length_append] at h
      omega
    rw [lp, he p (by simp) hl.1]
    simp only
    rw [if_neg (by omega)]
    rw [e] at h ⊢
    exact lp_yes r (i + 1) _ (fun q hq => he q (by simp [hq])) h
theorem parts_mem {v : J} {p : List Nat × J} (h : p ∈ parts v) : p.2 ∈ v.list := by
  unfold parts at h
  split at h
  · rw [List.mem_iff_getElem?] at h
    obtain ⟨i, hi⟩ := h
    rw [List.getElem?_zipWith] at hi
    cases h1 : v.names[i]? with
    | none => rw [h1] at hi; cases hi
    | some t =>
      cases h2 : v.list[i]? with
      | none => rw [h1, h2] at hi; cases hi
      | some x =>
        rw [h1, h2] at hi
        have e := Option.some.inj hi
        rw [← e]
        exact List.mem_of_getElem? h2
  · obtain ⟨x, hx, rfl⟩ := List.mem_map.1 h
    exact hx
theorem list_parts {v : J} (h : v.kind = 5 → v.names.length = v.list.length) {x : J} (hx : x ∈ v.list) : ∃ p ∈ parts v, p.2 = x := by
  unfold parts
  split
  · rename_i h5
    obtain ⟨i, hi⟩ := List.mem_iff_getElem?.1 hx
    have hl := h h5
    have hi2 : i < v.list.length := (List.getElem?_eq_some_iff.1 hi).1
    refine ⟨(quoted (v.names[i]'(by omega)) ++ [58], x), List.mem_iff_getElem?.2 ⟨i, ?_⟩, rfl⟩
    rw [List.getElem?_zipWith, List.getElem?_eq_getElem (show i < v.names.length by omega), hi]
  · exact ⟨([], x), List.mem_map.2 ⟨x, hx, rfl⟩, rfl⟩
theorem parts_write {v : J} {m : Nat} (h4 : v.kind = 4 ∨ v.kind = 5) : write (m + 1) v = if v.kind = 5 then 123 :: (jn 0 ((parts v).map fun p => p.1 ++ write m p.2) ++ [125]) else 91 :: (jn 0 ((parts v).map fun p => p.1 ++ write m p.2) ++ [93]) := by
  rw [jn_joined, write.eq_def]
  simp only
  rcases h4 with h | h
  · simp only [h]
    unfold parts
    simp only [h]
    simp [List.map_map]
    rfl
  · simp only [h]
    unfold parts
    simp only [h]
    have e : ∀ (ns : List (List Nat)) (l : List J), (List.zipWith (fun t x => (quoted t ++ [58], x)) ns l).map (fun p : List Nat × J => p.1 ++ write m p.2) = List.zipWith (fun t x => quoted t ++ 58 :: write m x) ns l := by
      intro ns
      induction ns with
      | nil => intro l; rfl
      | cons t ns ih =>
        intro l
        cases l with
        | nil => rfl
        | cons x l => simp only [List.zipWith_cons_cons, List.map_cons, ih]; simp
    simp [e]
theorem rp_some : ∀ (n : Nat) (v : J) (y : List Nat), rp n v = some y → Good n v ∧ y = write n v := by
  intro n
  induction n with
  | zero =>
    intro v y h
    rw [rp] at h
    split at h
    · rename_i hf
      refine ⟨hf, ?_⟩
      rw [write.eq_def]
      split at h
      · rename_i h0; injection h with h; simp only [h0]; rw [← h]; rfl
      split at h
      · rename_i h0; injection h with h; simp only [h0]; rw [← h]; rfl
      split at h
      · rename_i h0; injection h with h; simp only [h0]; rw [← h]; rfl
      split at h
      · rename_i h0; injection h with h; simp only [h0]; rw [← h]; rfl
      · cases h
    · cases h
  | succ m ih =>
    intro v y h
    rw [rp] at h
    split at h
    · rename_i hf
      have plain : v.kind < 4 → Good (m + 1) v := fun hk => by
        refine ⟨hf, fun x hx => ?_⟩
        obtain ⟨_, _, _, _, _, _, _, _, _, hp, _⟩ := hf
        rw [(hp hk).2] at hx
        cases hx
      split at h
      · rename_i h0; injection h with h; refine ⟨plain (by omega), ?_⟩; rw [write.eq_def]; simp only [h0]; rw [← h]; rfl
      split at h
      · rename_i h0; injection h with h; refine ⟨plain (by omega), ?_⟩; rw [write.eq_def]; simp only [h0]; rw [← h]; rfl
      split at h
      · rename_i h0; injection h with h; refine ⟨plain (by omega), ?_⟩; rw [write.eq_def]; simp only [h0]; rw [← h]; rfl
      split at h
      · rename_i h0; injection h with h; refine ⟨plain (by omega), ?_⟩; rw [write.eq_def]; simp only [h0]; rw [← h]; rfl
      · rename_i k0 k1 k2 k3
        have h45 : v.kind = 4 ∨ v.kind = 5 := by
          obtain ⟨f0, f5, _⟩ := hf
          omega
        rw [Option.bind_eq_some_iff] at h
        obtain ⟨s, hs, h⟩ := h
        split at h
        · injection h with h
          obtain ⟨g, es⟩ := lp_some (w := write m) (G := Good m) (parts v) 0 [] s (fun p _ y hy => ih p.2 y hy) hs
          have hlen : v.kind = 5 → v.names.length = v.list.length := fun h5 => by
            obtain ⟨_, _, _, _, _, _, _, _, _, _, _, _, ho⟩ := hf
            exact (ho h5).1
          refine ⟨⟨hf, fun x hx => ?_⟩, ?_⟩
          · obtain ⟨p, hp, rfl⟩ := list_parts hlen hx
            exact g p hp
          · rw [parts_write h45, ← h, es, List.nil_append]
        · cases h
    · cases h
theorem rp_yes : ∀ (n : Nat) (v : J), Good n v → (write n v).length ≤ 4096 → rp n v = some (write n v) := by
  intro n
  induction n with
  | zero =>
    intro v hg hl
    have hf : Form 0 v := hg
    rw [rp, if_pos hf, write.eq_def]
    have hk : v.kind = 0 ∨ v.kind = 1 ∨ v.kind = 2 ∨ v.kind = 3 := by
      obtain ⟨f0, f5, _, _, _, _, _, _, _, _, fl, _⟩ := hf
      by_cases h : 4 ≤ v.kind
      · have := (fl h).1; omega
      · omega
    rcases hk with h | h | h | h <;> simp [h]
  | succ m ih =>
    intro v hg hl
    have hf : Form (m + 1) v := hg.1
    have hlen : v.kind = 5 → v.names.length = v.list.length := fun h5 => by
      obtain ⟨_, _, _, _, _, _, _, _, _, _, _, _, ho⟩ := hf
      exact (ho h5).1
    rw [rp, if_pos hf]
    have hk : (v.kind = 0 ∨ v.kind = 1 ∨ v.kind = 2 ∨ v.kind = 3) ∨ (v.kind = 4 ∨ v.kind = 5) := by
      obtain ⟨f0, f5, _⟩ := hf
      omega
    rcases hk with hk | hk
    · rw [write.eq_def]
      rcases hk with h | h | h | h <;> simp [h]
    · rw [if_neg (by omega), if_neg (by omega), if_neg (by omega), if_neg (by omega)]
      rw [parts_write hk] at hl ⊢
      have hj : (jn 0 ((parts v).map fun p => p.1 ++ write m p.2)).length ≤ 4096 := by
        split at hl <;> (simp only [List.length_cons, List.length_append] at hl; omega)
      rw [lp_yes (w := write m) (parts v) 0 [] (fun p hp h => ih p.2 (hg.2 _ (parts_mem hp)) h) (by simpa using hj)]
      rw [List.nil_append]
      show (if _ then _ else _) = _
      rw [if_pos hj]
/-- The two writings, told of one text. -/
theorem rp_valueP (v : J) : (match rp 16 v with | some y => if y.length ≤ 4096 then some y else none | none => none) = valueP 16 [] v := by
  cases hv : valueP 16 [] v with
  | some B =>
    obtain ⟨hg, e, hl⟩ := valueP_some hv
    rw [rp_yes 16 v hg (by rw [← e]; exact hl)]
    simp only
    rw [if_pos (by rw [← e]; exact hl), e]
  | none =>
    cases hr : rp 16 v with
    | none => rfl
    | some y =>
      obtain ⟨hg, e⟩ := rp_some 16 v y hr
      simp only
      split
      · rename_i hl
        have := valueP_yes hg (by rw [← e]; exact hl)
        rw [hv] at this
        cases this
      · rfl
end Go.Proofs.YtoocejcoaojaiaaDoor.Jq

/-
  The document's Get.
-/
namespace Go.Proofs.YtoocejcoaojaiaaDoor
open Go.RowKit

theorem firstAt_hit {t : List Nat} {ns : List (List Nat)} {k : Nat} (hk : ns[k]? = some t) (hj : ∀ j, j < k → ns[j]? ≠ some t) : firstAt t ns = some k := by
  have h := firstAt_iff t ns
  cases hf : firstAt t ns with
  | none =>
    rw [hf] at h
    exact absurd (List.mem_of_getElem? hk) h
  | some i =>
    rw [hf] at h
    obtain ⟨h1, h2, h3⟩ := h
    rcases Nat.lt_trichotomy i k with hlt | heq | hgt
    · exact absurd h2 (hj i hlt)
    · rw [heq]
    · exact absurd hk (h3 k hgt)
theorem firstAt_miss {t : List Nat} {ns : List (List Nat)} (hj : ∀ j, j < ns.length → ns[j]? ≠ some t) : firstAt t ns = none := by
  have h := firstAt_iff t ns
  cases hf : firstAt t ns with
  | none => rfl
  | some i =>
    rw [hf] at h
    exact absurd h.2.1 (hj i h.1)
/-- How the document's Get ends. -/
def RGetEnd (ok : Nat → Prop) (res : Option Jq.J) (w : World) (e : Ending) (w' : World) : Prop := Below w.heap.size w w' ∧ match res with
  | some y => ∃ u, e = .returned (.tuple #[u, .bool true]) ∧ IsJ w' ok u y
  | none => e = .returned (.tuple #[jv 0 false 0 ByteArray.empty nilS nilS, .bool false])
theorem RGetEnd.no {ok : Nat → Prop} {res : Option Jq.J} {w w' : World} (h : res = none) (hb : Below w.heap.size w w') : RGetEnd ok res w (.returned (.tuple #[jv 0 false 0 ByteArray.empty nilS nilS, .bool false])) w' := by
  rw [h]; exact ⟨hb, rfl⟩
theorem RGetEnd.yes {ok : Nat → Prop} {res : Option Jq.J} {y : Jq.J} {u : Value} {w w' : World} (h : res = some y) (hb : Below w.heap.size w w') (hJ : IsJ w' ok u y) : RGetEnd ok res w (.returned (.tuple #[u, .bool true])) w' := by
  rw [h]; exact ⟨hb, u, rfl, hJ⟩

set_option maxHeartbeats 4000000 in
set_option maxRecDepth 100000 in
theorem refGet_any {ok : Nat → Prop} (x : Jq.J) (v : Value) (t : List Nat) (ht : ∀ y ∈ t, y < 256) (w : World) (hJ : IsJ w ok v x) :
    Calls Tryd.prog 38 #[v, .string (strOf t)] w (RGetEnd ok (getP x t) w) := by
  obtain ⟨nv, lv, rfl, _, _, _, hS, hns, hnl, hL⟩ := hJ.parts
  obtain ⟨A0, c0, rfl⟩ := hL.form
  obtain ⟨A9, c9, rfl⟩ := hS.form
  have hb0 : ∀ o o', Below w.heap.size w ((w.alloc o).alloc o') := fun o o' => ((Below.refl _ _).alloc (Nat.le_refl _) o).alloc (by simp) o'
  obtain ⟨N, eN⟩ : ∃ N, x.names.length = N := ⟨_, rfl⟩
  obtain ⟨M, eM⟩ : ∃ M, x.list.length = M := ⟨_, rfl⟩
  obtain ⟨RES, eRES⟩ : ∃ RES, getP x t = RES := ⟨_, rfl⟩
  rw [eRES]
  unfold getP at eRES
  have HE : Hid (RES = none → ∀ o o', RGetEnd ok RES w (.returned (.tuple #[jv 0 false 0 ByteArray.empty nilS nilS, .bool false])) ((w.alloc o).alloc o')) := fun e o o' => RGetEnd.no e (hb0 o o')
  have HB0 := Lib.hid hb0
  have HN := Lib.hid eN
  have HM := Lib.hid eM
  have HL := Lib.hid hL
  have HNS := Lib.hid hns
  rw [eN] at hS hnl
  have HS := Lib.hid hS
  rw [eN, eM]
  rw [eM] at HL
  rw [eN, eM] at eRES
  have hNs : N ≤ 140737488355328 := by omega
  clear hb0 hL hS hns hnl eN eM hJ
  by_cases h5 : x.kind = 5
  rotate_left
  · have d5 : (x.kind != 5) = true := by rw [bne_iff_ne]; exact h5
    have HQ := Lib.hid (HE.out (by rw [← eRES]; exact if_neg (fun e => h5 e.1)))
    clear h5 eRES
    go_enter Tryd.func38, Tryd.ntmps38
    go_wp2
    exact bodyPost_ret (by simp [results, Tryd.results38, go_sem]; rfl) rfl (HQ.out _ _)
  have d5 : (x.kind != 5) = false := by rw [h5]; rfl
  by_cases h6 : N = M
  rotate_left
  · have d6 : ((N : Int) != (M : Int)) = true := by rw [bne_iff_ne]; omega
    have HQ := Lib.hid (HE.out (by rw [← eRES]; exact if_neg (fun e => h6 e.2)))
    clear h5 h6 eRES
    go_enter Tryd.func38, Tryd.ntmps38
    go_wp2
    exact bodyPost_ret (by simp [results, Tryd.results38, go_sem]; rfl) rfl (HQ.out _ _)
  subst h6
  have d6 : ((N : Int) != (N : Int)) = false := by simp
  rw [if_pos ⟨h5, rfl⟩] at eRES
  have HR := Lib.hid eRES
  clear h5 eRES
  go_enter Tryd.func38, Tryd.ntmps38
  go_wp2_with fail
  go_loopw [6] (fun i wr => ∃ k : Nat, i = .int .i64 k ∧ k ≤ N ∧ Hid (∀ j, j < k → x.names[j]? ≠ some t) ∧ wr = (w.alloc (.cells #[.int .i64 x.kind, .bool x.bool, .int .i64 x.int, .string (strOf x.text), .slice A9 N c9, .slice A0 N c0] 28)).alloc (.cells #[.int .i64 0, .bool false, .int .i64 0, .string { data := #[] }, .slice none 0 0, .slice none 0 0] 28)) (fun i _ => N - (intOf i).toNat)
  case atStart => exact ⟨0, rfl, Nat.zero_le _, Lib.hid (fun j hj => absurd hj (Nat.not_lt_zero _)), rfl⟩
  case round =>
    obtain ⟨k, rfl, hk, hne, rfl⟩ := hrel
    by_cases hlt : k < N
    · obtain ⟨b, off, p, rfl, _, hblt, hc, hp, p0⟩ := slIs_text HS.out HN.out hlt
      have p0 := (World.cell?_of_block (a := ⟨b, off + k, none⟩) ((HB0.out (.cells #[.int .i64 x.kind, .bool x.bool, .int .i64 x.int, .string (strOf x.text), .slice (some ⟨b, off, none⟩) N c9, .slice A0 N c0] 28) (.cells #[.int .i64 0, .bool false, .int .i64 0, .string { data := #[] }, .slice none 0 0, .slice none 0 0] 28)).block b hblt)).trans p0
      have hTT := str_beq (HNS.out p (List.mem_of_getElem? hp)).2 ht
      have HP := Lib.hid hp
      clear hp hc
      by_cases heq : p = t
      · rw [decide_eq_true heq] at hTT
        obtain ⟨bl, offl, y, B1, e1, B2, e2, rfl, hbl, hbllt, hy, hJy, s0, s1, s2, s3, s4, s5⟩ := HL.out.elem (i := k) (by rw [HM.out]; exact hlt)
        have HBK : Hid (∀ o o', ((w.alloc o).alloc o').heap[bl]? = w.heap[bl]?) := fun o o' => (HB0.out o o').block bl hbllt
        have mv : ∀ (i : Nat) (v : Value) o o', w.cell? ⟨bl, i, none⟩ = some v → ((w.alloc o).alloc o').cell? ⟨bl, i, none⟩ = some v := fun i v o o' h => (World.cell?_of_block (a := ⟨bl, i, none⟩) (HBK.out o o')).trans h
        have s0 := mv _ _ (.cells #[.int .i64 x.kind, .bool x.bool, .int .i64 x.int, .string (strOf x.text), .slice (some ⟨b, off, none⟩) N c9, .slice (some ⟨bl, offl, none⟩) N c0] 28) (.cells #[.int .i64 0, .bool false, .int .i64 0, .string { data := #[] }, .slice none 0 0, .slice none 0 0] 28) s0
        have s1 := mv _ _ (.cells #[.int .i64 x.kind, .bool x.bool, .int .i64 x.int, .string (strOf x.text), .slice (some ⟨b, off, none⟩) N c9, .slice (some ⟨bl, offl, none⟩) N c0] 28) (.cells #[.int .i64 0, .bool false, .int .i64 0, .string { data := #[] }, .slice none 0 0, .slice none 0 0] 28) s1
        have s2 := mv _ _ (.cells #[.int .i64 x.kind, .bool x.bool, .int .i64 x.int, .string (strOf x.text), .slice (some ⟨b, off, none⟩) N c9, .slice (some ⟨bl, offl, none⟩) N c0] 28) (.cells #[.int .i64 0, .bool false, .int .i64 0, .string { data := #[] }, .slice none 0 0, .slice none 0 0] 28) s2
        have s3 := mv _ _ (.cells #[.int .i64 x.kind, .bool x.bool, .int .i64 x.int, .string (strOf x.text), .slice (some ⟨b, off, none⟩) N c9, .slice (some ⟨bl, offl, none⟩) N c0] 28) (.cells #[.int .i64 0, .bool false, .int .i64 0, .string { data := #[] }, .slice none 0 0, .slice none 0 0] 28) s3
        have s4 := mv _ _ (.cells #[.int .i64 x.kind, .bool x.bool, .int .i64 x.int, .string (strOf x.text), .slice (some ⟨b, off, none⟩) N c9, .slice (some ⟨bl, offl, none⟩) N c0] 28) (.cells #[.int .i64 0, .bool false, .int .i64 0, .string { data := #[] }, .slice none 0 0, .slice none 0 0] 28) s4
        have s5 := mv _ _ (.cells #[.int .i64 x.kind, .bool x.bool, .int .i64 x.int, .string (strOf x.text), .slice (some ⟨b, off, none⟩) N c9, .slice (some ⟨bl, offl, none⟩) N c0] 28) (.cells #[.int .i64 0, .bool false, .int .i64 0, .string { data := #[] }, .slice none 0 0, .slice none 0 0] 28) s5
        have HRY : Hid (RES = some y) := by
          unfold Hid
          rw [← HR.out, firstAt_hit (by rw [HP.out, heq]) hne.out]
          exact hy
        have HQ : Hid (∀ o o', RGetEnd ok RES w (.returned (.tuple #[jv y.kind y.bool y.int (strOf y.text) (.slice B1 y.names.length e1) (.slice B2 y.list.length e2), .bool true])) ((w.alloc o).alloc o')) := fun o o' => RGetEnd.yes HRY.out (HB0.out o o') (hJy.on (HB0.out o o'))
        clear heq hy hJy mv
        go_wp2
        exact bodyPost_ret (by simp [results, Tryd.results38, go_sem]) rfl (HQ.out _ _)
      · rw [decide_eq_false heq] at hTT
        have HQ : Hid (∀ j, j < k + 1 → x.names[j]? ≠ some t) := fun j hj => by
          rcases Nat.lt_or_eq_of_le (Nat.le_of_lt_succ hj) with h | h
          · exact hne.out j h
          · rw [h, HP.out]
            exact fun e => heq (Option.some.inj e)
        clear heq
        go_wp2
        go_roundw
        case rel => exact ⟨k + 1, by go_num, hlt, Lib.hid HQ.out, trivial⟩
        case measure => simp [intOf]; omega
    · obtain rfl : k = N := by omega
      have hd3 : decide ((k : Int) < (k : Int)) = false := by simp
      have HQ := Lib.hid (HE.out (by rw [← HR.out, firstAt_miss (fun j hj => hne.out j (by rw [HN.out] at hj; exact hj))]))
      clear hne
      go_wp2
      exact bodyPost_ret (by simp [results, Tryd.results38, go_sem]; rfl) rfl (HQ.out _ _)
end Go.Proofs.YtoocejcoaojaiaaDoor
