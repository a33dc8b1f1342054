/-
  The document's Decimal and tens.
-/
import Derived.Test.YthhlmalpelgpeaaGreatDoorQM
import Derived.Deep.RegionLaw
import Derived.IntWalk
namespace Go.Proofs.YthhlmalpelgpeaaGreatDoor
open Go.RowKit

theorem one_alloc' (w : World) (o : Obj) : Below w.heap.size w (w.alloc o) := (Below.refl _ _).alloc (Nat.le_refl _) o
theorem digits_step {m : Nat} (h : 10 ≤ m) : Jq.digits m = Jq.digits (m / 10) ++ [48 + m % 10] := by
  have e : (UInt8.ofNat (48 + m % 10)).toNat = 48 + m % 10 := by simp; omega
  unfold Jq.digits
  rw [Lib.decDigits, dif_neg (by omega), Uq.nums_append]
  simp [Uq.nums]
  omega
theorem digits_one {m : Nat} (h : m < 10) : Jq.digits m = [48 + m] := by
  unfold Jq.digits
  rw [Lib.decDigits, dif_pos h]
  simp [Uq.nums]
  omega
theorem digits_byte : ∀ (m : Nat), ∀ x ∈ Jq.digits m, x < 256 := by
  intro m
  induction m using Nat.strongRecOn with
  | _ m ih =>
    intro x hx
    by_cases h : m < 10
    · rw [digits_one h] at hx
      simp at hx; omega
    · rw [digits_step (by omega)] at hx
      rcases List.mem_append.1 hx with hx | hx
      · exact ih (m / 10) (by omega) x hx
      · simp at hx; omega
theorem digits_len : ∀ (k m : Nat), m < 10 ^ (k + 1) → (Jq.digits m).length ≤ k + 1 := by
  intro k
  induction k with
  | zero => intro m h; rw [digits_one (by omega)]; simp
  | succ k ih =>
    intro m h
    by_cases h10 : m < 10
    · rw [digits_one h10]; simp
    · rw [digits_step (by omega), List.length_append]
      have := ih (m / 10) (by rw [Nat.pow_succ] at h; omega)
      simp
      omega

/-- One byte as a text. -/
theorem byte_conv {r : Nat} (h : 48 + r < 256) (w : World) : (convert 31 9 (.slice (some ⟨w.heap.size, 0, none⟩) 1 1)).run Tryz.prog (w.alloc (.cells #[.int .u8 (48 + (r : Int))] 5)) = .ok (.string (strOf [48 + r])) (w.alloc (.cells #[.int .u8 (48 + (r : Int))] 5)) := by
  have e : (48 + (r : Int)) = ((48 + r : Nat) : Int) := by omega
  rw [e]
  exact conv_str (q := [48 + r]) (arg_new rfl 5 (0, 0) [48 + r] 1 (by simpa using h) (Nat.le_refl _) (by decide))

set_option maxHeartbeats 2000000 in
set_option maxRecDepth 100000 in
theorem tens_any : ∀ (m : Nat), m ≤ 9223372036854775808 → ∀ (w : World), Calls Tryz.prog 67 #[.int .i64 (-(m : Int))] w fun e w' => e = .returned (.string (strOf (Jq.digits m))) ∧ Below w.heap.size w w' := by
  intro m
  induction m using Nat.strongRecOn with
  | _ m ih =>
    intro hm w
    have hn : (-(m : Int)).tmod 10 = -((m % 10 : Nat) : Int) := by rw [Int.neg_tmod]; rfl
    have hq : (-(m : Int)).tdiv 10 = -((m / 10 : Nat) : Int) := by rw [Int.neg_tdiv]; rfl
    have hr10 : m % 10 < 10 := Nat.mod_lt _ (by decide)
    have hcv := byte_conv (r := m % 10) (by omega) w
    have HB := Lib.hid (one_alloc' w (.cells #[.int .u8 (48 + ((m % 10 : Nat) : Int))] 5))
    by_cases h10 : m < 10
    · have hd : decide (-(m : Int) ≤ -10) = false := decide_eq_false (by omega)
      have HD : Hid (Jq.digits m = [48 + m % 10]) := by unfold Hid; rw [digits_one h10, Nat.mod_eq_of_lt h10]
      obtain ⟨n, en⟩ : ∃ n : Int, -(m : Int) = n := ⟨_, rfl⟩
      rw [en] at hn hq hd ⊢
      generalize m % 10 = r at *
      clear ih en hq h10 hm
      go_enter Tryz.func67, Tryz.ntmps67
      go_wp2
      go_ret
      exact ⟨by rw [HD.out]; rfl, HB.out⟩
    · have hd : decide (-(m : Int) ≤ -10) = true := decide_eq_true (by omega)
      have HD : Hid (Jq.digits m = Jq.digits (m / 10) ++ [48 + m % 10]) := digits_step (by omega)
      have hI := ih (m / 10) (by omega) (by omega) (w.alloc (.cells #[.int .u8 (48 + ((m % 10 : Nat) : Int))] 5))
      have HL : Hid ((Jq.digits (m / 10)).length ≤ 20) := digits_len 19 (m / 10) (by omega)
      obtain ⟨n, en⟩ : ∃ n : Int, -(m : Int) = n := ⟨_, rfl⟩
      rw [en] at hn hq hd ⊢
      generalize m % 10 = r at *
      have hqb : m / 10 ≤ 9223372036854775807 := by omega
      generalize hmq : m / 10 = q at *
      clear ih en h10 hm hmq
      go_enter Tryz.func67, Tryz.ntmps67
      go_wp2_with fail
      refine hI.mono ?_
      rintro e w1 ⟨rfl, hb1⟩
      have hsz : (strOf (Jq.digits q)).size + (strOf [48 + r]).size ≤ 40 := by rw [strOf_size, strOf_size]; have := HL.out; simp; omega
      have HS := Lib.hid (strOf_append (Jq.digits q) [48 + r])
      have HB1 : Hid (Below w.heap.size w w1) := HB.out.trans (hb1.mono HB.out.size)
      generalize strOf (Jq.digits q) = X at *
      generalize strOf [48 + r] = Y at *
      clear hI hb1
      go_wp2
      go_ret
      exact ⟨by rw [HD.out, ← HS.out]; rfl, HB1.out⟩

theorem byte_drew {r : Nat} (h : 48 + r < 256) (w : World) : (convert 31 9 (.slice (some ⟨w.heap.size, 0, none⟩) 1 1)).run Tryz.prog (w.alloc (.cells #[.int .u8 (48 + (r : Int))] 5)).drew = .ok (.string (strOf [48 + r])) (w.alloc (.cells #[.int .u8 (48 + (r : Int))] 5)).drew :=
  byte_conv h w.drew
theorem byte_cell {r g : Nat} (h : 48 + r < 256) (w : World) (hg : g < w.heap.size) (hc : w.cell? ⟨g, 0, none⟩ = some (.int .u8 (48 + (r : Int)))) : (convert 31 9 (.slice (some ⟨g, 0, none⟩) 1 1)).run Tryz.prog w = .ok (.string (strOf [48 + r])) w := by
  have e : (48 + (r : Int)) = ((48 + r : Nat) : Int) := by omega
  rw [e] at hc
  refine conv_str (q := [48 + r]) ⟨Nat.le_refl _, by decide, by simpa using h, fun _ => ⟨g, 0, rfl, hg, fun j x hj => ?_⟩⟩
  match j, hj with
  | 0, hj =>
    simp at hj
    subst hj
    exact ⟨h, hc⟩
set_option maxHeartbeats 2000000 in
set_option maxRecDepth 100000 in
/-- Decimal of no negative number. -/
theorem decNat_any : ∀ (m : Nat), m ≤ 9223372036854775807 → ∀ (w : World), Calls Tryz.prog 44 #[.int .i64 (m : Int)] w fun e w' => e = .returned (.string (strOf (Jq.digits m))) ∧ Below w.heap.size w w' := by
  intro m
  induction m using Nat.strongRecOn with
  | _ m ih =>
    intro hm w
    have d0 : decide ((m : Int) < 0) = false := decide_eq_false (by omega)
    by_cases h10 : m < 10
    · have hd : decide ((m : Int) < 10) = true := decide_eq_true (by omega)
      have HD := Lib.hid (digits_one h10)
      have hcv := byte_conv (r := m) (by omega) w
      have HB := Lib.hid (one_alloc' w (.cells #[.int .u8 (48 + (m : Int))] 5))
      clear ih hm
      go_enter Tryz.func44, Tryz.ntmps44
      go_wp2
      go_ret
      exact ⟨by rw [HD.out]; rfl, HB.out⟩
    · have hd : decide ((m : Int) < 10) = false := decide_eq_false (by omega)
      have HD : Hid (Jq.digits m = Jq.digits (m / 10) ++ [48 + m % 10]) := digits_step (by omega)
      have hI := fun w => ih (m / 10) (by omega) (by omega) w
      have HL : Hid ((Jq.digits (m / 10)).length ≤ 20) := digits_len 19 (m / 10) (by omega)
      have hn : (m : Int).tmod 10 = ((m % 10 : Nat) : Int) := rfl
      have hq : (m : Int).tdiv 10 = ((m / 10 : Nat) : Int) := rfl
      have hr10 : m % 10 < 10 := Nat.mod_lt _ (by decide)
      have hqb : m / 10 ≤ 9223372036854775807 := by omega
      have hc1 := fun w => byte_conv (r := m % 10) (by omega) w
      have hc2 := fun w => byte_drew (r := m % 10) (by omega) w
      have HC3 : Hid (∀ (W w1 : World) (g : Nat), g < W.heap.size → W.cell? ⟨g, 0, none⟩ = some (.int .u8 (48 + ((m % 10 : Nat) : Int))) → Below W.heap.size W w1 → (convert 31 9 (.slice (some ⟨g, 0, none⟩) 1 1)).run Tryz.prog w1 = .ok (.string (strOf [48 + m % 10])) w1) :=
        fun W w1 g hg hc hb => byte_cell (by omega) w1 (Nat.lt_of_lt_of_le hg hb.size) ((World.cell?_of_block (a := ⟨g, 0, none⟩) (hb.block g hg)).trans hc)
      obtain ⟨n, en⟩ : ∃ n : Int, (m : Int) = n := ⟨_, rfl⟩
      rw [en] at hn hq hd d0 ⊢
      generalize m % 10 = r at *
      generalize m / 10 = q at *
      have hsz : (strOf (Jq.digits q)).size + (strOf [48 + r]).size ≤ 40 := by rw [strOf_size, strOf_size]; have := HL.out; simp; omega
      have HS := Lib.hid (strOf_append (Jq.digits q) [48 + r])
      generalize strOf (Jq.digits q) = X at *
      generalize strOf [48 + r] = Y at *
      clear ih en h10 hm
      go_enter Tryz.func44, Tryz.ntmps44
      have w1 : IntKind.i64.wrap (q : Int) = (q : Int) := IntWalk.i64_in _ (by omega)
      have w2 : IntKind.i64.wrap (48 + (r : Int)) = 48 + (r : Int) := IntWalk.i64_in _ (by omega)
      have w3 : IntKind.u8.wrap (48 + (r : Int)) = 48 + (r : Int) := IntWalk.u8_in _ (by omega)
      have hsz2 : ¬ 9223372036854775807 < X.size + Y.size := by omega
      go_upto_region 5 with (fail)
      go_region_law (go_simp; go_at_call 44; refine (hI _).mono ?_; rintro e w1 ⟨rfl, hb1⟩; have hc3 := fun h1 h2 => HC3.out _ w1 w.heap.size h1 h2 hb1; simp only [])
      all_goals
        have hbf : Below w.heap.size w w1 := by
          first
            | exact ⟨hb1.os, hb1.tape, hb1.output, hb1.size, hb1.block⟩
            | exact ((one_alloc' w _).drew).trans (hb1.mono (by simp))
        clear hb1 hc3
        go_wp2
        go_ret
        exact ⟨by rw [HD.out, ← HS.out]; rfl, by first | exact hbf | exact hbf.alloc hbf.size _⟩
set_option maxHeartbeats 2000000 in
set_option maxRecDepth 100000 in
theorem decimal_any (n : Int) (h0 : -9223372036854775808 ≤ n) (h1 : n ≤ 9223372036854775807) (w : World) : Calls Tryz.prog 44 #[.int .i64 n] w fun e w' => e = .returned (.string (strOf (Jq.decimal n))) ∧ Below w.heap.size w w' := by
  by_cases hn : n < 0
  · have d0 : decide (n < 0) = true := decide_eq_true hn
    have hT := tens_any n.natAbs (by omega) w
    rw [show -((n.natAbs : Nat) : Int) = n from by omega] at hT
    have HD : Hid (strOf (Jq.decimal n) = { data := #[45] } ++ strOf (Jq.digits n.natAbs)) := by
      unfold Hid Jq.decimal
      rw [if_pos hn]
      exact (strOf_append [45] (Jq.digits n.natAbs)).symm
    have hlen : (strOf (Jq.digits n.natAbs)).size ≤ 20 := by rw [strOf_size]; exact digits_len 19 _ (by omega)
    generalize strOf (Jq.digits n.natAbs) = X at *
    clear hn
    go_enter Tryz.func44, Tryz.ntmps44
    go_wp2_with fail
    refine hT.mono ?_
    rintro e w1 ⟨rfl, hb⟩
    clear hT
    go_wp2
    go_ret
    exact ⟨by rw [HD.out]; rfl, hb⟩
  · have hD := decNat_any n.toNat (by omega) w
    rw [show ((n.toNat : Nat) : Int) = n from by omega] at hD
    have : Jq.decimal n = Jq.digits n.toNat := if_neg hn
    rw [this]
    exact hD
end Go.Proofs.YthhlmalpelgpeaaGreatDoor
