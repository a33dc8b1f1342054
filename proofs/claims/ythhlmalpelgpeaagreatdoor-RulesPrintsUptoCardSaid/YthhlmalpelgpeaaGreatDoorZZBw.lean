/-
  The document's Print: between, quote.
-/
import Derived.Test.YthhlmalpelgpeaaGreatDoorZZBe
namespace Go.Proofs.YthhlmalpelgpeaaGreatDoor
open Go.RowKit

/-- What stands between an operator's operands, with its blanks. -/
def betw (op : Int) : List Nat := if Zq.between op = [] then [] else 32 :: Zq.between op ++ [32]
theorem lvl_says {L : Nat} (hL : L < 6) : (lvlOps L).length ≤ 3 ∧ ∀ x ∈ lvlOps L, x.1.length ≤ 4 ∧ Zq.between x.2 = x.1 ∧ x.1 ≠ [] := by
  have : ∀ L : Fin 6, (lvlOps L.val).length ≤ 3 ∧ ∀ x ∈ lvlOps L.val, x.1.length ≤ 4 ∧ Zq.between x.2 = x.1 ∧ x.1 ≠ [] := by decide
  exact this ⟨L, hL⟩
theorem lvl_none {op : Int} (h : ∀ j, j < 6 → ∀ x ∈ lvlOps j, x.2 ≠ op) : betw op = [] := by
  have g : ∀ j x, j < 6 → x ∈ lvlOps j → ¬ op = x.2 := fun j x hj hx e => h j hj x hx e.symm
  have e : Zq.between op = [] := by
    unfold Zq.between
    rw [if_neg (g 0 ([111, 114], 15) (by decide) (by decide)), if_neg (g 1 ([97, 110, 100], 14) (by decide) (by decide)), if_neg (g 3 ([61, 61], 10) (by decide) (by decide)), if_neg (g 3 ([60], 11) (by decide) (by decide)), if_neg (g 3 ([105, 110], 12) (by decide) (by decide)), if_neg (g 4 ([43], 5) (by decide) (by decide)), if_neg (g 5 ([101, 108, 115, 101], 16) (by decide) (by decide))]
  unfold betw
  rw [if_pos e]
theorem sp_str (t : List Nat) : ({ data := #[32] } : ByteArray) ++ strOf t ++ { data := #[32] } = strOf (32 :: t ++ [32]) := by
  rw [show ({ data := #[32] } : ByteArray) = strOf [32] from rfl, strOf_append, strOf_append]
  rfl
set_option maxHeartbeats 4000000 in
set_option maxRecDepth 100000 in
theorem refBetween_any (op : Int) (w : World) :
    Calls Tryz.prog 47 #[.int .i64 op] w fun e w' => Below w.heap.size w w' ∧ e = .returned (.string (strOf (betw op))) := by
  obtain ⟨R, eR⟩ : ∃ R, betw op = R := ⟨_, rfl⟩
  have HR := Lib.hid eR
  rw [eR]
  clear eR
  go_enter Tryz.func47, Tryz.ntmps47
  go_wp2_with fail
  go_loopw [3] (fun i wr => ∃ L : Nat, i = .int .i64 L ∧ L ≤ 6 ∧ Hid (∀ j, j < L → ∀ x ∈ lvlOps j, x.2 ≠ op) ∧ Below w.heap.size w wr) (fun i _ => 6 - (intOf i).toNat)
  case atStart => exact ⟨0, rfl, by decide, fun j hj => absurd hj (Nat.not_lt_zero j), Below.refl _ _⟩
  case round =>
    obtain ⟨L, rfl, hL, HNO, hb⟩ := hrel
    by_cases hlt : L < 6
    · have hO := refOperators_any L hlt wr
      have HLT : Hid (L < 6) := hlt
      have HB := Lib.hid hb
      clear hb hL
      go_wp2_with fail
      refine hO.mono ?_
      rintro e w2 ⟨hb2, v1, v2, rfl, A, c, A2, c2, rfl, rfl, hlv⟩
      obtain ⟨hn3, hsay⟩ := lvl_says HLT.out
      have HSAY := Lib.hid hsay
      have HLV := Lib.hid hlv
      have HB2 := Lib.hid (below_onZ HB.out hb2)
      obtain ⟨n, en⟩ : ∃ n, (lvlOps L).length = n := ⟨_, rfl⟩
      have HN := Lib.hid en
      rw [en] at hn3 ⊢
      clear hO hb2 hlv hsay en
      go_wp2_with fail
      go_loop [6] (fun i => ∃ k : Nat, i = .int .i64 k ∧ k ≤ n ∧ Hid (∀ j x, j < k → (lvlOps L)[j]? = some x → x.2 ≠ op)) (fun i => n - (intOf i).toNat)
      case atStart => exact ⟨0, rfl, Nat.zero_le _, fun j x hj => absurd hj (Nat.not_lt_zero j)⟩
      case round =>
        obtain ⟨k, rfl, hk, HNK⟩ := hrel
        by_cases hkn : k < n
        · have hx : (lvlOps L)[k]? = some ((lvlOps L)[k]'(by rw [HN.out]; exact hkn)) := List.getElem?_eq_getElem _
          obtain ⟨x, ex⟩ : ∃ x, (lvlOps L)[k]'(by rw [HN.out]; exact hkn) = x := ⟨_, rfl⟩
          rw [ex] at hx
          obtain ⟨⟨b, rfl, c0⟩, ⟨b', rfl, c1⟩⟩ := HLV.out k x hx
          have HX := Lib.hid hx
          clear ex hx
          rcases Decidable.em (x.2 = op) with h | h
          · obtain ⟨s1, s2, s3⟩ := HSAY.out x (List.mem_of_getElem? HX.out)
            have hsz : (strOf x.1).size ≤ 4 := by rw [strOf_size]; exact s1
            have g1 : (x.2 == op) = true := by rw [h]; simp
            have g2 : decide (x.2 = op) = true := decide_eq_true h
            have HQ : Hid (({ data := #[32] } : ByteArray) ++ strOf x.1 ++ { data := #[32] } = strOf R) := by
              unfold Hid
              rw [sp_str, ← HR.out, betw, ← h, s2, if_neg s3]
            clear h s1 s2 s3 HNO HNK HSAY
            go_wp2
            go_ret
            exact ⟨HB2.out, congrArg (fun z => Ending.returned (.string z)) HQ.out⟩
          · have g1 : (x.2 == op) = false := beq_false_of_ne h
            have g2 : decide (x.2 = op) = false := decide_eq_false h
            have HQ : Hid (∀ j x, j < k + 1 → (lvlOps L)[j]? = some x → x.2 ≠ op) := fun j y hj hy => by
              rcases Nat.lt_or_eq_of_le (Nat.le_of_lt_succ hj) with h' | h'
              · exact HNK.out j y h' hy
              · subst h'
                have hxx := HX.out
                rw [hy] at hxx
                rw [Option.some.inj hxx]
                exact h
            clear h
            go_wp2
            go_round
            case rel => exact ⟨k + 1, by go_num, by omega, Lib.hid HQ.out⟩
            case measure => simp [intOf]; omega
        · obtain rfl : k = n := by omega
          have hd2 : decide ((k : Int) < (k : Int)) = false := by simp
          have HQ : Hid (∀ j, j < L + 1 → ∀ x ∈ lvlOps j, x.2 ≠ op) := fun j hj y hy => by
            rcases Nat.lt_or_eq_of_le (Nat.le_of_lt_succ hj) with h' | h'
            · exact HNO.out j h' y hy
            · subst h'
              obtain ⟨i, hi⟩ := List.getElem?_of_mem hy
              exact HNK.out i y (by have := (List.getElem?_eq_some_iff.1 hi).1; rw [HN.out] at this; exact this) hi
          have hLT := HLT.out
          clear HNO HNK
          go_wp2
          go_roundw
          case rel => exact ⟨L + 1, by go_num, by omega, Lib.hid HQ.out, HB2.out⟩
          case measure => simp [intOf]; omega
    · obtain rfl : L = 6 := by omega
      have HQ : Hid ({ data := #[] } = strOf R) := by unfold Hid; rw [← HR.out, lvl_none HNO.out]; rfl
      have HB := Lib.hid hb
      clear HNO hb
      go_wp2
      go_ret
      exact ⟨HB.out, congrArg (fun z => Ending.returned (.string z)) HQ.out⟩
end Go.Proofs.YthhlmalpelgpeaaGreatDoor
