/-
  The contract of the document's Long.
-/
import Derived.Test.YtndkangfnojpoaaGreatDoorJWrite
import Derived.RegionTactic
import Derived.Deep.RegionWith
import Derived.IntWalk
namespace Go.Proofs.YtndkangfnojpoaaGreatDoor
open Go.RowKit

theorem long_found {l : List Nat} {n : Nat} (h1 : 1 ≤ n) (h4 : n ≤ 4) (hno : ∀ m, 1 ≤ m → m < n → Jq.isRune m l = false) (hy : Jq.isRune n l = true) : Jq.long l = n := by
  unfold Jq.long
  have : n = 1 ∨ n = 2 ∨ n = 3 ∨ n = 4 := by omega
  rcases this with rfl | rfl | rfl | rfl
  · simp [hy]
  · simp [hy, hno 1 (by omega) (by omega)]
  · simp [hy, hno 1 (by omega) (by omega), hno 2 (by omega) (by omega)]
  · simp [hy, hno 1 (by omega) (by omega), hno 2 (by omega) (by omega), hno 3 (by omega) (by omega)]
theorem long_none {l : List Nat} {n : Nat} (hno : ∀ m, 1 ≤ m → m < n → Jq.isRune m l = false) (he : 5 ≤ n ∨ l.length < n) : Jq.long l = 0 := by
  have key : ∀ m, 1 ≤ m → m ≤ 4 → Jq.isRune m l = false := fun m h1 h4 => by
    by_cases h : m < n
    · exact hno m h1 h
    · unfold Jq.isRune
      rw [decide_eq_false (by omega)]
      rfl
  unfold Jq.long
  simp [key 1 (by omega) (by omega), key 2 (by omega) (by omega), key 3 (by omega) (by omega), key 4 (by omega) (by omega)]
/-- The number that so many bytes from a place on say, of the first its rest alone. -/
def runeN (S : List Nat) (i M : Nat) : Nat → Nat
  | 0 => 0
  | 1 => S.getD i 0 % M
  | k + 2 => runeN S i M (k + 1) * 64 + S.getD (i + (k + 1)) 0 % 64
theorem runeN_lt (S : List Nat) (i M : Nat) (h : S.getD i 0 % M < 256) : ∀ k, runeN S i M (k + 1) < 256 * 64 ^ k
  | 0 => by simpa [runeN] using h
  | k + 1 => by
    have := runeN_lt S i M h k
    rw [runeN, Nat.pow_succ]
    omega
theorem runeN_of {S : List Nat} {i : Nat} : ∀ (n : Nat), 1 ≤ n → n ≤ 4 → i + n ≤ S.length → (∀ x ∈ S, x < 256) → Jq.runeOf n (S.drop i) = runeN S i (if n = 1 then 256 else if n = 2 then 32 else if n = 3 then 16 else 8) n := by
  intro n h1 h4 hl hS
  have : n = 1 ∨ n = 2 ∨ n = 3 ∨ n = 4 := by omega
  have hlen : n ≤ (S.drop i).length := by rw [List.length_drop]; omega
  have hd := fun j => getD_drop S i j
  have hb : S.getD (i + 0) 0 < 256 := by
    rw [List.getD_eq_getElem?_getD, List.getElem?_eq_getElem (by omega)]
    exact hS _ (List.getElem_mem _)
  rcases this with rfl | rfl | rfl | rfl
  · match e : S.drop i, hlen with
    | a :: r, _ =>
      rw [e] at hd
      have h0 := hd 0
      simp at h0 hb
      simp [Jq.runeOf, runeN]
      omega
  · match e : S.drop i, hlen with
    | a :: b :: r, _ =>
      rw [e] at hd
      have h0 := hd 0
      have h1 := hd 1
      simp at h0 h1
      simp [Jq.runeOf, runeN, h0, h1]
  · match e : S.drop i, hlen with
    | a :: b :: c :: r, _ =>
      rw [e] at hd
      have h0 := hd 0
      have h1 := hd 1
      have h2 := hd 2
      simp at h0 h1 h2
      simp [Jq.runeOf, runeN, h0, h1, h2]
  · match e : S.drop i, hlen with
    | a :: b :: c :: d :: r, _ =>
      rw [e] at hd
      have h0 := hd 0
      have h1 := hd 1
      have h2 := hd 2
      have h3 := hd 3
      simp at h0 h1 h2 h3
      simp [Jq.runeOf, runeN, h0, h1, h2, h3]
end Go.Proofs.YtndkangfnojpoaaGreatDoor
