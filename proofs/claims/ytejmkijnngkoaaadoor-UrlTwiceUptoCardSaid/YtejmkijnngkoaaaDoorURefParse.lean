/-
  The contract of the document's Parse.
-/
import Derived.Test.YtejmkijnngkoaaaDoorUParse
import Derived.RegionTactic
namespace Go.Proofs.YtejmkijnngkoaaaDoor
open Go.RowKit

theorem scheme_list : schemeB.toList = [104, 116, 116, 112, 115, 58, 47, 47] := by rw [ByteArray.toList_eq]
theorem refUrlParse_short (s : ByteArray) (w : World) (h : ¬ (s.size ≤ 4096 ∧ (numsOf s).take 8 = Uq.scheme)) :
    Calls Tryd.prog 10 #[.string s] w fun e w' => UrlEnd (numsOf s) w e w' := by
  have Hlen := Lib.hid (numsOf_length s)
  have HN := Lib.hid (Uq.parse_no (S := numsOf s) fun h' => h ⟨by have := h'.1; rwa [Hlen.out] at this, h'.2.1⟩)
  have hL := Lies.made w 24 [.string ByteArray.empty, .string ByteArray.empty, .slice none 0 0]
  obtain ⟨k0, k1, k2, f0, f1, f2⟩ := keep3 hL (Below.refl _ _)
  by_cases hlong : 4096 < s.size
  · have hd : decide ((4096 : Int) < (s.size : Int)) = true := decide_eq_true (by omega)
    clear h
    go_enter Tryd.func10, Tryd.ntmps10
    go_wp2
    exact bodyPost_ret (v := .tuple #[uval { data := #[] } { data := #[] } none 0 0, .bool false]) (by simp [results, Tryd.results10, go_sem]) rfl (UrlEnd.no HN.out ((Below.refl _ _).alloc (Nat.le_refl _) _))
  · have hd : decide ((4096 : Int) < (s.size : Int)) = false := decide_eq_false (by omega)
    by_cases h8 : s.size < 8
    · have hd8 : decide ((s.size : Int) < 8) = true := decide_eq_true (by omega)
      clear h
      go_enter Tryd.func10, Tryd.ntmps10
      go_wp2
      exact bodyPost_ret (v := .tuple #[uval { data := #[] } { data := #[] } none 0 0, .bool false]) (by simp [results, Tryd.results10, go_sem]) rfl (UrlEnd.no HN.out ((Below.refl _ _).alloc (Nat.le_refl _) _))
    · have hd8 : decide ((s.size : Int) < 8) = false := decide_eq_false (by omega)
      have hs8 : ((s.extract 0 8).toList == schemeB.toList) = false := by
        have hp := prefix_beq s Uq.scheme scheme_lt
        rw [decide_eq_false (fun e : (numsOf s).take Uq.scheme.length = Uq.scheme => h ⟨by omega, e⟩), decide_eq_true (show (strOf Uq.scheme).size ≤ s.size from by rw [strOf_size]; show 8 ≤ s.size; omega), Bool.true_and] at hp
        exact hp
      rw [scheme_list] at hs8
      have c1 : (8 : Int) ≤ ↑s.size := by omega
      clear h
      go_enter Tryd.func10, Tryd.ntmps10
      go_wp2
      exact bodyPost_ret (v := .tuple #[uval { data := #[] } { data := #[] } none 0 0, .bool false]) (by simp [results, Tryd.results10, go_sem]) rfl (UrlEnd.no HN.out ((Below.refl _ _).alloc (Nat.le_refl _) _))
theorem free_step {S : List Nat} {b k m : Nat} (h : ∀ j, j < k → S.getD j 0 ≠ b) (hc : S.getD k 0 ≠ b) (hm : m = k + 1) : ∀ j, j < m → S.getD j 0 ≠ b := fun j hj => by
  rcases Nat.lt_or_eq_of_le (Nat.le_of_lt_succ (hm ▸ hj)) with h' | h'
  · exact h j h'
  · rw [h']; exact hc
theorem drop_getD (S : List Nat) (n i : Nat) : (S.drop n).getD i 0 = S.getD (n + i) 0 := by rw [List.getD_eq_getElem?_getD, List.getD_eq_getElem?_getD, List.getElem?_drop]
theorem take_getD (S : List Nat) {n i : Nat} (h : i < n) : (S.take n).getD i 0 = S.getD i 0 := by rw [List.getD_eq_getElem?_getD, List.getD_eq_getElem?_getD, List.getElem?_take, if_pos h]

/-- Where the query begins. -/
structure AtQ (s : ByteArray) (q : Nat) : Prop where
  lo : 8 ≤ q
  hi : q ≤ s.size
  front : Uq.front 63 ((numsOf s).drop 8) = ((numsOf s).drop 8).take (q - 8)
  more : q < s.size → Uq.textOf (numsOf s) = (numsOf s).drop (q + 1)
  none : q = s.size → Uq.textOf (numsOf s) = []
theorem AtQ.mark {s : ByteArray} {q : Nat} (lo : 8 ≤ q) (hlt : q < s.size) (hn : ∀ j, j < q - 8 → ((numsOf s).drop 8).getD j 0 ≠ 63) (hc : s[q].toNat = 63) : AtQ s q := by
  have hX := nums_at s q hlt
  obtain ⟨e1, e2⟩ := Uq.front_at (S := (numsOf s).drop 8) (b := 63) (k := q - 8) hn (by rw [List.length_drop, numsOf_length]; omega) (by rw [drop_getD, show 8 + (q - 8) = q from by omega, hX, hc])
  refine ⟨lo, by omega, e1, fun _ => ?_, fun h => by omega⟩
  unfold Uq.textOf
  rw [e2, List.drop_drop, show 8 + (q - 8 + 1) = q + 1 from by omega]
theorem AtQ.out {s : ByteArray} (lo : 8 ≤ s.size) (hn : ∀ j, j < s.size - 8 → ((numsOf s).drop 8).getD j 0 ≠ 63) : AtQ s s.size := by
  obtain ⟨e1, e2⟩ := Uq.front_out (S := (numsOf s).drop 8) (b := 63) (fun j hj => hn j (by rw [List.length_drop, numsOf_length] at hj; exact hj))
  refine ⟨lo, Nat.le_refl _, ?_, fun h => absurd h (Nat.lt_irrefl _), fun _ => e2⟩
  rw [e1, List.take_of_length_le (by rw [List.length_drop, numsOf_length]; exact Nat.le_refl _)]
/-- Where the path begins. -/
structure AtK (s : ByteArray) (q k : Nat) : Prop where
  lo : 8 ≤ k
  hi : k ≤ q
  host : numsOf (s.extract 8 k) = Uq.hostOf (numsOf s)
  path : numsOf (s.extract k q) = Uq.pathOf (numsOf s)
theorem AtK.of {s : ByteArray} {q k : Nat} (hq : AtQ s q) (lo : 8 ≤ k) (hi : k ≤ q) (h : Uq.hostOf (numsOf s) = (((numsOf s).drop 8).take (q - 8)).take (k - 8)) : AtK s q k := by
  have hl : (Uq.hostOf (numsOf s)).length = k - 8 := by
    rw [h, List.length_take, List.length_take, List.length_drop, numsOf_length]
    have := hq.hi
    omega
  refine ⟨lo, hi, ?_, ?_⟩
  · rw [nums_extract, h, List.take_take, List.drop_take, Nat.min_eq_left (by omega)]
  · unfold Uq.pathOf
    rw [nums_extract, hl, hq.front, List.drop_take, List.drop_take, List.drop_drop, show 8 + (k - 8) = k from by omega]
    congr 1
    omega
theorem AtK.mark {s : ByteArray} {q k : Nat} (hq : AtQ s q) (lo : 8 ≤ k) (hkq : k < q) (hk : k < s.size) (hn : ∀ j, j < k - 8 → ((numsOf s).drop 8).getD j 0 ≠ 47) (hc : s[k].toNat = 47) : AtK s q k := by
  have hX := nums_at s k hk
  have hqs := hq.hi
  refine AtK.of hq lo (by omega) ?_
  unfold Uq.hostOf
  rw [hq.front]
  refine (Uq.front_at (fun j hj => ?_) ?_ ?_).1
  · rw [take_getD _ (by omega)]; exact hn j hj
  · rw [List.length_take, List.length_drop, numsOf_length]; omega
  · rw [take_getD _ (by omega), drop_getD, show 8 + (k - 8) = k from by omega, hX, hc]
theorem AtK.out {s : ByteArray} {q : Nat} (hq : AtQ s q) (hn : ∀ j, j < q - 8 → ((numsOf s).drop 8).getD j 0 ≠ 47) : AtK s q q := by
  have hqs := hq.hi
  have hlo := hq.lo
  refine AtK.of hq hlo (Nat.le_refl _) ?_
  unfold Uq.hostOf
  rw [hq.front, List.take_of_length_le (l := ((numsOf s).drop 8).take (q - 8)) (by rw [List.length_take]; omega)]
  refine (Uq.front_out (fun j hj => ?_)).1
  rw [List.length_take, List.length_drop, numsOf_length] at hj
  rw [take_getD _ (by omega)]
  exact hn j (by omega)
end Go.Proofs.YtejmkijnngkoaaaDoor
