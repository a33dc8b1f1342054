/-
  Which names are the tokens' own: the program's Reserved, and the document's.
-/
import Derived.Test.YtgoecghakiihpaaDoorKBase
namespace Go.Proofs.YtgoecghakiihpaaDoor.Vq
abbrev issN : List Nat := [105, 115, 115]
abbrev subN : List Nat := [115, 117, 98]
abbrev audN : List Nat := [97, 117, 100]
abbrev expN : List Nat := [101, 120, 112]
abbrev iatN : List Nat := [105, 97, 116]
abbrev nbfN : List Nat := [110, 98, 102]
abbrev nonceN : List Nat := [110, 111, 110, 99, 101]
def Reserved (n : List Nat) : Prop := n = issN ∨ n = subN ∨ n = audN ∨ n = expN ∨ n = iatN ∨ n = nbfN ∨ n = nonceN
instance reservedDec (n : List Nat) : Decidable (Reserved n) := inferInstanceAs (Decidable (_ ∨ _))
end Go.Proofs.YtgoecghakiihpaaDoor.Vq
namespace Go.Proofs.YtgoecghakiihpaaDoor
open Go.RowKit

theorem name_beq {t q : List Nat} (ht : ∀ y ∈ t, y < 256) (hq : ∀ y ∈ q, y < 256) {b : Bool} (h : decide (t = q) = b) {l : List UInt8} (hl : (strOf q).toList = l) : ((strOf t).toList == l) = b := by
  rw [← h, ← hl]
  exact str_beq ht hq
set_option maxHeartbeats 1000000 in
set_option maxRecDepth 100000 in
theorem reserved_any (t : List Nat) (ht : ∀ y ∈ t, y < 256) (w : World) :
    Calls Tryd.prog 27 #[.string (strOf t)] w fun e w' => w = w' ∧ e = .returned (.bool (decide (Vq.Reserved t))) := by
  by_cases h0 : t = Vq.issN
  · have e0 := name_beq ht (q := Vq.issN) (by decide) (decide_eq_true h0) (l := [105, 115, 115]) (by rw [ByteArray.toList_eq]; decide)
    have HR : Hid (decide (Vq.Reserved t) = true) := decide_eq_true (.inl h0)
    generalize decide (Vq.Reserved t) = R at *
    generalize strOf t = S at *
    clear h0 ht 
    go_enter Tryd.func27, Tryd.ntmps27
    go_wp2
    go_ret
    exact ⟨rfl, congrArg (fun r => Ending.returned (.bool r)) HR.out.symm⟩
  have e0 := name_beq ht (q := Vq.issN) (by decide) (decide_eq_false h0) (l := [105, 115, 115]) (by rw [ByteArray.toList_eq]; decide)
  by_cases h1 : t = Vq.subN
  · have e1 := name_beq ht (q := Vq.subN) (by decide) (decide_eq_true h1) (l := [115, 117, 98]) (by rw [ByteArray.toList_eq]; decide)
    have HR : Hid (decide (Vq.Reserved t) = true) := decide_eq_true (.inr (.inl h1))
    generalize decide (Vq.Reserved t) = R at *
    generalize strOf t = S at *
    clear h1 ht h0
    go_enter Tryd.func27, Tryd.ntmps27
    go_wp2
    go_ret
    exact ⟨rfl, congrArg (fun r => Ending.returned (.bool r)) HR.out.symm⟩
  have e1 := name_beq ht (q := Vq.subN) (by decide) (decide_eq_false h1) (l := [115, 117, 98]) (by rw [ByteArray.toList_eq]; decide)
  by_cases h2 : t = Vq.audN
  · have e2 := name_beq ht (q := Vq.audN) (by decide) (decide_eq_true h2) (l := [97, 117, 100]) (by rw [ByteArray.toList_eq]; decide)
    have HR : Hid (decide (Vq.Reserved t) = true) := decide_eq_true (.inr (.inr (.inl h2)))
    generalize decide (Vq.Reserved t) = R at *
    generalize strOf t = S at *
    clear h2 ht h0 h1
    go_enter Tryd.func27, Tryd.ntmps27
    go_wp2
    go_ret
    exact ⟨rfl, congrArg (fun r => Ending.returned (.bool r)) HR.out.symm⟩
  have e2 := name_beq ht (q := Vq.audN) (by decide) (decide_eq_false h2) (l := [97, 117, 100]) (by rw [ByteArray.toList_eq]; decide)
  by_cases h3 : t = Vq.expN
  · have e3 := name_beq ht (q := Vq.expN) (by decide) (decide_eq_true h3) (l := [101, 120, 112]) (by rw [ByteArray.toList_eq]; decide)
    have HR : Hid (decide (Vq.Reserved t) = true) := decide_eq_true (.inr (.inr (.inr (.inl h3))))
    generalize decide (Vq.Reserved t) = R at *
    generalize strOf t = S at *
    clear h3 ht h0 h1 h2
    go_enter Tryd.func27, Tryd.ntmps27
    go_wp2
    go_ret
    exact ⟨rfl, congrArg (fun r => Ending.returned (.bool r)) HR.out.symm⟩
  have e3 := name_beq ht (q := Vq.expN) (by decide) (decide_eq_false h3) (l := [101, 120, 112]) (by rw [ByteArray.toList_eq]; decide)
  by_cases h4 : t = Vq.iatN
  · have e4 := name_beq ht (q := Vq.iatN) (by decide) (decide_eq_true h4) (l := [105, 97, 116]) (by rw [ByteArray.toList_eq]; decide)
    have HR : Hid (decide (Vq.Reserved t) = true) := decide_eq_true (.inr (.inr (.inr (.inr (.inl h4)))))
    generalize decide (Vq.Reserved t) = R at *
    generalize strOf t = S at *
    clear h4 ht h0 h1 h2 h3
    go_enter Tryd.func27, Tryd.ntmps27
    go_wp2
    go_ret
    exact ⟨rfl, congrArg (fun r => Ending.returned (.bool r)) HR.out.symm⟩
  have e4 := name_beq ht (q := Vq.iatN) (by decide) (decide_eq_false h4) (l := [105, 97, 116]) (by rw [ByteArray.toList_eq]; decide)
  by_cases h5 : t = Vq.nbfN
  · have e5 := name_beq ht (q := Vq.nbfN) (by decide) (decide_eq_true h5) (l := [110, 98, 102]) (by rw [ByteArray.toList_eq]; decide)
    have HR : Hid (decide (Vq.Reserved t) = true) := decide_eq_true (.inr (.inr (.inr (.inr (.inr (.inl h5))))))
    generalize decide (Vq.Reserved t) = R at *
    generalize strOf t = S at *
    clear h5 ht h0 h1 h2 h3 h4
    go_enter Tryd.func27, Tryd.ntmps27
    go_wp2
    go_ret
    exact ⟨rfl, congrArg (fun r => Ending.returned (.bool r)) HR.out.symm⟩
  have e5 := name_beq ht (q := Vq.nbfN) (by decide) (decide_eq_false h5) (l := [110, 98, 102]) (by rw [ByteArray.toList_eq]; decide)
  by_cases h6 : t = Vq.nonceN
  · have e6 := name_beq ht (q := Vq.nonceN) (by decide) (decide_eq_true h6) (l := [110, 111, 110, 99, 101]) (by rw [ByteArray.toList_eq]; decide)
    have HR : Hid (decide (Vq.Reserved t) = true) := decide_eq_true (.inr (.inr (.inr (.inr (.inr (.inr (h6)))))))
    generalize decide (Vq.Reserved t) = R at *
    generalize strOf t = S at *
    clear h6 ht h0 h1 h2 h3 h4 h5
    go_enter Tryd.func27, Tryd.ntmps27
    go_wp2
    go_ret
    exact ⟨rfl, congrArg (fun r => Ending.returned (.bool r)) HR.out.symm⟩
  have e6 := name_beq ht (q := Vq.nonceN) (by decide) (decide_eq_false h6) (l := [110, 111, 110, 99, 101]) (by rw [ByteArray.toList_eq]; decide)
  have HR : Hid (decide (Vq.Reserved t) = false) := decide_eq_false (by unfold Vq.Reserved; simp only [h0, h1, h2, h3, h4, h5, h6, or_self, not_false_eq_true])
  generalize decide (Vq.Reserved t) = R at *
  generalize strOf t = S at *
  clear ht h0 h1 h2 h3 h4 h5 h6
  go_enter Tryd.func27, Tryd.ntmps27
  go_wp2
  go_ret
  exact ⟨rfl, congrArg (fun r => Ending.returned (.bool r)) HR.out.symm⟩

theorem beq_turn {l m : List UInt8} {b : Bool} (h : (m == l) = b) : (l == m) = b := by rw [← h, Bool.eq_iff_iff, beq_iff_eq, beq_iff_eq]; exact eq_comm
def tokenNames : List (List Nat) := [Vq.issN, Vq.subN, Vq.audN, Vq.expN, Vq.iatN, Vq.nbfN, Vq.nonceN]
theorem reserved_iff (t : List Nat) : Vq.Reserved t ↔ ∃ j : Nat, tokenNames[j]? = some t := by
  unfold Vq.Reserved tokenNames
  constructor
  · rintro (h | h | h | h | h | h | h) <;> subst h
    · exact ⟨0, rfl⟩
    · exact ⟨1, rfl⟩
    · exact ⟨2, rfl⟩
    · exact ⟨3, rfl⟩
    · exact ⟨4, rfl⟩
    · exact ⟨5, rfl⟩
    · exact ⟨6, rfl⟩
  · rintro ⟨j, h⟩
    match j, h with
    | 0, h => exact .inl (Option.some.inj h).symm
    | 1, h => exact .inr (.inl (Option.some.inj h).symm)
    | 2, h => exact .inr (.inr (.inl (Option.some.inj h).symm))
    | 3, h => exact .inr (.inr (.inr (.inl (Option.some.inj h).symm)))
    | 4, h => exact .inr (.inr (.inr (.inr (.inl (Option.some.inj h).symm))))
    | 5, h => exact .inr (.inr (.inr (.inr (.inr (.inl (Option.some.inj h).symm)))))
    | 6, h => exact .inr (.inr (.inr (.inr (.inr (.inr (Option.some.inj h).symm)))))
    | j + 7, h => simp at h
set_option maxHeartbeats 1000000 in
set_option maxRecDepth 100000 in
theorem refReserved_any (t : List Nat) (ht : ∀ y ∈ t, y < 256) (w : World) :
    Calls Tryd.prog 19 #[.string (strOf t)] w fun e w' => e = .returned (.bool (decide (Vq.Reserved t))) ∧ Below w.heap.size w w' := by
  have HB : Hid (∀ o, Below w.heap.size w (w.alloc o)) := fun o => one_alloc w o
  have HI := Lib.hid (reserved_iff t)
  have HE : Hid (∀ q, (∀ y ∈ q, y < 256) → ∀ l : List UInt8, (strOf q).toList = l → ∀ b, decide (t = q) = b → (l == (strOf t).toList) = b) := fun q hq l hl b h => beq_turn (name_beq ht hq h hl)
  generalize hT : strOf t = T at *
  clear hT ht
  go_enter Tryd.func19, Tryd.ntmps19
  go_wp2_with fail
  go_loop [7] (fun i => ∃ k : Nat, i = .int .i64 k ∧ k ≤ 7 ∧ Hid (∀ j, j < k → tokenNames[j]? ≠ some t)) (fun i => 7 - (intOf i).toNat)
  case atStart => exact ⟨0, rfl, Nat.zero_le _, Lib.hid (fun j hj => absurd hj (Nat.not_lt_zero _))⟩
  case round =>
    obtain ⟨k, rfl, hk, hne⟩ := hrel
    by_cases hlt : k < 7
    · have hk7 : k = 0 ∨ k = 1 ∨ k = 2 ∨ k = 3 ∨ k = 4 ∨ k = 5 ∨ k = 6 := by omega
      clear hk hlt
      rcases hk7 with rfl | rfl | rfl | rfl | rfl | rfl | rfl
      · by_cases h : t = Vq.issN
        · have e0 := HE.out Vq.issN (by decide) [105, 115, 115] (by rw [ByteArray.toList_eq]; decide) true (decide_eq_true h)
          have HR : Hid (decide (Vq.Reserved t) = true) := decide_eq_true (HI.out.2 ⟨0, by rw [h]; rfl⟩)
          clear h HE HI hne
          go_wp2
          go_ret
          exact ⟨congrArg (fun r => Ending.returned (.bool r)) HR.out.symm, HB.out _⟩
        · have e0 := HE.out Vq.issN (by decide) [105, 115, 115] (by rw [ByteArray.toList_eq]; decide) false (decide_eq_false h)
          have HQ : Hid (∀ j, j < 1 → tokenNames[j]? ≠ some t) := fun j hj => by
            rcases Nat.lt_or_eq_of_le (Nat.le_of_lt_succ hj) with h' | h'
            · exact hne.out j h'
            · subst h'; exact fun e => h (Option.some.inj e).symm
          clear h
          go_wp2
          go_round
          case rel => exact ⟨1, by go_num, by omega, Lib.hid HQ.out⟩
          case measure => simp [intOf]
      · by_cases h : t = Vq.subN
        · have e0 := HE.out Vq.subN (by decide) [115, 117, 98] (by rw [ByteArray.toList_eq]; decide) true (decide_eq_true h)
          have HR : Hid (decide (Vq.Reserved t) = true) := decide_eq_true (HI.out.2 ⟨1, by rw [h]; rfl⟩)
          clear h HE HI hne
          go_wp2
          go_ret
          exact ⟨congrArg (fun r => Ending.returned (.bool r)) HR.out.symm, HB.out _⟩
        · have e0 := HE.out Vq.subN (by decide) [115, 117, 98] (by rw [ByteArray.toList_eq]; decide) false (decide_eq_false h)
          have HQ : Hid (∀ j, j < 2 → tokenNames[j]? ≠ some t) := fun j hj => by
            rcases Nat.lt_or_eq_of_le (Nat.le_of_lt_succ hj) with h' | h'
            · exact hne.out j h'
            · subst h'; exact fun e => h (Option.some.inj e).symm
          clear h
          go_wp2
          go_round
          case rel => exact ⟨2, by go_num, by omega, Lib.hid HQ.out⟩
          case measure => simp [intOf]
      · by_cases h : t = Vq.audN
        · have e0 := HE.out Vq.audN (by decide) [97, 117, 100] (by rw [ByteArray.toList_eq]; decide) true (decide_eq_true h)
          have HR : Hid (decide (Vq.Reserved t) = true) := decide_eq_true (HI.out.2 ⟨2, by rw [h]; rfl⟩)
          clear h HE HI hne
          go_wp2
          go_ret
          exact ⟨congrArg (fun r => Ending.returned (.bool r)) HR.out.symm, HB.out _⟩
        · have e0 := HE.out Vq.audN (by decide) [97, 117, 100] (by rw [ByteArray.toList_eq]; decide) false (decide_eq_false h)
          have HQ : Hid (∀ j, j < 3 → tokenNames[j]? ≠ some t) := fun j hj => by
            rcases Nat.lt_or_eq_of_le (Nat.le_of_lt_succ hj) with h' | h'
            · exact hne.out j h'
            · subst h'; exact fun e => h (Option.some.inj e).symm
          clear h
          go_wp2
          go_round
          case rel => exact ⟨3, by go_num, by omega, Lib.hid HQ.out⟩
          case measure => simp [intOf]
      · by_cases h : t = Vq.expN
        · have e0 := HE.out Vq.expN (by decide) [101, 120, 112] (by rw [ByteArray.toList_eq]; decide) true (decide_eq_true h)
          have HR : Hid (decide (Vq.Reserved t) = true) := decide_eq_true (HI.out.2 ⟨3, by rw [h]; rfl⟩)
          clear h HE HI hne
          go_wp2
          go_ret
          exact ⟨congrArg (fun r => Ending.returned (.bool r)) HR.out.symm, HB.out _⟩
        · have e0 := HE.out Vq.expN (by decide) [101, 120, 112] (by rw [ByteArray.toList_eq]; decide) false (decide_eq_false h)
          have HQ : Hid (∀ j, j < 4 → tokenNames[j]? ≠ some t) := fun j hj => by
            rcases Nat.lt_or_eq_of_le (Nat.le_of_lt_succ hj) with h' | h'
            · exact hne.out j h'
            · subst h'; exact fun e => h (Option.some.inj e).symm
          clear h
          go_wp2
          go_round
          case rel => exact ⟨4, by go_num, by omega, Lib.hid HQ.out⟩
          case measure => simp [intOf]
      · by_cases h : t = Vq.iatN
        · have e0 := HE.out Vq.iatN (by decide) [105, 97, 116] (by rw [ByteArray.toList_eq]; decide) true (decide_eq_true h)
          have HR : Hid (decide (Vq.Reserved t) = true) := decide_eq_true (HI.out.2 ⟨4, by rw [h]; rfl⟩)
          clear h HE HI hne
          go_wp2
          go_ret
          exact ⟨congrArg (fun r => Ending.returned (.bool r)) HR.out.symm, HB.out _⟩
        · have e0 := HE.out Vq.iatN (by decide) [105, 97, 116] (by rw [ByteArray.toList_eq]; decide) false (decide_eq_false h)
          have HQ : Hid (∀ j, j < 5 → tokenNames[j]? ≠ some t) := fun j hj => by
            rcases Nat.lt_or_eq_of_le (Nat.le_of_lt_succ hj) with h' | h'
            · exact hne.out j h'
            · subst h'; exact fun e => h (Option.some.inj e).symm
          clear h
          go_wp2
          go_round
          case rel => exact ⟨5, by go_num, by omega, Lib.hid HQ.out⟩
          case measure => simp [intOf]
      · by_cases h : t = Vq.nbfN
        · have e0 := HE.out Vq.nbfN (by decide) [110, 98, 102] (by rw [ByteArray.toList_eq]; decide) true (decide_eq_true h)
          have HR : Hid (decide (Vq.Reserved t) = true) := decide_eq_true (HI.out.2 ⟨5, by rw [h]; rfl⟩)
          clear h HE HI hne
          go_wp2
          go_ret
          exact ⟨congrArg (fun r => Ending.returned (.bool r)) HR.out.symm, HB.out _⟩
        · have e0 := HE.out Vq.nbfN (by decide) [110, 98, 102] (by rw [ByteArray.toList_eq]; decide) false (decide_eq_false h)
          have HQ : Hid (∀ j, j < 6 → tokenNames[j]? ≠ some t) := fun j hj => by
            rcases Nat.lt_or_eq_of_le (Nat.le_of_lt_succ hj) with h' | h'
            · exact hne.out j h'
            · subst h'; exact fun e => h (Option.some.inj e).symm
          clear h
          go_wp2
          go_round
          case rel => exact ⟨6, by go_num, by omega, Lib.hid HQ.out⟩
          case measure => simp [intOf]
      · by_cases h : t = Vq.nonceN
        · have e0 := HE.out Vq.nonceN (by decide) [110, 111, 110, 99, 101] (by rw [ByteArray.toList_eq]; decide) true (decide_eq_true h)
          have HR : Hid (decide (Vq.Reserved t) = true) := decide_eq_true (HI.out.2 ⟨6, by rw [h]; rfl⟩)
          clear h HE HI hne
          go_wp2
          go_ret
          exact ⟨congrArg (fun r => Ending.returned (.bool r)) HR.out.symm, HB.out _⟩
        · have e0 := HE.out Vq.nonceN (by decide) [110, 111, 110, 99, 101] (by rw [ByteArray.toList_eq]; decide) false (decide_eq_false h)
          have HQ : Hid (∀ j, j < 7 → tokenNames[j]? ≠ some t) := fun j hj => by
            rcases Nat.lt_or_eq_of_le (Nat.le_of_lt_succ hj) with h' | h'
            · exact hne.out j h'
            · subst h'; exact fun e => h (Option.some.inj e).symm
          clear h
          go_wp2
          go_round
          case rel => exact ⟨7, by go_num, by omega, Lib.hid HQ.out⟩
          case measure => simp [intOf]
    · obtain rfl : k = 7 := by omega
      have HR : Hid (decide (Vq.Reserved t) = false) := decide_eq_false (fun h => by
        obtain ⟨j, hj⟩ := HI.out.1 h
        have hlen : tokenNames.length = 7 := rfl
        exact hne.out j (by have := (List.getElem?_eq_some_iff.1 hj).1; omega) hj)
      clear HE HI hne
      go_wp2
      go_ret
      exact ⟨congrArg (fun r => Ending.returned (.bool r)) HR.out.symm, HB.out _⟩
end Go.Proofs.YtgoecghakiihpaaDoor
