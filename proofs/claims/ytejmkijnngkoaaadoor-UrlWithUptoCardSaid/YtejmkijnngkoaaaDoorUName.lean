/-
  The contracts of nameSize, rightName and rightPort, and of the document's name and number.
-/
import Derived.Test.YtejmkijnngkoaaaDoorULib
import Derived.WalkMore
import Derived.Outline
namespace Go.Proofs.YtejmkijnngkoaaaDoor
open Go.RowKit

theorem all_take {S : List Nat} {k : Nat} {P : Nat → Prop} (h : ∀ j, j < k → P (S.getD j 0)) (hk : S.length ≤ k) : ∀ c ∈ S, P c := by
  intro c hc
  obtain ⟨j, hj, rfl⟩ := List.getElem_of_mem hc
  have := h j (by omega)
  rwa [List.getD_eq_getElem?_getD, List.getElem?_eq_getElem hj] at this
theorem getD_mem' {S : List Nat} {k : Nat} (h : k < S.length) : S.getD k 0 ∈ S := by
  rw [List.getD_eq_getElem?_getD, List.getElem?_eq_getElem h]
  exact List.getElem_mem _

/-- What nameSize answers. -/
def SizeEnd (S : List Nat) (P : Prop) (w : World) (e : Ending) (w' : World) : Prop := ∃ k : Nat, e = .returned (.int .i64 k) ∧ k ≤ S.length ∧ (k = S.length ↔ P) ∧ Below w.heap.size w w'

set_option maxHeartbeats 1000000 in
set_option maxRecDepth 100000 in
theorem nameSize_any (s : ByteArray) (hs : s.size ≤ 4096) (w : World) :
    Calls Tryd.prog 60 #[.string s] w fun e w' => (∃ k : Nat, e = .returned (.int .i64 k) ∧ k ≤ s.size ∧ (k = s.size ↔ ∀ c ∈ numsOf s, Uq.nc c = true)) ∧ w = w' := by
  have Hlen := Lib.hid (numsOf_length s)
  go_enter Tryd.func60, Tryd.ntmps60
  go_wp2
  go_step3
  go_wp2
  go_step3
  go_wp2
  go_loop [3] (fun i => ∃ k : Nat, i = .int .i64 k ∧ k ≤ s.size ∧ ∀ j, j < k → Uq.nc ((numsOf s).getD j 0) = true) (fun i => s.size - (intOf i).toNat)
  case atStart => exact ⟨0, rfl, Nat.zero_le _, fun j hj => by omega⟩
  case round =>
    obtain ⟨k, rfl, hk, hno⟩ := hrel
    have Hno := Lib.hid hno
    clear hno
    by_cases hlt : k < s.size
    · have hX := Lib.hid (nums_at s k hlt)
      have HN : Hid (Uq.nc s[k].toNat = true → ∀ j, j < k + 1 → Uq.nc ((numsOf s).getD j 0) = true) := fun hc j hj => by
        rcases Nat.lt_or_eq_of_le (Nat.le_of_lt_succ hj) with h | h
        · exact Hno.out j h
        · rw [h, hX.out]; exact hc
      by_cases h1 : 97 ≤ s[k].toNat ∧ s[k].toNat ≤ 122
      · obtain ⟨h1, h2⟩ := h1
        have HC := Lib.hid (HN.out ((Uq.nc_iff _).2 (by omega)))
        go_wp2
        go_round
        case rel => exact ⟨k + 1, by go_num, by omega, HC.out⟩
        case measure => simp [intOf]; omega
      · by_cases h2 : 48 ≤ s[k].toNat ∧ s[k].toNat ≤ 57
        · obtain ⟨h2, h3⟩ := h2
          have h4 : ¬ 97 ≤ s[k].toNat := by omega
          have HC := Lib.hid (HN.out ((Uq.nc_iff _).2 (by omega)))
          clear h1
          go_wp2
          go_round
          case rel => exact ⟨k + 1, by go_num, by omega, HC.out⟩
          case measure => simp [intOf]; omega
        · by_cases h3 : s[k].toNat = 45
          · have hd : ((s[k].toNat : Int) == 45) = true := by rw [beq_iff_eq]; omega
            have h4 : ¬ 97 ≤ s[k].toNat := by omega
            have h5 : ¬ 48 ≤ s[k].toNat := by omega
            have HC := Lib.hid (HN.out ((Uq.nc_iff _).2 (by omega)))
            clear h1 h2 h3
            go_wp2
            go_round
            case rel => exact ⟨k + 1, by go_num, by omega, HC.out⟩
            case measure => simp [intOf]; omega
          · have hd : ((s[k].toNat : Int) == 45) = false := by rw [beq_eq_false_iff_ne]; omega
            have HC : Hid (¬ ∀ c ∈ numsOf s, Uq.nc c = true) := fun h => by
              have := h _ (getD_mem' (S := numsOf s) (k := k) (by rw [Hlen.out]; exact hlt))
              rw [hX.out, Uq.nc_iff] at this
              omega
            have g1 : decide ((97 : Int) ≤ (s[k].toNat : Int)) = true → decide ((s[k].toNat : Int) ≤ 122) = false := fun h => decide_eq_false (by have := of_decide_eq_true h; omega)
            have g2 : decide ((48 : Int) ≤ (s[k].toNat : Int)) = true → decide ((s[k].toNat : Int) ≤ 57) = false := fun h => decide_eq_false (by have := of_decide_eq_true h; omega)
            clear h3 g1 g2
            go_wp2
            all_goals first | omega | (go_ret; exact ⟨⟨k, rfl, by omega, ⟨fun h => by omega, fun h => absurd h HC.out⟩⟩, rfl⟩)
    · obtain rfl : k = s.size := by omega
      have hdl : decide ((s.size : Int) < (s.size : Int)) = false := by simp
      have HC : Hid (∀ c ∈ numsOf s, Uq.nc c = true) := all_take (P := fun c => Uq.nc c = true) Hno.out (by rw [Hlen.out]; exact Nat.le_refl _)
      go_wp2
      go_ret
      exact ⟨⟨s.size, rfl, Nat.le_refl _, ⟨fun _ => HC.out, fun _ => rfl⟩⟩, rfl⟩
end Go.Proofs.YtejmkijnngkoaaaDoor
