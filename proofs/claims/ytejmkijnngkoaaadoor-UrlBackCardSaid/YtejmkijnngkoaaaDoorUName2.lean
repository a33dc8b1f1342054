/-
  The contracts of rightName and rightPort, and of the document's name and number.
-/
import Derived.Test.YtejmkijnngkoaaaDoorUName
import Derived.Test.YtejmkijnngkoaaaDoorPParse
namespace Go.Proofs.YtejmkijnngkoaaaDoor
open Go.RowKit

theorem name_no {S : List Nat} (h : ¬ Uq.NameOk S) : Uq.nameOk S = false := decide_eq_false h
theorem name_yes {S : List Nat} (h1 : 1 ≤ S.length) (h2 : S.length ≤ 63) (h3 : S.getD 0 0 ≠ 45) (h4 : S.getD (S.length - 1) 0 ≠ 45) (h5 : ∀ c ∈ S, Uq.nc c = true) : Uq.nameOk S = true := decide_eq_true ⟨h1, h2, h3, h4, h5⟩

set_option maxHeartbeats 1000000 in
set_option maxRecDepth 100000 in
theorem rightName_any (s : ByteArray) (hs : s.size ≤ 4096) (w : World) :
    Calls Tryd.prog 38 #[.string s] w fun e w' => e = .returned (.bool (Uq.nameOk (numsOf s))) ∧ w = w' := by
  have Hlen := Lib.hid (numsOf_length s)
  by_cases h0 : numsOf s = []
  · have h1 : s.toList = [] := (empty_iff s).2 h0
    have HE : Hid (Uq.nameOk (numsOf s) = false) := by unfold Hid; rw [h0]; rfl
    clear h0
    go_enter Tryd.func38, Tryd.ntmps38
    go_wp2
    go_ret
    exact ⟨ret_bool (by rw [HE.out]), rfl⟩
  · have h1 : ¬ s.toList = [] := fun h => h0 ((empty_iff s).1 h)
    have h2 : s.toList.isEmpty = false := by rw [List.isEmpty_eq_false_iff]; exact h1
    have hp : 1 ≤ s.size := by have := List.length_pos_iff.2 h0; rw [Hlen.out] at this; omega
    clear h0
    by_cases hl : 63 < s.size
    · have hd : decide ((63 : Int) < (s.size : Int)) = true := decide_eq_true (by omega)
      have HE : Hid (Uq.nameOk (numsOf s) = false) := name_no fun h => by have := h.2.1; rw [Hlen.out] at this; omega
      go_enter Tryd.func38, Tryd.ntmps38
      go_wp2
      go_ret
      exact ⟨ret_bool (by rw [HE.out]), rfl⟩
    · have hd : decide ((63 : Int) < (s.size : Int)) = false := decide_eq_false (by omega)
      have hA := fun w => hasDash_any s w hp
      have hB := fun w => endDash_any s w hp (by omega)
      by_cases ha : (numsOf s).getD 0 0 = 45
      · have HE : Hid (Uq.nameOk (numsOf s) = false) := name_no fun h => h.2.2.1 ha
        rw [beq_iff_eq.2 ha] at hA
        clear ha hB
        go_enter Tryd.func38, Tryd.ntmps38
        go_wp2_with fail
        refine (hA _).mono ?_
        rintro e w' ⟨rfl, rfl⟩
        clear hA
        go_wp2
        go_ret
        exact ⟨ret_bool (by rw [HE.out]), rfl⟩
      · rw [beq_eq_false_iff_ne.2 ha] at hA
        by_cases hb : (numsOf s).getD (s.size - 1) 0 = 45
        · have HE : Hid (Uq.nameOk (numsOf s) = false) := name_no fun h => h.2.2.2.1 (by rw [Hlen.out]; exact hb)
          rw [beq_iff_eq.2 hb] at hB
          clear ha hb
          go_enter Tryd.func38, Tryd.ntmps38
          go_wp2_with fail
          refine (hA _).mono ?_
          rintro e w' ⟨rfl, rfl⟩
          clear hA
          go_wp2_with fail
          refine (hB _).mono ?_
          rintro e w' ⟨rfl, rfl⟩
          clear hB
          go_wp2
          go_ret
          exact ⟨ret_bool (by rw [HE.out]), rfl⟩
        · have HY : Hid ((∀ c ∈ numsOf s, Uq.nc c = true) → Uq.nameOk (numsOf s) = true) := fun h => name_yes (by rw [Hlen.out]; exact hp) (by rw [Hlen.out]; omega) ha (by rw [Hlen.out]; exact hb) h
          have HN : Hid ((¬ ∀ c ∈ numsOf s, Uq.nc c = true) → Uq.nameOk (numsOf s) = false) := fun h => name_no fun h' => h h'.2.2.2.2
          rw [beq_eq_false_iff_ne.2 hb] at hB
          clear ha hb
          go_enter Tryd.func38, Tryd.ntmps38
          go_wp2_with fail
          refine (hA _).mono ?_
          rintro e w' ⟨rfl, rfl⟩
          clear hA
          go_wp2_with fail
          refine (hB _).mono ?_
          rintro e w' ⟨rfl, rfl⟩
          clear hB
          go_wp2_with fail
          refine (nameSize_any s hs _).mono ?_
          rintro e w' ⟨⟨k, rfl, hk, hkk⟩, rfl⟩
          have HK := Lib.hid hkk
          clear hkk
          by_cases hks : k = s.size
          · have HE := Lib.hid (HY.out (HK.out.1 hks))
            have hd3 : ((k : Int) == (s.size : Int)) = true := by rw [beq_iff_eq]; omega
            clear hks
            go_wp2
            go_ret
            exact ⟨ret_bool (by rw [HE.out]), rfl⟩
          · have HE := Lib.hid (HN.out fun h => hks (HK.out.2 h))
            have hd3 : ((k : Int) == (s.size : Int)) = false := by rw [beq_eq_false_iff_ne]; omega
            clear hks
            go_wp2
            go_ret
            exact ⟨ret_bool (by rw [HE.out]), rfl⟩

set_option maxHeartbeats 2000000 in
set_option maxRecDepth 100000 in
theorem refName_any (s : ByteArray) (hs : s.size ≤ 4096) (w : World) :
    Calls Tryd.prog 43 #[.string s] w fun e w' => e = .returned (.bool (Uq.nameOk (numsOf s))) ∧ w = w' := by
  have Hlen := Lib.hid (numsOf_length s)
  by_cases hp : 1 ≤ s.size
  · have hd0 : decide ((s.size : Int) < 1) = false := decide_eq_false (by omega)
    by_cases hl : 63 < s.size
    · have hd : decide ((63 : Int) < (s.size : Int)) = true := decide_eq_true (by omega)
      have HE : Hid (Uq.nameOk (numsOf s) = false) := name_no fun h => by have := h.2.1; rw [Hlen.out] at this; omega
      go_enter Tryd.func43, Tryd.ntmps43
      go_wp2
      go_ret
      exact ⟨ret_bool (by rw [HE.out]), rfl⟩
    · have hd : decide ((63 : Int) < (s.size : Int)) = false := decide_eq_false (by omega)
      have h0 : 0 < s.size := by omega
      have hz : s.size - 1 < s.size := by omega
      have X0 := Lib.hid (nums_at s 0 h0)
      have XZ := Lib.hid (nums_at s (s.size - 1) hz)
      have hi : IntKind.i64.wrap ((s.size : Int) - 1) = ((s.size - 1 : Nat) : Int) := by
        rw [IntWalk.i64_in _ (by omega)]; omega
      by_cases ha : s[0].toNat = 45
      · have HE : Hid (Uq.nameOk (numsOf s) = false) := name_no fun h => h.2.2.1 (by rw [X0.out]; exact ha)
        have hda : ((s[0].toNat : Int) == 45) = true := by rw [beq_iff_eq]; omega
        clear ha hi
        go_enter Tryd.func43, Tryd.ntmps43
        go_wp2
        go_ret
        exact ⟨ret_bool (by rw [HE.out]), rfl⟩
      · have hda : ((s[0].toNat : Int) == 45) = false := by rw [beq_eq_false_iff_ne]; omega
        have Ha : Hid ((numsOf s).getD 0 0 ≠ 45) := by unfold Hid; rw [X0.out]; exact ha
        clear ha
        by_cases hb : s[s.size - 1].toNat = 45
        · have hdb : ((s[s.size - 1].toNat : Int) == 45) = true := by rw [beq_iff_eq]; omega
          have HE : Hid (Uq.nameOk (numsOf s) = false) := name_no fun h => h.2.2.2.1 (by rw [Hlen.out, XZ.out]; exact hb)
          clear hb hi
          go_enter Tryd.func43, Tryd.ntmps43
          go_wp2
          go_ret
          exact ⟨ret_bool (by rw [HE.out]), rfl⟩
        · have hdb : ((s[s.size - 1].toNat : Int) == 45) = false := by rw [beq_eq_false_iff_ne]; omega
          have HY : Hid ((∀ c ∈ numsOf s, Uq.nc c = true) → Uq.nameOk (numsOf s) = true) := fun h => name_yes (by rw [Hlen.out]; exact hp) (by rw [Hlen.out]; omega) Ha.out (by rw [Hlen.out, XZ.out]; exact hb) h
          have HN : Hid ((¬ ∀ c ∈ numsOf s, Uq.nc c = true) → Uq.nameOk (numsOf s) = false) := fun h => name_no fun h' => h h'.2.2.2.2
          clear hb hi
          go_enter Tryd.func43, Tryd.ntmps43
          go_wp2
          clear hda hdb
          go_loop [3] (fun i => ∃ k : Nat, i = .int .i64 k ∧ k ≤ s.size ∧ ∀ j, j < k → Uq.nc ((numsOf s).getD j 0) = true) (fun i => s.size - (intOf i).toNat)
          case atStart => exact ⟨0, rfl, Nat.zero_le _, fun j hj => by omega⟩
          case round =>
            obtain ⟨k, rfl, hk, hno⟩ := hrel
            have Hno := Lib.hid hno
            clear hno
            by_cases hlt : k < s.size
            · have hX := Lib.hid (nums_at s k hlt)
              have HN' : Hid (Uq.nc s[k].toNat = true → ∀ j, j < k + 1 → Uq.nc ((numsOf s).getD j 0) = true) := fun hc j hj => by
                rcases Nat.lt_or_eq_of_le (Nat.le_of_lt_succ hj) with h | h
                · exact Hno.out j h
                · rw [h, hX.out]; exact hc
              by_cases h1 : 97 ≤ s[k].toNat
              · by_cases h2 : s[k].toNat ≤ 122
                · have HC := Lib.hid (HN'.out ((Uq.nc_iff _).2 (by omega)))
                  by_cases h3 : 48 ≤ s[k].toNat
                  · go_wp2
                    go_round
                    case rel => exact ⟨k + 1, by go_num, by omega, HC.out⟩
                    case measure => simp [intOf]; omega
                  · omega
                · have HE : Hid (Uq.nameOk (numsOf s) = false) := HN.out fun h => by
                    have := h _ (getD_mem' (S := numsOf s) (k := k) (by rw [Hlen.out]; exact hlt))
                    rw [hX.out, Uq.nc_iff] at this
                    omega
                  have hd45 : ((s[k].toNat : Int) != 45) = true := by simp; omega
                  have h3 : 48 ≤ s[k].toNat := by omega
                  have h4 : ¬ s[k].toNat ≤ 57 := by omega
                  have d1 : decide ((s[k].toNat : Int) ≤ 122) = false := decide_eq_false (by omega)
                  have d2 : decide ((s[k].toNat : Int) ≤ 57) = false := decide_eq_false (by omega)
                  go_wp2
                  go_ret
                  exact ⟨ret_bool (by rw [HE.out]), rfl⟩
              · by_cases h3 : 48 ≤ s[k].toNat
                · by_cases h4 : s[k].toNat ≤ 57
                  · have HC := Lib.hid (HN'.out ((Uq.nc_iff _).2 (by omega)))
                    go_wp2
                    go_round
                    case rel => exact ⟨k + 1, by go_num, by omega, HC.out⟩
                    case measure => simp [intOf]; omega
                  · have HE : Hid (Uq.nameOk (numsOf s) = false) := HN.out fun h => by
                      have := h _ (getD_mem' (S := numsOf s) (k := k) (by rw [Hlen.out]; exact hlt))
                      rw [hX.out, Uq.nc_iff] at this
                      omega
                    have hd45 : ((s[k].toNat : Int) != 45) = true := by simp; omega
                    have d2 : decide ((s[k].toNat : Int) ≤ 57) = false := decide_eq_false (by omega)
                    go_wp2
                    go_ret
                    exact ⟨ret_bool (by rw [HE.out]), rfl⟩
                · by_cases h5 : s[k].toNat = 45
                  · have HC := Lib.hid (HN'.out ((Uq.nc_iff _).2 (by omega)))
                    have hd45 : ((s[k].toNat : Int) != 45) = false := by simp; omega
                    clear h5
                    go_wp2
                    go_round
                    case rel => exact ⟨k + 1, by go_num, by omega, HC.out⟩
                    case measure => simp [intOf]; omega
                  · have HE : Hid (Uq.nameOk (numsOf s) = false) := HN.out fun h => by
                      have := h _ (getD_mem' (S := numsOf s) (k := k) (by rw [Hlen.out]; exact hlt))
                      rw [hX.out, Uq.nc_iff] at this
                      omega
                    have hd45 : ((s[k].toNat : Int) != 45) = true := by simp; omega
                    clear h5
                    go_wp2
                    go_ret
                    exact ⟨ret_bool (by rw [HE.out]), rfl⟩
            · obtain rfl : k = s.size := by omega
              have hdl : decide ((s.size : Int) < (s.size : Int)) = false := by simp
              have HE : Hid (Uq.nameOk (numsOf s) = true) := HY.out (all_take (P := fun c => Uq.nc c = true) Hno.out (by rw [Hlen.out]; exact Nat.le_refl _))
              go_wp2
              go_ret
              exact ⟨ret_bool (by rw [HE.out]), rfl⟩
  · have hd0 : decide ((s.size : Int) < 1) = true := decide_eq_true (by omega)
    have HE : Hid (Uq.nameOk (numsOf s) = false) := name_no fun h => by have := h.1; rw [Hlen.out] at this; omega
    go_enter Tryd.func43, Tryd.ntmps43
    go_wp2
    go_ret
    exact ⟨ret_bool (by rw [HE.out]), rfl⟩
end Go.Proofs.YtejmkijnngkoaaaDoor
