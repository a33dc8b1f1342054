/-
  The contracts of rightPort and of the document's number.
-/
import Derived.Test.YtejmkijnngkoaaaDoorUName2
namespace Go.Proofs.YtejmkijnngkoaaaDoor
open Go.RowKit

theorem num_no' {S : List Nat} (h : ¬ Uq.NumOk S) : Uq.numOk S = false := decide_eq_false h
theorem val_lt : ∀ (n : Nat) (L : List Nat), L.length = n → Uq.Digits L → Uq.val L < 10 ^ n
  | 0, L, hn, _ => by
    have : L = [] := List.eq_nil_of_length_eq_zero hn
    subst this
    decide
  | n + 1, L, hn, hd => by
    rcases Uq.snoc_cases L with rfl | ⟨l, c, rfl⟩
    · simp at hn
    · have hc := hd c (by simp)
      have ih := val_lt n l (by simpa using hn) fun x hx => hd x (by simp [hx])
      rw [Uq.val_snoc, Nat.pow_succ]
      omega
theorem val_small {L : List Nat} (h : Uq.Digits L) (hl : L.length ≤ 4) : Uq.val L ≤ 9999 := by
  have h1 := val_lt L.length L rfl h
  have h2 := Nat.pow_le_pow_right (n := 10) (by decide) hl
  have e : (10 : Nat) ^ 4 = 10000 := rfl
  omega
theorem digits_take {S : List Nat} {k : Nat} (h : ∀ j, j < k → 48 ≤ S.getD j 0 ∧ S.getD j 0 ≤ 57) (hk : k ≤ S.length) : Uq.Digits (S.take k) := by
  intro c hc
  obtain ⟨j, hj, rfl⟩ := List.getElem_of_mem hc
  rw [List.length_take] at hj
  have := h j (by omega)
  rw [List.getD_eq_getElem?_getD, List.getElem?_eq_getElem (by omega)] at this
  simpa using this
theorem val_take {S : List Nat} {k : Nat} (hk : k < S.length) : Uq.val (S.take (k + 1)) = Uq.val (S.take k) * 10 + (S.getD k 0 - 48) := by
  rw [List.take_succ_eq_append_getElem hk, Uq.val_snoc]
  simp [List.getD_eq_getElem?_getD, List.getElem?_eq_getElem hk]

set_option maxHeartbeats 2000000 in
set_option maxRecDepth 100000 in
theorem refNumber_any (s : ByteArray) (hs : s.size ≤ 4096) (w : World) :
    Calls Tryd.prog 41 #[.string s] w fun e w' => e = .returned (.bool (Uq.numOk (numsOf s))) ∧ w = w' := by
  have Hlen := Lib.hid (numsOf_length s)
  by_cases hp : 1 ≤ s.size
  · have hd0 : decide ((s.size : Int) < 1) = false := decide_eq_false (by omega)
    by_cases hl : 5 < s.size
    · have hd : decide ((5 : Int) < (s.size : Int)) = true := decide_eq_true (by omega)
      have HE : Hid (Uq.numOk (numsOf s) = false) := num_no' fun h => by have := h.2.1; rw [Hlen.out] at this; omega
      go_enter Tryd.func41, Tryd.ntmps41
      go_wp2
      go_ret
      exact ⟨ret_bool (by rw [HE.out]), rfl⟩
    · have hd : decide ((5 : Int) < (s.size : Int)) = false := decide_eq_false (by omega)
      have h0 : 0 < s.size := by omega
      have X0 := Lib.hid (nums_at s 0 h0)
      by_cases ha : s[0].toNat = 48
      · have HE : Hid (Uq.numOk (numsOf s) = false) := num_no' fun h => h.2.2.1 (by rw [X0.out]; exact ha)
        have hda : ((s[0].toNat : Int) == 48) = true := by rw [beq_iff_eq]; omega
        clear ha
        go_enter Tryd.func41, Tryd.ntmps41
        go_wp2
        go_ret
        exact ⟨ret_bool (by rw [HE.out]), rfl⟩
      · have hda : ((s[0].toNat : Int) == 48) = false := by rw [beq_eq_false_iff_ne]; omega
        have Ha : Hid ((numsOf s).getD 0 0 ≠ 48) := by unfold Hid; rw [X0.out]; exact ha
        clear ha
        go_enter Tryd.func41, Tryd.ntmps41
        go_wp2
        clear hda
        go_loop [3, 4] (fun v i => ∃ k n : Nat, i = .int .i64 k ∧ v = .int .i64 n ∧ k ≤ s.size ∧ n ≤ 99999 ∧ n = Uq.val ((numsOf s).take k) ∧ ∀ j, j < k → 48 ≤ (numsOf s).getD j 0 ∧ (numsOf s).getD j 0 ≤ 57) (fun _ i => s.size - (intOf i).toNat)
        case atStart => exact ⟨0, 0, rfl, rfl, Nat.zero_le _, Nat.zero_le _, rfl, fun j hj => by omega⟩
        case round =>
          obtain ⟨k, n, rfl, rfl, hk, hn9, hn, hno⟩ := hrel
          have Hno := Lib.hid hno
          have Hn := Lib.hid hn
          clear hno hn
          by_cases hlt : k < s.size
          · have hX := Lib.hid (nums_at s k hlt)
            by_cases h1 : 48 ≤ s[k].toNat
            · by_cases h2 : s[k].toNat ≤ 57
              · have HN : Hid (∀ j, j < k + 1 → 48 ≤ (numsOf s).getD j 0 ∧ (numsOf s).getD j 0 ≤ 57) := fun j hj => by
                  rcases Nat.lt_or_eq_of_le (Nat.le_of_lt_succ hj) with h | h
                  · exact Hno.out j h
                  · rw [h, hX.out]; exact ⟨h1, h2⟩
                have hsm : n ≤ 9999 := by
                  rw [Hn.out]
                  exact val_small (digits_take Hno.out (by rw [Hlen.out]; omega)) (by rw [List.length_take]; omega)
                have HV := Lib.hid (val_take (S := numsOf s) (k := k) (by rw [Hlen.out]; exact hlt))
                go_wp2
                go_round
                case rel => exact ⟨k + 1, n * 10 + (s[k].toNat - 48), by go_num, by congr 1; omega, by omega, by omega, by rw [HV.out, ← Hn.out, hX.out], HN.out⟩
                case measure => simp [intOf]; omega
              · have HE : Hid (Uq.numOk (numsOf s) = false) := num_no' fun h => by
                  have := h.2.2.2.1 _ (getD_mem' (S := numsOf s) (k := k) (by rw [Hlen.out]; exact hlt))
                  rw [hX.out] at this
                  omega
                go_wp2
                go_ret
                exact ⟨ret_bool (by rw [HE.out]), rfl⟩
            · have HE : Hid (Uq.numOk (numsOf s) = false) := num_no' fun h => by
                have := h.2.2.2.1 _ (getD_mem' (S := numsOf s) (k := k) (by rw [Hlen.out]; exact hlt))
                rw [hX.out] at this
                omega
              go_wp2
              go_ret
              exact ⟨ret_bool (by rw [HE.out]), rfl⟩
          · obtain rfl : k = s.size := by omega
            have hdl : decide ((s.size : Int) < (s.size : Int)) = false := by simp
            have hT := List.take_of_length_le (l := numsOf s) (i := s.size) (by rw [Hlen.out]; exact Nat.le_refl _)
            have HD : Hid (Uq.Digits (numsOf s)) := by
              have := digits_take Hno.out (by rw [Hlen.out]; exact Nat.le_refl _)
              rwa [hT] at this
            have HE : Hid (Uq.numOk (numsOf s) = decide ((n : Int) ≤ 65535)) := by
              unfold Hid
              rw [hT] at Hn
              unfold Uq.numOk
              rw [decide_eq_decide]
              constructor
              · intro h; have := h.2.2.2.2; rw [← Hn.out] at this; omega
              · intro h; exact ⟨by rw [Hlen.out]; exact hp, by rw [Hlen.out]; omega, Ha.out, HD.out, by rw [← Hn.out]; omega⟩
            clear hT
            go_wp2
            go_ret
            exact ⟨ret_bool (by rw [HE.out]), rfl⟩
  · have hd0 : decide ((s.size : Int) < 1) = true := decide_eq_true (by omega)
    have HE : Hid (Uq.numOk (numsOf s) = false) := num_no' fun h => by have := h.1; rw [Hlen.out] at this; omega
    go_enter Tryd.func41, Tryd.ntmps41
    go_wp2
    go_ret
    exact ⟨ret_bool (by rw [HE.out]), rfl⟩

set_option maxHeartbeats 1000000 in
set_option maxRecDepth 100000 in
theorem rightPort_any (s : ByteArray) (hs : s.size ≤ 4096) (w : World) (hH : Held w) :
    Calls Tryd.prog 37 #[.string s] w fun e w' => e = .returned (.bool (Uq.numOk (numsOf s))) ∧ Below w.heap.size w w' := by
  have HH := Lib.hid hH
  have hA := atoi_any s w hs hH
  clear hH
  go_enter Tryd.func37, Tryd.ntmps37
  go_wp2_with fail
  refine hA.mono ?_
  rintro e w1 ⟨hb1, hcase⟩
  clear hA
  rcases hcase with ⟨v, hv, b0, b1, rfl⟩ | ⟨hn, v, t, p, rfl⟩
  · have HI := fun w h => itoa_any v b0 b1 w h
    have HH1 := Lib.hid (HH.out.below hb1)
    by_cases c1 : 1 ≤ v
    · by_cases c2 : v ≤ 65535
      · have HE := Lib.hid ((itoa_beq v s).trans (Uq.num_iff (l := s.data.toList) hv c1 c2).symm)
        have hI := HI w1 HH1.out
        obtain ⟨I, eI⟩ : ∃ I, (⟨(Lib.itoa v).toArray⟩ : ByteArray) = I := ⟨_, rfl⟩
        rw [eI] at hI HE
        clear HI hv eI
        go_wp2_with fail
        refine hI.mono ?_
        rintro e w2 ⟨rfl, hb2⟩
        have hb02 := hb1.trans (hb2.mono hb1.size)
        clear hI hb1 hb2
        go_wp2
        go_ret
        exact ⟨ret_bool (by rw [HE.out]; rfl), hb02⟩
      · have HE := Lib.hid (Uq.num_no (l := s.data.toList) fun v' h' => by
          rw [hv] at h'
          injection h' with h'
          subst h'
          exact fun h => c2 h.2)
        have d2 : decide (v ≤ 65535) = false := decide_eq_false c2
        clear HI hv
        go_wp2
        go_ret
        exact ⟨ret_bool HE.out.symm, hb1⟩
    · have HE := Lib.hid (Uq.num_no (l := s.data.toList) fun v' h' => by
        rw [hv] at h'
        injection h' with h'
        subst h'
        exact fun h => c1 h.1)
      have d1 : decide (1 ≤ v) = false := decide_eq_false c1
      clear HI hv
      go_wp2
      go_ret
      exact ⟨ret_bool HE.out.symm, hb1⟩
  · have HE := Lib.hid hn
    clear hn
    go_wp2
    go_ret
    exact ⟨ret_bool (by rw [HE.out]), hb1⟩
end Go.Proofs.YtejmkijnngkoaaaDoor
