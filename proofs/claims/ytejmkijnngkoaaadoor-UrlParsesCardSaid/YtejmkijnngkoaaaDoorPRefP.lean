/-
  The contract of the document's pair.
-/
import Derived.Test.YtejmkijnngkoaaaDoorPPart
namespace Go.Proofs.YtejmkijnngkoaaaDoor
open Go.RowKit

theorem take_free {S : List Nat} {k : Nat} (h : ∀ j, j < k → S.getD j 0 ≠ 61) (hk : k ≤ S.length) : ∀ x ∈ S.take k, x ≠ 61 := by
  intro x hx
  obtain ⟨j, hj, rfl⟩ := List.getElem_of_mem hx
  rw [List.length_take] at hj
  have := h j (by omega)
  rw [List.getD_eq_getElem?_getD, List.getElem?_eq_getElem (by omega)] at this
  simpa using this

/-- Behind the loop: what lies ahead of the first =, what behind it. -/
theorem refPair_tail (s : ByteArray) (k m : Nat) (F B : List Nat) (hF : numsOf (s.extract 0 k) = F) (hB : numsOf (s.extract m s.size) = B) (eF : Pq.front (numsOf s) = F) (eB : Pq.behind (numsOf s) = B) (hs : s.size ≤ 4096) :
    (∀ w, Calls Tryd.prog 63 #[.string (s.extract 0 k), .bool true] w fun e w' => UnEnd true F w e w') ∧ (∀ w, Calls Tryd.prog 63 #[.string (s.extract m s.size), .bool true] w fun e w' => UnEnd true B w e w') ∧
    (∀ a b, Pq.un true F = some a → Pq.un true B = some b → Pq.pair (numsOf s) = some (a, b)) ∧ (Pq.un true F = none → Pq.pair (numsOf s) = none) ∧ (Pq.un true B = none → Pq.pair (numsOf s) = none) := by
  subst eF; subst eB
  refine ⟨fun w => ?_, fun w => ?_, fun a b ha hb => Pq.pair_mk ha hb, Pq.pair_no1, Pq.pair_no2⟩
  · have h := refUnescape_any (s.extract 0 k) true w (by rw [ByteArray.size_extract]; omega)
    rwa [hF] at h
  · have h := refUnescape_any (s.extract m s.size) true w (by rw [ByteArray.size_extract]; omega)
    rwa [hB] at h

set_option maxHeartbeats 2000000 in
set_option maxRecDepth 100000 in
theorem refPair_any (s : ByteArray) (w : World) (hs : s.size ≤ 4096) :
    Calls Tryd.prog 46 #[.string s] w fun e w' => PairEnd (numsOf s) w e w' := by
  have Hlen := Lib.hid (numsOf_length s)
  go_enter Tryd.func46, Tryd.ntmps46
  go_wp2_with fail
  go_loop [4] (fun i => ∃ k : Nat, i = .int .i64 k ∧ k ≤ s.size ∧ ∀ j, j < k → (numsOf s).getD j 0 ≠ 61) (fun i => s.size - (intOf i).toNat)
  case atStart => exact ⟨0, rfl, Nat.zero_le _, fun j hj => by omega⟩
  case round =>
    obtain ⟨k, rfl, hk, hno⟩ := hrel
    have Hno := Lib.hid hno
    clear hno
    by_cases hlt : k < s.size
    · have hX := Lib.hid (nums_at s k hlt)
      by_cases h61 : s[k].toNat = 61
      · have hd1 : ((s[k].toNat : Int) != 61) = false := by simp; omega
        have hd2 : ((s[k].toNat : Int) == 61) = true := by rw [beq_iff_eq]; omega
        have hdl : decide ((k : Int) < (s.size : Int)) = true := decide_eq_true (by omega)
        have hS : numsOf s = (numsOf s).take k ++ 61 :: (numsOf s).drop (k + 1) := by
          have h := Pq.drop_at (numsOf s) (j := k) (by rw [Hlen.out]; exact hlt)
          rw [hX.out, h61] at h
          rw [← h, List.take_append_drop]
        obtain ⟨e1, e2⟩ := Pq.front_eq (take_free Hno.out (by rw [Hlen.out]; exact hk)) hS
        obtain ⟨hF, hB, hp, hn1, hn2⟩ := refPair_tail s k (k + 1) _ _ (nums_to s k) (nums_from s (k + 1)) e1 e2 hs
        clear h61 hS e1 e2 Hno
        have HP := Lib.hid hp
        have HN1 := Lib.hid hn1
        have HN2 := Lib.hid hn2
        clear hp hn1 hn2
        generalize eF : List.take k (numsOf s) = F at *
        generalize eB : List.drop (k + 1) (numsOf s) = B at *
        clear eF eB
        go_wp2_with fail
        refine (hF _).mono ?_
        rintro e w2 ⟨rfl, hb2⟩
        clear hF
        have hbs := hb2.size
        go_wp2_with fail
        refine (hB _).mono ?_
        rintro e w3 ⟨rfl, hb3⟩
        have hb03 := hb2.trans (hb3.mono hb2.size)
        clear hB hb2 hb3
        obtain ⟨k0, k1, f0, f1⟩ := keep2 (Lies.made w 34 [.string ByteArray.empty, .string ByteArray.empty]) hb03
        have hL3 := (Lies.made w 34 [.string ByteArray.empty, .string ByteArray.empty]).below hb03 (by simp)
        cases hu : Pq.un true F with
        | none =>
          have HN := Lib.hid (HN1.out hu)
          clear hu HN1 HN2 HP
          cases hu2 : Pq.un true B with
          | none =>
            clear hu2
            go_wp2
            obtain ⟨_, q1, q2⟩ := two_put hL3 (.string (strOf [])) (.string (strOf []))
            exact bodyPost_ret (v := .tuple #[.agg #[.string (strOf []), .string (strOf [])], .bool false]) (by simp [results, Tryd.results46, go_sem, q1, q2]) rfl ⟨below_two rfl hb03, .inr ⟨HN.out, _, _, rfl⟩⟩
          | some b =>
            clear hu2
            go_wp2
            obtain ⟨_, q1, q2⟩ := two_put hL3 (.string (strOf [])) (.string (strOf b))
            exact bodyPost_ret (v := .tuple #[.agg #[.string (strOf []), .string (strOf b)], .bool false]) (by simp [results, Tryd.results46, go_sem, q1, q2]) rfl ⟨below_two rfl hb03, .inr ⟨HN.out, _, _, rfl⟩⟩
        | some a =>
          have HU := Lib.hid hu
          clear hu
          cases hu2 : Pq.un true B with
          | none =>
            have HN := Lib.hid (HN2.out hu2)
            clear hu2 HN1 HN2 HP
            go_wp2
            obtain ⟨_, q1, q2⟩ := two_put hL3 (.string (strOf a)) (.string (strOf []))
            exact bodyPost_ret (v := .tuple #[.agg #[.string (strOf a), .string (strOf [])], .bool false]) (by simp [results, Tryd.results46, go_sem, q1, q2]) rfl ⟨below_two rfl hb03, .inr ⟨HN.out, _, _, rfl⟩⟩
          | some b =>
            have HN := Lib.hid (HP.out a b HU.out hu2)
            clear hu2 HN1 HN2 HP
            go_wp2
            obtain ⟨_, q1, q2⟩ := two_put hL3 (.string (strOf a)) (.string (strOf b))
            exact bodyPost_ret (v := .tuple #[.agg #[.string (strOf a), .string (strOf b)], .bool true]) (by simp [results, Tryd.results46, go_sem, q1, q2]) rfl ⟨below_two rfl hb03, .inl ⟨(a, b), HN.out, rfl⟩⟩
      · have hd1 : ((s[k].toNat : Int) != 61) = true := by simp; omega
        have hd2 : ((s[k].toNat : Int) == 61) = false := by rw [beq_eq_false_iff_ne]; omega
        have HN : Hid (∀ j, j < k + 1 → (numsOf s).getD j 0 ≠ 61) := fun j hj => by
          rcases Nat.lt_or_eq_of_le (Nat.le_of_lt_succ hj) with h | h
          · exact Hno.out j h
          · rw [h, hX.out]; exact h61
        clear h61
        go_wp2
        go_round
        case rel => exact ⟨k + 1, by go_num, by omega, HN.out⟩
        case measure => simp [intOf]; omega
    · obtain rfl : k = s.size := by omega
      have hdl : decide ((s.size : Int) < (s.size : Int)) = false := by simp
      have hfree : ∀ x ∈ numsOf s, x ≠ 61 := by
        have := take_free Hno.out (by rw [Hlen.out]; exact Nat.le_refl _)
        rwa [List.take_of_length_le (by rw [Hlen.out]; exact Nat.le_refl _)] at this
      obtain ⟨e1, e2⟩ := Pq.front_none hfree
      obtain ⟨B, eB⟩ : ∃ B, Pq.behind (numsOf s) = B := ⟨_, rfl⟩
      obtain ⟨_, hB, hp, hn1, hn2⟩ := refPair_tail s s.size s.size (numsOf s) B (by rw [nums_to, List.take_of_length_le (by rw [Hlen.out]; exact Nat.le_refl _)]) (by rw [nums_from, ← eB, e2]; exact List.drop_eq_nil_of_le (by rw [Hlen.out]; exact Nat.le_refl _)) e1 eB hs
      clear hfree e1 e2 eB Hno
      have HP := Lib.hid hp
      have HN1 := Lib.hid hn1
      have HN2 := Lib.hid hn2
      clear hp hn1 hn2
      have hF : ∀ w, Calls Tryd.prog 63 #[.string s, .bool true] w fun e w' => UnEnd true (numsOf s) w e w' := fun w => refUnescape_any s true w (by omega)
      have hB : ∀ w, Calls Tryd.prog 63 #[.string ByteArray.empty, .bool true] w fun e w' => UnEnd true B w e w' := fun w => by
        have e : s.extract s.size s.size = ByteArray.empty := by simp
        have := hB w
        rwa [e] at this
      go_wp2_with fail
      refine (hF _).mono ?_
      rintro e w2 ⟨rfl, hb2⟩
      clear hF
      have hbs := hb2.size
      go_wp2_with fail
      refine (hB _).mono ?_
      rintro e w3 ⟨rfl, hb3⟩
      have hb03 := hb2.trans (hb3.mono hb2.size)
      clear hB hb2 hb3
      obtain ⟨k0, k1, f0, f1⟩ := keep2 (Lies.made w 34 [.string ByteArray.empty, .string ByteArray.empty]) hb03
      have hL3 := (Lies.made w 34 [.string ByteArray.empty, .string ByteArray.empty]).below hb03 (by simp)
      cases hu : Pq.un true (numsOf s) with
      | none =>
        have HN := Lib.hid (HN1.out hu)
        clear hu HN1 HN2 HP
        cases hu2 : Pq.un true B with
        | none =>
          clear hu2
          go_wp2
          obtain ⟨_, q1, q2⟩ := two_put hL3 (.string (strOf [])) (.string (strOf []))
          exact bodyPost_ret (v := .tuple #[.agg #[.string (strOf []), .string (strOf [])], .bool false]) (by simp [results, Tryd.results46, go_sem, q1, q2]) rfl ⟨below_two rfl hb03, .inr ⟨HN.out, _, _, rfl⟩⟩
        | some b =>
          clear hu2
          go_wp2
          obtain ⟨_, q1, q2⟩ := two_put hL3 (.string (strOf [])) (.string (strOf b))
          exact bodyPost_ret (v := .tuple #[.agg #[.string (strOf []), .string (strOf b)], .bool false]) (by simp [results, Tryd.results46, go_sem, q1, q2]) rfl ⟨below_two rfl hb03, .inr ⟨HN.out, _, _, rfl⟩⟩
      | some a =>
        have HU := Lib.hid hu
        clear hu
        cases hu2 : Pq.un true B with
        | none =>
          have HN := Lib.hid (HN2.out hu2)
          clear hu2 HN1 HN2 HP
          go_wp2
          obtain ⟨_, q1, q2⟩ := two_put hL3 (.string (strOf a)) (.string (strOf []))
          exact bodyPost_ret (v := .tuple #[.agg #[.string (strOf a), .string (strOf [])], .bool false]) (by simp [results, Tryd.results46, go_sem, q1, q2]) rfl ⟨below_two rfl hb03, .inr ⟨HN.out, _, _, rfl⟩⟩
        | some b =>
          have HN := Lib.hid (HP.out a b HU.out hu2)
          clear hu2 HN1 HN2 HP
          go_wp2
          obtain ⟨_, q1, q2⟩ := two_put hL3 (.string (strOf a)) (.string (strOf b))
          exact bodyPost_ret (v := .tuple #[.agg #[.string (strOf a), .string (strOf b)], .bool true]) (by simp [results, Tryd.results46, go_sem, q1, q2]) rfl ⟨below_two rfl hb03, .inl ⟨(a, b), HN.out, rfl⟩⟩
end Go.Proofs.YtejmkijnngkoaaaDoor
