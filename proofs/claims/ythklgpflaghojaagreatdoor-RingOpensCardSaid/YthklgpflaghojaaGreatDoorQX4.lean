/-
  QX4: JREsc JRT JRL JRBox JROut JRWord, side by side.
-/
import Derived.Test.YthklgpflaghojaaGreatDoorQX1
import Derived.Test.YthklgpflaghojaaGreatDoorQC
import Derived.Test.YthklgpflaghojaaGreatDoorQS
import Derived.Test.YthklgpflaghojaaGreatDoorQA

/-
  The document's escape.
-/
namespace Go.Proofs.YthklgpflaghojaaGreatDoor
open Go.RowKit

/-- How escape ends. -/
def EscEnd (S : List Nat) (i : Nat) (w : World) (e : Ending) (w' : World) : Prop := w = w' ∧ ∃ r nx : Int, e = .returned (.tuple #[.int .i64 r, .int .i64 nx]) ∧ match Jq.escape (S.drop i) with
  | none => r < 0
  | some (x, rest) => r = (x : Int) ∧ x ≤ 1114111 ∧ ∃ k : Nat, nx = (k : Int) ∧ i < k ∧ k ≤ S.length ∧ rest = S.drop k
theorem drop_of {S : List Nat} {i c : Nat} (h : S.getD i 0 = c) (hc : c ≠ 0) : i < S.length ∧ S.drop i = c :: S.drop (i + 1) := by
  have hi : i < S.length := by
    rcases Nat.lt_or_ge i S.length with h1 | h1
    · exact h1
    · exfalso; rw [List.getD_eq_getElem?_getD, List.getElem?_eq_none h1] at h; exact hc h.symm
  refine ⟨hi, ?_⟩
  rw [List.drop_eq_getElem_cons hi]
  rw [List.getD_eq_getElem?_getD, List.getElem?_eq_getElem hi] at h
  simp at h
  rw [h]
theorem head_of {S : List Nat} {i c x : Nat} {r : List Nat} (h : S.getD i 0 = c) (hd : S.drop i = x :: r) : x = c := by
  have h0 : (S.drop i)[0]? = some x := by rw [hd]; rfl
  rw [List.getElem?_drop, Nat.add_zero] at h0
  rw [List.getD_eq_getElem?_getD, h0] at h
  exact h
theorem take_two {S : List Nat} {i : Nat} : (S.drop i).take 2 = [92, 117] ↔ S.getD i 0 = 92 ∧ S.getD (i + 1) 0 = 117 := by
  constructor
  · intro h
    have h0 : (S.drop i)[0]? = some 92 := (List.getElem?_take_of_lt (show 0 < 2 by decide)).symm.trans (by rw [h]; rfl)
    have h1 : (S.drop i)[1]? = some 117 := (List.getElem?_take_of_lt (show 1 < 2 by decide)).symm.trans (by rw [h]; rfl)
    rw [List.getElem?_drop] at h0 h1
    rw [List.getD_eq_getElem?_getD, List.getD_eq_getElem?_getD]
    exact ⟨by rw [show i = i + 0 from rfl, h0]; rfl, by rw [h1]; rfl⟩
  · rintro ⟨h0, h1⟩
    rw [(drop_of h0 (by decide)).2, (drop_of h1 (by decide)).2]
    rfl
theorem esc_pair {S : List Nat} {i n : Nat} (h : S.getD i 0 = 117) (h4 : Jq.four (S.drop (i + 1)) = some n) (hn : ¬ (n < 55296 ∨ 57343 < n)) :
    Jq.escape (S.drop i) = if n ≤ 56319 ∧ S.getD (i + 5) 0 = 92 ∧ S.getD (i + 6) 0 = 117 then (match Jq.four (S.drop (i + 7)) with
      | none => none
      | some m => if 56320 ≤ m ∧ m ≤ 57343 then some (65536 + (n - 55296) * 1024 + (m - 56320), S.drop (i + 11)) else none) else none := by
  rw [(drop_of h (by decide)).2]
  simp only [Jq.escape]
  rw [h4]
  simp only [hn, if_false, List.drop_drop]
  rw [show i + 1 + 4 = i + 5 from by omega, show i + 1 + 6 = i + 7 from by omega, show i + 1 + 10 = i + 11 from by omega]
  have e := take_two (S := S) (i := i + 5)
  by_cases hc : n ≤ 56319 ∧ S.getD (i + 5) 0 = 92 ∧ S.getD (i + 6) 0 = 117
  · rw [if_pos hc]
    rw [if_neg (by decide), if_neg (by decide), if_neg (by decide), if_neg (by decide), if_neg (by decide), if_neg (by decide), if_pos trivial, if_pos ⟨hc.1, e.2 hc.2⟩]
    cases Jq.four (S.drop (i + 7)) <;> rfl
  · rw [if_neg hc]
    rw [if_neg (by decide), if_neg (by decide), if_neg (by decide), if_neg (by decide), if_neg (by decide), if_neg (by decide), if_pos trivial, if_neg (fun hh => hc ⟨hh.1, e.1 hh.2⟩)]
theorem four_long {l : List Nat} {n : Nat} (h : Jq.four l = some n) : 4 ≤ l.length ∧ n < 65536 := by
  match l with
  | [] | [_] | [_, _] | [_, _, _] => simp [Jq.four] at h
  | a :: b :: c :: d :: r =>
    simp only [Jq.four] at h
    split at h
    · rename_i hh
      injection h with h
      exact ⟨by simp, by omega⟩
    · cases h
theorem esc_one {S : List Nat} {i c x : Nat} {w : World} (h : S.getD i 0 = c) (hc : c ≠ 0) (he : ∀ r, Jq.escape (c :: r) = some (x, r)) (hx : x ≤ 1114111) : EscEnd S i w (.returned (.tuple #[.int .i64 (x : Int), .int .i64 ((i + 1 : Nat) : Int)])) w := by
  obtain ⟨h1, h2⟩ := drop_of h hc
  refine ⟨rfl, _, _, rfl, ?_⟩
  rw [h2, he]
  exact ⟨rfl, hx, i + 1, rfl, Nat.lt_succ_self _, h1, rfl⟩
theorem esc_none {S : List Nat} {i : Nat} {w : World} {r nx : Int} (h : Jq.escape (S.drop i) = none) (hr : r < 0) : EscEnd S i w (.returned (.tuple #[.int .i64 r, .int .i64 nx])) w := by
  refine ⟨rfl, _, _, rfl, ?_⟩
  rw [h]
  exact hr
theorem esc_unit {S : List Nat} {i n : Nat} {w : World} (h : S.getD i 0 = 117) (h4 : Jq.four (S.drop (i + 1)) = some n) (hn : n < 55296 ∨ 57343 < n) : EscEnd S i w (.returned (.tuple #[.int .i64 (n : Int), .int .i64 ((i + 5 : Nat) : Int)])) w := by
  obtain ⟨h1, h2⟩ := drop_of h (by decide)
  obtain ⟨h3, h5⟩ := four_long h4
  rw [List.length_drop] at h3
  refine ⟨rfl, _, _, rfl, ?_⟩
  rw [h2]
  simp only [Jq.escape]
  rw [h4]
  simp only [hn, if_true, List.drop_drop]
  exact ⟨rfl, by omega, i + 5, rfl, by omega, by omega, rfl⟩
theorem esc_four_none {S : List Nat} {i : Nat} (h : S.getD i 0 = 117) (h4 : Jq.four (S.drop (i + 1)) = none) : Jq.escape (S.drop i) = none := by
  rw [(drop_of h (by decide)).2]
  simp only [Jq.escape]
  rw [h4]
  simp

set_option maxHeartbeats 8000000 in
set_option maxRecDepth 100000 in
theorem refEscape_any (s : ByteArray) (i : Nat) (hi : i ≤ 4611686018427387000) (w : World) :
    Calls Tryz.prog 129 #[.string s, .int .i64 i] w (EscEnd (numsOf s) i w) := by
  have hA := at_any s i w
  obtain ⟨S, eS⟩ : ∃ S, numsOf s = S := ⟨_, rfl⟩
  obtain ⟨c, ec⟩ : ∃ c, S.getD i 0 = c := ⟨_, rfl⟩
  have hF := fun (k : Nat) (hk : k ≤ 100) (w : World) => four_any s (i + k) (by omega) w
  have hA2 := fun (k : Nat) (w : World) => at_any s (i + k) w
  rw [eS] at hA hF hA2
  rw [ec] at hA
  rw [eS]
  have HC := Lib.hid ec
  clear ec eS
  by_cases h34 : c = 34
  · subst h34
    have HE : Hid (EscEnd S i w (.returned (.tuple #[.int .i64 (34 : Int), .int .i64 ((i + 1 : Nat) : Int)])) w) := esc_one (x := 34) HC.out (by decide) (fun r => rfl) (by decide)
    clear hF hA2
    go_enter Tryz.func129, Tryz.ntmps129
    go_wp2_with fail
    refine hA.mono ?_
    rintro e w' ⟨rfl, rfl⟩
    go_wp2
    go_ret2
    exact HE.out
  by_cases h92 : c = 92
  · subst h92
    have HE : Hid (EscEnd S i w (.returned (.tuple #[.int .i64 (92 : Int), .int .i64 ((i + 1 : Nat) : Int)])) w) := esc_one (x := 92) HC.out (by decide) (fun r => rfl) (by decide)
    clear hF hA2
    go_enter Tryz.func129, Tryz.ntmps129
    go_wp2_with fail
    refine hA.mono ?_
    rintro e w' ⟨rfl, rfl⟩
    go_wp2
    go_ret2
    exact HE.out
  by_cases h47 : c = 47
  · subst h47
    have HE : Hid (EscEnd S i w (.returned (.tuple #[.int .i64 (47 : Int), .int .i64 ((i + 1 : Nat) : Int)])) w) := esc_one (x := 47) HC.out (by decide) (fun r => rfl) (by decide)
    clear hF hA2
    go_enter Tryz.func129, Tryz.ntmps129
    go_wp2_with fail
    refine hA.mono ?_
    rintro e w' ⟨rfl, rfl⟩
    go_wp2
    go_ret2
    exact HE.out
  by_cases h98 : c = 98
  · subst h98
    have HE : Hid (EscEnd S i w (.returned (.tuple #[.int .i64 (8 : Int), .int .i64 ((i + 1 : Nat) : Int)])) w) := esc_one (x := 8) HC.out (by decide) (fun r => rfl) (by decide)
    clear hF hA2
    go_enter Tryz.func129, Tryz.ntmps129
    go_wp2_with fail
    refine hA.mono ?_
    rintro e w' ⟨rfl, rfl⟩
    go_wp2
    go_ret2
    exact HE.out
  by_cases h102 : c = 102
  · subst h102
    have HE : Hid (EscEnd S i w (.returned (.tuple #[.int .i64 (12 : Int), .int .i64 ((i + 1 : Nat) : Int)])) w) := esc_one (x := 12) HC.out (by decide) (fun r => rfl) (by decide)
    clear hF hA2
    go_enter Tryz.func129, Tryz.ntmps129
    go_wp2_with fail
    refine hA.mono ?_
    rintro e w' ⟨rfl, rfl⟩
    go_wp2
    go_ret2
    exact HE.out
  by_cases h110 : c = 110
  · subst h110
    have HE : Hid (EscEnd S i w (.returned (.tuple #[.int .i64 (10 : Int), .int .i64 ((i + 1 : Nat) : Int)])) w) := esc_one (x := 10) HC.out (by decide) (fun r => rfl) (by decide)
    clear hF hA2
    go_enter Tryz.func129, Tryz.ntmps129
    go_wp2_with fail
    refine hA.mono ?_
    rintro e w' ⟨rfl, rfl⟩
    go_wp2
    go_ret2
    exact HE.out
  by_cases h114 : c = 114
  · subst h114
    have HE : Hid (EscEnd S i w (.returned (.tuple #[.int .i64 (13 : Int), .int .i64 ((i + 1 : Nat) : Int)])) w) := esc_one (x := 13) HC.out (by decide) (fun r => rfl) (by decide)
    clear hF hA2
    go_enter Tryz.func129, Tryz.ntmps129
    go_wp2_with fail
    refine hA.mono ?_
    rintro e w' ⟨rfl, rfl⟩
    go_wp2
    go_ret2
    exact HE.out
  by_cases h116 : c = 116
  · subst h116
    have HE : Hid (EscEnd S i w (.returned (.tuple #[.int .i64 (9 : Int), .int .i64 ((i + 1 : Nat) : Int)])) w) := esc_one (x := 9) HC.out (by decide) (fun r => rfl) (by decide)
    clear hF hA2
    go_enter Tryz.func129, Tryz.ntmps129
    go_wp2_with fail
    refine hA.mono ?_
    rintro e w' ⟨rfl, rfl⟩
    go_wp2
    go_ret2
    exact HE.out
  have t34 : ((c : Int) == 34) = false := by simp; omega
  have t92 : ((c : Int) == 92) = false := by simp; omega
  have t47 : ((c : Int) == 47) = false := by simp; omega
  have t98 : ((c : Int) == 98) = false := by simp; omega
  have t102 : ((c : Int) == 102) = false := by simp; omega
  have t110 : ((c : Int) == 110) = false := by simp; omega
  have t114 : ((c : Int) == 114) = false := by simp; omega
  have t116 : ((c : Int) == 116) = false := by simp; omega
  by_cases h117 : c = 117
  rotate_left
  · have t117 : ((c : Int) == 117) = false := by simp; omega
    have HE : Hid (EscEnd S i w (.returned (.tuple #[.int .i64 (-1), .int .i64 (i : Int)])) w) := esc_none (by
      cases hd : S.drop i with
      | nil => rfl
      | cons x r =>
        obtain rfl := head_of HC.out hd
        simp [Jq.escape, h34, h92, h47, h98, h102, h110, h114, h116, h117]) (by decide)
    clear hF hA2 h34 h92 h47 h98 h102 h110 h114 h116 h117
    go_enter Tryz.func129, Tryz.ntmps129
    go_wp2_with fail
    refine hA.mono ?_
    rintro e w' ⟨rfl, rfl⟩
    go_wp2
    go_ret2
    exact HE.out
  subst h117
  clear h34 h92 h47 h98 h102 h110 h114 h116
  have hF1 := hF 1 (by decide) w
  cases h4 : Jq.four (S.drop (i + 1)) with
  | none =>
    rw [h4] at hF1
    have HE : Hid (EscEnd S i w (.returned (.tuple #[.int .i64 (-1), .int .i64 ((i + 5 : Nat) : Int)])) w) := esc_none (esc_four_none HC.out h4) (by decide)
    clear hF hA2 h4
    rw [show orLess none = -1 from rfl] at hF1
    go_enter Tryz.func129, Tryz.ntmps129
    go_wp2_with fail
    refine hA.mono ?_
    rintro e w' ⟨rfl, rfl⟩
    go_wp2_with fail
    refine hF1.mono ?_
    rintro e w' ⟨rfl, rfl⟩
    go_wp2
    go_ret2
    exact HE.out
  | some n =>
    rw [h4] at hF1
    rw [show orLess (some n) = (n : Int) from rfl] at hF1
    have hn6 := (four_long h4).2
    by_cases hn : n < 55296 ∨ 57343 < n
    · have HE : Hid (EscEnd S i w (.returned (.tuple #[.int .i64 (n : Int), .int .i64 ((i + 5 : Nat) : Int)])) w) := esc_unit HC.out h4 hn
      have hdd : decide ((n : Int) < 55296) = true ∨ (decide ((n : Int) < 55296) = false ∧ decide ((57343 : Int) < (n : Int)) = true) := by
        rcases hn with hn | hn
        · exact .inl (decide_eq_true (by omega))
        · by_cases h0 : n < 55296
          · exact .inl (decide_eq_true (by omega))
          · exact .inr ⟨decide_eq_false (by omega), decide_eq_true (by omega)⟩
      clear hF hA2 h4 hn
      rcases hdd with d1 | ⟨d1, d2⟩
      all_goals
        go_enter Tryz.func129, Tryz.ntmps129
        go_wp2_with fail
        refine hA.mono ?_
        rintro e w' ⟨rfl, rfl⟩
        go_wp2_with fail
        refine hF1.mono ?_
        rintro e w' ⟨rfl, rfl⟩
        go_wp2
        go_ret2
        exact HE.out
    have HP := Lib.hid (esc_pair HC.out h4 hn)
    have d1 : decide ((n : Int) < 55296) = false := decide_eq_false (by omega)
    have d2 : decide ((57343 : Int) < (n : Int)) = false := decide_eq_false (by omega)
    have hA5 := hA2 5 w
    have hA6 := hA2 6 w
    have hF7 := hF 7 (by decide) w
    have HG : Hid (55296 ≤ n ∧ n ≤ 57343 ∧ i + 5 ≤ S.length) := by
      have := (four_long h4).1
      have h1 := (drop_of HC.out (by decide)).1
      rw [List.length_drop] at this
      unfold Hid
      omega
    clear hF hA2 h4 hn hn6
    obtain ⟨a5, e5⟩ : ∃ a, S.getD (i + 5) 0 = a := ⟨_, rfl⟩
    obtain ⟨a6, e6⟩ : ∃ a, S.getD (i + 6) 0 = a := ⟨_, rfl⟩
    rw [e5] at hA5
    rw [e6] at hA6
    have HN : Hid (¬ (n ≤ 56319 ∧ a5 = 92 ∧ a6 = 117) → ∀ w, EscEnd S i w (.returned (.tuple #[.int .i64 (-1), .int .i64 (i : Int)])) w) := fun hc w => esc_none (by rw [HP.out, e5, e6, if_neg hc]) (by decide)
    have H6 := Lib.hid e6
    rw [e5, e6] at HP
    clear e5 e6
    have hbb : decide ((56319 : Int) < (n : Int)) = true ∨ decide ((56319 : Int) < (n : Int)) = false := by
      cases decide ((56319 : Int) < (n : Int))
      · exact .inr rfl
      · exact .inl rfl
    by_cases h5 : a5 = 92
    rotate_left
    · have t5 : ((a5 : Int) == 92) = false := by simp; omega
      have HE := Lib.hid (HN.out (fun h => h5 h.2.1) w)
      clear h5 hF7 hA6
      rcases hbb with b1 | b1
      all_goals
        go_enter Tryz.func129, Tryz.ntmps129
        go_wp2_with fail
        refine hA.mono ?_
        rintro e w' ⟨rfl, rfl⟩
        go_wp2_with fail
        refine hF1.mono ?_
        rintro e w' ⟨rfl, rfl⟩
        go_wp2_with fail
        refine hA5.mono ?_
        rintro e w' ⟨rfl, rfl⟩
        go_wp2
        go_ret2
        exact HE.out
    subst h5
    by_cases h6 : a6 = 117
    rotate_left
    · have t6 : ((a6 : Int) == 117) = false := by simp; omega
      have HE := Lib.hid (HN.out (fun h => h6 h.2.2) w)
      clear h6 hF7
      rcases hbb with b1 | b1
      all_goals
        go_enter Tryz.func129, Tryz.ntmps129
        go_wp2_with fail
        refine hA.mono ?_
        rintro e w' ⟨rfl, rfl⟩
        go_wp2_with fail
        refine hF1.mono ?_
        rintro e w' ⟨rfl, rfl⟩
        go_wp2_with fail
        refine hA5.mono ?_
        rintro e w' ⟨rfl, rfl⟩
        go_wp2_with fail
        refine hA6.mono ?_
        rintro e w' ⟨rfl, rfl⟩
        go_wp2
        go_ret2
        exact HE.out
    subst h6
    cases h7 : Jq.four (S.drop (i + 7)) with
    | none =>
      rw [h7] at hF7 HP
      rw [show orLess none = -1 from rfl] at hF7
      have HE : Hid (EscEnd S i w (.returned (.tuple #[.int .i64 (-1), .int .i64 (i : Int)])) w) := esc_none (by rw [HP.out]; split <;> rfl) (by decide)
      clear h7
      rcases hbb with b1 | b1
      all_goals
        go_enter Tryz.func129, Tryz.ntmps129
        go_wp2_with fail
        refine hA.mono ?_
        rintro e w' ⟨rfl, rfl⟩
        go_wp2_with fail
        refine hF1.mono ?_
        rintro e w' ⟨rfl, rfl⟩
        go_wp2_with fail
        refine hA5.mono ?_
        rintro e w' ⟨rfl, rfl⟩
        go_wp2_with fail
        refine hA6.mono ?_
        rintro e w' ⟨rfl, rfl⟩
        go_wp2_with fail
        refine hF7.mono ?_
        rintro e w' ⟨rfl, rfl⟩
        go_wp2
        go_ret2
        exact HE.out
    | some m =>
      rw [h7] at hF7 HP
      rw [show orLess (some m) = (m : Int) from rfl] at hF7
      have hm6 := (four_long h7)
      by_cases hok : n ≤ 56319 ∧ 56320 ≤ m ∧ m ≤ 57343
      rotate_left
      · have HE : Hid (EscEnd S i w (.returned (.tuple #[.int .i64 (-1), .int .i64 (i : Int)])) w) := esc_none (by
          rw [HP.out]
          by_cases h1 : n ≤ 56319
          · rw [if_pos ⟨h1, rfl, rfl⟩]
            exact if_neg (fun h => hok ⟨h1, h⟩)
          · exact if_neg (fun h => h1 h.1)) (by decide)
        have hdd : decide ((56319 : Int) < (n : Int)) = true ∨ (decide ((56319 : Int) < (n : Int)) = false ∧ decide ((m : Int) < 56320) = true) ∨ (decide ((56319 : Int) < (n : Int)) = false ∧ decide ((m : Int) < 56320) = false ∧ decide ((57343 : Int) < (m : Int)) = true) := by
          by_cases h1 : n ≤ 56319
          · by_cases h2 : 56320 ≤ m
            · exact .inr (.inr ⟨decide_eq_false (by omega), decide_eq_false (by omega), decide_eq_true (by omega)⟩)
            · exact .inr (.inl ⟨decide_eq_false (by omega), decide_eq_true (by omega)⟩)
          · exact .inl (decide_eq_true (by omega))
        clear h7 hok hm6 hbb
        rcases hdd with b1 | ⟨b1, b2⟩ | ⟨b1, b2, b3⟩
        all_goals
          go_enter Tryz.func129, Tryz.ntmps129
          go_wp2_with fail
          refine hA.mono ?_
          rintro e w' ⟨rfl, rfl⟩
          go_wp2_with fail
          refine hF1.mono ?_
          rintro e w' ⟨rfl, rfl⟩
          go_wp2_with fail
          refine hA5.mono ?_
          rintro e w' ⟨rfl, rfl⟩
          go_wp2_with fail
          refine hA6.mono ?_
          rintro e w' ⟨rfl, rfl⟩
          go_wp2_with fail
          refine hF7.mono ?_
          rintro e w' ⟨rfl, rfl⟩
          go_wp2
          go_ret2
          exact HE.out
      have HE : Hid (∀ r : Int, r = 65536 + ((n : Int) - 55296) * 1024 + m - 56320 → EscEnd S i w (.returned (.tuple #[.int .i64 r, .int .i64 ((i + 11 : Nat) : Int)])) w) := fun r hr => by
        refine ⟨rfl, _, _, rfl, ?_⟩
        rw [HP.out, if_pos ⟨hok.1, rfl, rfl⟩]
        simp only [hok.2, and_self, if_true]
        have := HG.out
        have hl := hm6.1
        rw [List.length_drop] at hl
        exact ⟨by omega, by omega, i + 11, rfl, by omega, by omega, rfl⟩
      have hnk : 55296 ≤ n ∧ n ≤ 57343 := ⟨HG.out.1, HG.out.2.1⟩
      have b1 : decide ((56319 : Int) < (n : Int)) = false := decide_eq_false (by omega)
      have b2 : decide ((m : Int) < 56320) = false := decide_eq_false (by omega)
      have b3 : decide ((57343 : Int) < (m : Int)) = false := decide_eq_false (by omega)
      have w1 : IntKind.i64.wrap ((n : Int) - 55296) = (n : Int) - 55296 := IntWalk.i64_in _ (by omega)
      have w2 : IntKind.i64.wrap (((n : Int) - 55296) * 1024) = ((n : Int) - 55296) * 1024 := IntWalk.i64_in _ (by omega)
      have w3 : IntKind.i64.wrap (65536 + ((n : Int) - 55296) * 1024) = 65536 + ((n : Int) - 55296) * 1024 := IntWalk.i64_in _ (by omega)
      have w4 : IntKind.i64.wrap (65536 + ((n : Int) - 55296) * 1024 + (m : Int)) = 65536 + ((n : Int) - 55296) * 1024 + (m : Int) := IntWalk.i64_in _ (by omega)
      have w5 : IntKind.i64.wrap (65536 + ((n : Int) - 55296) * 1024 + (m : Int) - 56320) = 65536 + ((n : Int) - 55296) * 1024 + (m : Int) - 56320 := IntWalk.i64_in _ (by omega)
      clear h7 hok hm6 hbb hnk
      go_enter Tryz.func129, Tryz.ntmps129
      go_wp2_with fail
      refine hA.mono ?_
      rintro e w' ⟨rfl, rfl⟩
      go_wp2_with fail
      refine hF1.mono ?_
      rintro e w' ⟨rfl, rfl⟩
      go_wp2_with fail
      refine hA5.mono ?_
      rintro e w' ⟨rfl, rfl⟩
      go_wp2_with fail
      refine hA6.mono ?_
      rintro e w' ⟨rfl, rfl⟩
      go_wp2_with fail
      refine hF7.mono ?_
      rintro e w' ⟨rfl, rfl⟩
      go_wp2
      go_ret2
      exact HE.out _ rfl
end Go.Proofs.YthklgpflaghojaaGreatDoor

/-
  The document's reading, plain: what holds at a place of the text.
-/
namespace Go.Proofs.YthklgpflaghojaaGreatDoor
open Go.RowKit

theorem text_if (c : Nat) (r : List Nat) : Jq.text (c :: r) = if c < 32 then .error 53 else if c = 34 then .ok ([], r) else if c = 92 then (match Jq.escape r with
      | none => .error 53
      | some (x, r') => (Jq.text r').map fun q => (Jq.runeBytes x ++ q.1, q.2))
    else if Jq.long (c :: r) = 0 then .error 53 else (Jq.text ((c :: r).drop (Jq.long (c :: r)))).map fun q => ((c :: r).take (Jq.long (c :: r)) ++ q.1, q.2) := by
  by_cases hc : c = 34
  · subst hc
    rw [Jq.text_end]
    simp
  · have hh : (c :: r).head? ≠ some 34 := by simpa using hc
    rw [Jq.text_step hh, Jq.letter]
    by_cases h1 : c < 32
    · rw [if_pos h1, if_pos h1]
    rw [if_neg h1, if_neg h1, if_neg hc]
    by_cases h2 : c = 92
    · rw [if_pos h2, if_pos h2]
      cases Jq.escape r <;> rfl
    rw [if_neg h2, if_neg h2]
    by_cases h3 : Jq.long (c :: r) = 0
    · rw [if_pos h3, if_pos h3]
    rw [if_neg h3, if_neg h3]
    simp only
    rw [(Jq.long_rune_bytes h3).1]
theorem drop_get {S : List Nat} {k c : Nat} (h : S.getD k 0 = c) (hk : k < S.length) : S.drop k = c :: S.drop (k + 1) := by
  rw [List.drop_eq_getElem_cons hk]
  rw [List.getD_eq_getElem?_getD, List.getElem?_eq_getElem hk] at h
  simp at h
  rw [h]
theorem map_app {R : Jq.R (List Nat)} {a b : List Nat} : (R.map fun q => (b ++ q.1, q.2)).map (fun q => (a ++ q.1, q.2)) = R.map fun q => ((a ++ b) ++ q.1, q.2) := by
  cases R with
  | error e => rfl
  | ok p => simp [Except.map, List.append_assoc]
/-- A text under way: what the whole says, by what is read and what the rest says. -/
def TextAt (RES : Jq.R (List Nat)) (S : List Nat) (k : Nat) (acc : List Nat) : Prop := RES = (Jq.text (S.drop k)).map fun q => (acc ++ q.1, q.2)
section
variable {RES : Jq.R (List Nat)} {S : List Nat} {k c : Nat} {acc : List Nat}
theorem TextAt.eof (h : TextAt RES S k acc) (hk : S.length ≤ k) : RES = .error 53 := by
  rw [h, List.drop_eq_nil_of_le hk]; rfl
theorem TextAt.low (h : TextAt RES S k acc) (hk : k < S.length) (hc : S.getD k 0 = c) (h1 : c < 32) : RES = .error 53 := by
  rw [h, drop_get hc hk, text_if, if_pos h1]; rfl
theorem TextAt.fin (h : TextAt RES S k acc) (hk : k < S.length) (hc : S.getD k 0 = 34) : RES = .ok (acc, S.drop (k + 1)) := by
  rw [h, drop_get hc hk, text_if, if_neg (by decide), if_pos rfl]; simp [Except.map]
theorem TextAt.escNone (h : TextAt RES S k acc) (hk : k < S.length) (hc : S.getD k 0 = 92) (he : Jq.escape (S.drop (k + 1)) = none) : RES = .error 53 := by
  rw [h, drop_get hc hk, text_if, if_neg (by decide), if_neg (by decide), if_pos rfl, he]; rfl
theorem TextAt.esc (h : TextAt RES S k acc) (hk : k < S.length) (hc : S.getD k 0 = 92) {x j : Nat} {r : List Nat} (he : Jq.escape (S.drop (k + 1)) = some (x, r)) (hr : r = S.drop j) : TextAt RES S j (acc ++ Jq.runeBytes x) := by
  unfold TextAt at h ⊢
  rw [h, drop_get hc hk, text_if, if_neg (by decide), if_neg (by decide), if_pos rfl, he, hr]
  exact map_app
theorem TextAt.longNone (h : TextAt RES S k acc) (hk : k < S.length) (hc : S.getD k 0 = c) (h1 : 32 ≤ c) (h2 : c ≠ 34) (h3 : c ≠ 92) (hl : Jq.long (S.drop k) = 0) : RES = .error 53 := by
  rw [drop_get hc hk] at hl
  rw [h, drop_get hc hk, text_if, if_neg (by omega), if_neg h2, if_neg h3, if_pos hl]; rfl
theorem TextAt.rune (h : TextAt RES S k acc) (hk : k < S.length) (hc : S.getD k 0 = c) (h1 : 32 ≤ c) (h2 : c ≠ 34) (h3 : c ≠ 92) {n : Nat} (hl : Jq.long (S.drop k) = n) (hn : n ≠ 0) : TextAt RES S (k + n) (acc ++ (S.drop k).take n) := by
  have e := drop_get hc hk
  have hl' := hl
  rw [e] at hl'
  unfold TextAt at h ⊢
  rw [h, e, text_if, if_neg (by omega), if_neg h2, if_neg h3, if_neg (by omega), hl', ← e, List.drop_drop]
  exact map_app
end

/-! A number's digits, so many of which are read. -/
theorem val_take_le (l : List Nat) : ∀ j, Uq.val (l.take j) ≤ Uq.val l := by
  have key : ∀ (l : List Nat) (a b : Nat), a ≤ b → a ≤ l.foldl (fun n c => n * 10 + (c - 48)) b := by
    intro l
    induction l with
    | nil => intro a b h; exact h
    | cons c r ih => intro a b h; exact ih a _ (show a ≤ b * 10 + (c - 48) by omega)
  intro j
  have e : Uq.val l = (l.drop j).foldl (fun n c => n * 10 + (c - 48)) (Uq.val (l.take j)) := by
    unfold Uq.val
    rw [← List.foldl_append, List.take_append_drop]
  rw [e]
  exact key _ _ _ (Nat.le_refl _)
/-- So many digits are read from a place on. -/
def DigAt (S : List Nat) (p j n : Nat) : Prop := j ≤ (Jq.digs (S.drop p)).length ∧ n = Uq.val ((Jq.digs (S.drop p)).take j)
theorem DigAt.zero (S : List Nat) (p : Nat) : DigAt S p 0 0 := ⟨Nat.zero_le _, rfl⟩
theorem digs_get {l : List Nat} {j : Nat} (hj : j ≤ (Jq.digs l).length) : (∀ c, l[j]? = some c → Jq.dig c = true → j < (Jq.digs l).length ∧ (Jq.digs l)[j]? = some c) ∧ ((∀ c, l[j]? = some c → Jq.dig c = false) → j = (Jq.digs l).length) := by
  obtain ⟨d1, d2⟩ := digs_drop l
  refine ⟨fun c hc hd => ?_, fun h => ?_⟩
  · have hlt : j < (Jq.digs l).length := by
      rcases Nat.lt_or_eq_of_le hj with h | h
      · exact h
      · exfalso
        have h0 : (l.drop j).head? = some c := by rw [List.head?_drop]; exact hc
        rw [h, ← d1] at h0
        have := List.head?_dropWhile_not Jq.dig l
        rw [h0] at this
        simp [hd] at this
    refine ⟨hlt, ?_⟩
    rw [d2, List.getElem?_take_of_lt hlt]
    exact hc
  · rcases Nat.lt_or_eq_of_le hj with h' | h'
    · exfalso
      have hlen := digs_le l
      have hc : l[j]? = some ((Jq.digs l)[j]) := by
        have : (Jq.digs l)[j]? = some ((Jq.digs l)[j]) := List.getElem?_eq_getElem h'
        rw [← this]
        conv => rhs; rw [d2]
        rw [List.getElem?_take_of_lt h']
      have := h _ hc
      have h2 := Jq.digs_dig l _ (List.getElem_mem h')
      rw [h2] at this
      cases this
    · exact h'
theorem getD_some {S : List Nat} {i c : Nat} (h : S.getD i 0 = c) (hc : c ≠ 0) : S[i]? = some c := by
  rw [List.getD_eq_getElem?_getD] at h
  cases hs : S[i]? with
  | none => rw [hs] at h; exact absurd h.symm hc
  | some x => rw [hs] at h; simp at h; rw [h]
theorem DigAt.step {S : List Nat} {p j n c : Nat} (h : DigAt S p j n) (hc : S.getD (p + j) 0 = c) (hd : Jq.dig c = true) : p + j < S.length ∧ DigAt S p (j + 1) (n * 10 + (c - 48)) := by
  obtain ⟨h1, h2⟩ := h
  have h48 := ((Jq.dig_iff c).1 hd).1
  have hs := getD_some hc (by omega)
  obtain ⟨k1, k2⟩ := (digs_get h1).1 c (by rw [List.getElem?_drop]; exact hs) hd
  refine ⟨(List.getElem?_eq_some_iff.1 hs).1, k1, ?_⟩
  rw [List.take_add_one, k2, Option.toList_some, Uq.val_snoc, h2]
theorem DigAt.stop {S : List Nat} {p j n c : Nat} (h : DigAt S p j n) (hc : S.getD (p + j) 0 = c) (hd : Jq.dig c = false) : j = (Jq.digs (S.drop p)).length ∧ n = Uq.val (Jq.digs (S.drop p)) := by
  have e : j = (Jq.digs (S.drop p)).length := (digs_get h.1).2 fun x hx => by
    rw [List.getElem?_drop] at hx
    rw [List.getD_eq_getElem?_getD, hx] at hc
    simp at hc
    rw [hc]; exact hd
  refine ⟨e, ?_⟩
  rw [h.2, e, List.take_length]
theorem DigAt.big {S : List Nat} {p j n : Nat} {m : Bool} (h : DigAt S p j n) (hn : 9007199254740991 < n) : numVOf m (S.drop p) = .error 52 := by
  refine num_bad (.inr (.inl ?_))
  have := val_take_le (Jq.digs (S.drop p)) j
  rw [← h.2] at this
  show 9007199254740991 < _
  omega
theorem head_drop {S : List Nat} {i x : Nat} (hx : x ≠ 0) : (S.drop i).head? = some x ↔ S.getD i 0 = x := by
  rw [List.head?_drop, List.getD_eq_getElem?_getD]
  cases S[i]? with
  | none => simp; omega
  | some y => simp
/-- All digits are read: whether it is a number. -/
theorem dig_done {S : List Nat} {p j n c f : Nat} {m : Bool} (h : DigAt S p j n) (hc : S.getD (p + j) 0 = c) (hd : Jq.dig c = false) (hf : S.getD p 0 = f) :
    ((j = 0 ∨ 9007199254740991 < n ∨ (m = true ∧ n = 0) ∨ c = 46 ∨ c = 101 ∨ c = 69 ∨ (f = 48 ∧ 1 < j)) → numVOf m (S.drop p) = .error 52) ∧
    (¬ (j = 0 ∨ 9007199254740991 < n ∨ (m = true ∧ n = 0) ∨ c = 46 ∨ c = 101 ∨ c = 69 ∨ (f = 48 ∧ 1 < j)) → numVOf m (S.drop p) = .ok (if m then -(n : Int) else (n : Int), S.drop (p + j))) := by
  obtain ⟨e1, e2⟩ := h.stop hc hd
  have iff : Jq.NumBad m (S.drop p) ↔ (j = 0 ∨ 9007199254740991 < n ∨ (m = true ∧ n = 0) ∨ c = 46 ∨ c = 101 ∨ c = 69 ∨ (f = 48 ∧ 1 < j)) := by
    unfold Jq.NumBad
    rw [← e1, ← e2, List.drop_drop, head_drop (by decide), head_drop (by decide), head_drop (by decide), hc]
    have e3 : Jq.digs (S.drop p) = [] ↔ j = 0 := by rw [e1, List.length_eq_zero_iff]
    have e4 : ((Jq.digs (S.drop p)).head? = some 48 ∧ 1 < j) ↔ (f = 48 ∧ 1 < j) := by
      have : 1 < j → ((Jq.digs (S.drop p)).head? = some 48 ↔ f = 48) := fun hj => by
        obtain ⟨_, d2⟩ := digs_drop (S.drop p)
        rw [← e1] at d2
        rw [d2, List.head?_take, if_neg (by omega), head_drop (by decide), hf]
      constructor
      · rintro ⟨a, b⟩; exact ⟨(this b).1 a, b⟩
      · rintro ⟨a, b⟩; exact ⟨(this b).2 a, b⟩
    rw [e3, e4]
    exact Iff.rfl
  refine ⟨fun hb => num_bad (iff.2 hb), fun hb => ?_⟩
  rw [num_good (fun h => hb (iff.1 h)), ← e1, ← e2, List.drop_drop]
end Go.Proofs.YthklgpflaghojaaGreatDoor

/-
  The document's reading, plain: lists and objects under way.
-/
namespace Go.Proofs.YthklgpflaghojaaGreatDoor
open Go.RowKit

/-- A list under way: what the whole says, by the elements read and what the rest says. -/
def ListAt (elem : List Nat → Jq.R Jq.J) (RES : Jq.R Jq.J) (S : List Nat) (k : Nat) (acc : List Jq.J) : Prop :=
  ∃ f, S.length - k < f ∧ RES = (Jq.items elem f (S.drop k)).map fun q => (Jq.listJ (acc ++ q.1), q.2)
def MembersAt (elem : List Nat → Jq.R Jq.J) (RES : Jq.R Jq.J) (S : List Nat) (k : Nat) (ns : List (List Nat)) (acc : List Jq.J) : Prop :=
  ∃ f, S.length - k < f ∧ RES = (Jq.members elem f ns (S.drop k)).map fun q => (Jq.objJ (ns ++ q.1.1) (acc ++ q.1.2), q.2)
section
variable {elem : List Nat → Jq.R Jq.J} {RES : Jq.R Jq.J} {S : List Nat} {k : Nat} {acc : List Jq.J} {ns : List (List Nat)}
theorem skip_head (j : Nat) {c : Nat} (hc : c ≠ 0) : (Jq.skip (S.drop j)).head? = some c ↔ S.getD (past S j) 0 = c := by
  rw [skip_drop, head_drop hc]
theorem skip_tail (j : Nat) : (Jq.skip (S.drop j)).drop 1 = S.drop (past S j + 1) := by
  rw [skip_drop, List.drop_drop]
theorem lt_of_get {i c : Nat} (h : S.getD i 0 = c) (hc : c ≠ 0) : i < S.length := (drop_of h hc).1
theorem list_begin {i : Nat} (h : RES = Jq.listOf elem (S.drop i)) : (S.getD (past S i) 0 = 93 → RES = .ok (Jq.listJ [], S.drop (past S i + 1))) ∧ (S.getD (past S i) 0 ≠ 93 → ListAt elem RES S (past S i) []) := by
  unfold Jq.listOf at h
  rw [skip_drop] at h
  refine ⟨fun hc => ?_, fun hc => ?_⟩
  · rw [(drop_of hc (by decide)).2] at h
    exact h
  · refine ⟨(S.drop (past S i)).length + 1, by rw [List.length_drop]; omega, ?_⟩
    split at h
    · rename_i r e
      exact absurd (head_of rfl e).symm hc
    · exact h
theorem ListAt.err (h : ListAt elem RES S k acc) {n : Nat} (he : elem (S.drop k) = .error n) : RES = .error n := by
  obtain ⟨f, hf, h⟩ := h
  cases f with
  | zero => omega
  | succ f => rw [h, Jq.items_if, he]; rfl
theorem ListAt.next (h : ListAt elem RES S k acc) {v : Jq.J} {r : List Nat} {j : Nat} (he : elem (S.drop k) = .ok (v, r)) (hr : r = S.drop j) (hkj : k ≤ j) (hj : j ≤ S.length) :
    (S.getD (past S j) 0 = 93 → RES = .ok (Jq.listJ (acc ++ [v]), S.drop (past S j + 1))) ∧
    (S.getD (past S j) 0 = 44 → ListAt elem RES S (past S (past S j + 1)) (acc ++ [v])) ∧
    (S.getD (past S j) 0 ≠ 93 → S.getD (past S j) 0 ≠ 44 → RES = .error 51) := by
  obtain ⟨f, hf, h⟩ := h
  cases f with
  | zero => omega
  | succ f =>
    rw [Jq.items_if, he] at h
    simp only at h
    subst hr
    refine ⟨fun hc => ?_, fun hc => ?_, fun h1 h2 => ?_⟩
    · rw [if_pos ((skip_head j (by decide)).2 hc), skip_tail] at h
      simpa [Except.map] using h
    · rw [if_neg (fun e => by rw [skip_head j (by decide), hc] at e; cases e), if_pos ((skip_head j (by decide)).2 hc), skip_tail, skip_drop] at h
      have g1 := past_ge hj
      have g2 := lt_of_get hc (by decide)
      have g3 := past_ge (S := S) (i := past S j + 1) (by omega)
      refine ⟨f, by omega, ?_⟩
      rw [h]
      cases Jq.items elem f (S.drop (past S (past S j + 1))) with
      | error e => rfl
      | ok p => simp [Except.map]
    · rw [if_neg (fun e => h1 ((skip_head j (by decide)).1 e)), if_neg (fun e => h2 ((skip_head j (by decide)).1 e))] at h
      exact h
theorem object_begin {i : Nat} (h : RES = Jq.objectOf elem (S.drop i)) : (S.getD (past S i) 0 = 125 → RES = .ok (Jq.objJ [] [], S.drop (past S i + 1))) ∧ (S.getD (past S i) 0 ≠ 125 → MembersAt elem RES S (past S i) [] []) := by
  unfold Jq.objectOf at h
  rw [skip_drop] at h
  refine ⟨fun hc => ?_, fun hc => ?_⟩
  · rw [(drop_of hc (by decide)).2] at h
    exact h
  · refine ⟨(S.drop (past S i)).length + 1, by rw [List.length_drop]; omega, ?_⟩
    split at h
    · rename_i r e
      exact absurd (head_of rfl e).symm hc
    · exact h
theorem MembersAt.noName (h : MembersAt elem RES S k ns acc) (hc : S.getD k 0 ≠ 34) : RES = .error 51 := by
  obtain ⟨f, hf, h⟩ := h
  cases f with
  | zero => omega
  | succ f => rw [h, Jq.members_if, if_neg (fun e => hc ((head_drop (by decide)).1 e))]; rfl
/-- A member's name is read. -/
def NameAt (elem : List Nat → Jq.R Jq.J) (RES : Jq.R Jq.J) (S : List Nat) (k j : Nat) (t : List Nat) (ns : List (List Nat)) (acc : List Jq.J) : Prop :=
  ∃ f, S.length - k < f + 1 ∧ RES = (if t ∈ ns then (.error 54 : Jq.R (List (List Nat) × List Jq.J)) else if S.getD (past S j) 0 = 58 then (match elem (S.drop (past S j + 1)) with
          | .error e => .error e
          | .ok (v, r3) => if (Jq.skip r3).head? = some 125 then .ok (([t], [v]), (Jq.skip r3).drop 1) else if (Jq.skip r3).head? = some 44 then (Jq.members elem f (ns ++ [t]) (Jq.skip ((Jq.skip r3).drop 1))).map (fun q => ((t :: q.1.1, v :: q.1.2), q.2)) else .error 51)
        else .error 51).map fun q => (Jq.objJ (ns ++ q.1.1) (acc ++ q.1.2), q.2)
theorem MembersAt.name (h : MembersAt elem RES S k ns acc) (hc : S.getD k 0 = 34) :
    (∀ n, Jq.text (S.drop (k + 1)) = .error n → RES = .error n) ∧ (∀ t r j, Jq.text (S.drop (k + 1)) = .ok (t, r) → r = S.drop j → NameAt elem RES S k j t ns acc) := by
  obtain ⟨f, hf, h⟩ := h
  cases f with
  | zero => omega
  | succ f =>
    rw [Jq.members_if, if_pos ((head_drop (by decide)).2 hc), List.drop_drop] at h
    refine ⟨fun n ht => ?_, fun t r j ht hr => ⟨f, hf, ?_⟩⟩
    · rw [ht] at h; exact h
    · rw [ht] at h
      subst hr
      simp only [skip_head j (show (58 : Nat) ≠ 0 by decide), skip_tail] at h
      exact h
section
variable {j : Nat} {t : List Nat}
theorem NameAt.twice (h : NameAt elem RES S k j t ns acc) (ht : t ∈ ns) : RES = .error 54 := by
  obtain ⟨f, hf, h⟩ := h
  rw [h, if_pos ht]; rfl
theorem NameAt.noColon (h : NameAt elem RES S k j t ns acc) (ht : t ∉ ns) (hc : S.getD (past S j) 0 ≠ 58) : RES = .error 51 := by
  obtain ⟨f, hf, h⟩ := h
  rw [h, if_neg ht, if_neg hc]; rfl
theorem NameAt.err (h : NameAt elem RES S k j t ns acc) (ht : t ∉ ns) (hc : S.getD (past S j) 0 = 58) {n : Nat} (he : elem (S.drop (past S j + 1)) = .error n) : RES = .error n := by
  obtain ⟨f, hf, h⟩ := h
  rw [h, if_neg ht, if_pos hc, he]; rfl
theorem NameAt.next (h : NameAt elem RES S k j t ns acc) (ht : t ∉ ns) (hc : S.getD (past S j) 0 = 58) {v : Jq.J} {r : List Nat} {i : Nat} (he : elem (S.drop (past S j + 1)) = .ok (v, r)) (hr : r = S.drop i) (hki : k ≤ i) (hi : i ≤ S.length) :
    (S.getD (past S i) 0 = 125 → RES = .ok (Jq.objJ (ns ++ [t]) (acc ++ [v]), S.drop (past S i + 1))) ∧
    (S.getD (past S i) 0 = 44 → MembersAt elem RES S (past S (past S i + 1)) (ns ++ [t]) (acc ++ [v])) ∧
    (S.getD (past S i) 0 ≠ 125 → S.getD (past S i) 0 ≠ 44 → RES = .error 51) := by
  obtain ⟨f, hf, h⟩ := h
  rw [if_neg ht, if_pos hc, he] at h
  simp only at h
  subst hr
  refine ⟨fun hc => ?_, fun hc => ?_, fun h1 h2 => ?_⟩
  · rw [if_pos ((skip_head i (by decide)).2 hc), skip_tail] at h
    simpa [Except.map] using h
  · rw [if_neg (fun e => by rw [skip_head i (by decide), hc] at e; cases e), if_pos ((skip_head i (by decide)).2 hc), skip_tail, skip_drop] at h
    have g1 := past_ge hi
    have g2 := lt_of_get hc (by decide)
    have g3 := past_ge (S := S) (i := past S i + 1) (by omega)
    refine ⟨f, by omega, ?_⟩
    rw [h]
    cases Jq.members elem f (ns ++ [t]) (S.drop (past S (past S i + 1))) with
    | error e => rfl
    | ok p => simp [Except.map]
  · rw [if_neg (fun e => h1 ((skip_head i (by decide)).1 e)), if_neg (fun e => h2 ((skip_head i (by decide)).1 e))] at h
    exact h
end
end
end Go.Proofs.YthklgpflaghojaaGreatDoor

/-
  The document's list or object under way: the variable and its two rows; how its reading functions end.
-/
namespace Go.Proofs.YthklgpflaghojaaGreatDoor
open Go.RowKit

structure RBox (kind : Int) (B V : Nat) (ns : List (List Nat)) (l : List Jq.J) (nv lv : Value) (w : World) : Prop where
  box : Lies w V 26 [.int .i64 kind, .bool false, .int .i64 0, .string ByteArray.empty, nv, lv]
  names : w.ownsRow B 9 1 nv ns.length (tcells ns)
  nlt : ∀ p ∈ ns, p.length ≤ 140737488355328 ∧ ∀ x ∈ p, x < 256
  rows : ∃ vs : List Value, vs.length = l.length ∧ w.ownsRow B 26 6 lv l.length (vs.flatMap jcells) ∧ ∀ (i : Nat) v x, vs[i]? = some v → l[i]? = some x → IsJ w (fun b => B ≤ b ∧ nv.ownBlock ≠ some b ∧ lv.ownBlock ≠ some b) v x
  apart : ∀ b, nv.ownBlock = some b → lv.ownBlock ≠ some b
  size : B ≤ w.heap.size
  hV : V < B
section
variable {kind : Int} {B V : Nat} {ns : List (List Nat)} {l : List Jq.J} {nv lv : Value} {w w' : World}
theorem RBox.begin (hV : V < B) (hB : B ≤ w.heap.size) (h : Lies w V 26 [.int .i64 kind, .bool false, .int .i64 0, .string ByteArray.empty, nilS, nilS]) : RBox kind B V [] [] nilS nilS w :=
  ⟨h, World.ownsRow_nil _ _ _ _, (fun _ h => nomatch h), ⟨[], rfl, World.ownsRow_nil _ _ _ _, fun i v x h => by simp at h⟩, fun b h => by simp [Value.ownBlock] at h, hB, hV⟩
theorem RBox.on (h : RBox kind B V ns l nv lv w) (hb : Below w.heap.size w w') : RBox kind B V ns l nv lv w' := by
  obtain ⟨vs, hv, ho, hJ⟩ := h.rows
  exact ⟨h.box.below hb h.box.lt, own_below h.names hb, h.nlt, ⟨vs, hv, own_below ho hb, fun i v x h1 h2 => (hJ i v x h1 h2).on hb⟩, h.apart, Nat.le_trans h.size hb.size, h.hV⟩
theorem RBox.cells (h : RBox kind B V ns l nv lv w) : (w.cell? ⟨V, 0, none⟩ = some (.int .i64 kind) ∧ w.cell? ⟨V, 1, none⟩ = some (.bool false) ∧ w.cell? ⟨V, 2, none⟩ = some (.int .i64 0) ∧ w.cell? ⟨V, 3, none⟩ = some (.string ByteArray.empty) ∧ w.cell? ⟨V, 4, none⟩ = some nv ∧ w.cell? ⟨V, 5, none⟩ = some lv) ∧ w.frozen? ⟨V, 4, none⟩ = false ∧ w.frozen? ⟨V, 5, none⟩ = false :=
  ⟨h.box.six.1, h.box.free 4, h.box.free 5⟩
theorem RBox.forms (h : RBox kind B V ns l nv lv w) : (∃ A c, nv = .slice A ns.length c) ∧ ∃ A c, lv = .slice A l.length c := by
  obtain ⟨_, _, ho, _⟩ := h.rows
  exact ⟨own_slice h.names, own_slice ho⟩
theorem RBox.slis (h : RBox kind B V ns l nv lv w) : SlIs w (fun _ => True) nv ns.length (tcells ns) := (own_slIs h.names).keep (fun _ _ _ => ⟨trivial, rfl⟩) (Nat.le_refl _)
theorem RBox.isJ {C : Nat} (h : RBox kind B V ns l nv lv w) (hk : 0 ≤ kind ∧ kind ≤ 9) (hl : l.length ≤ 20000) (hn : ns.length ≤ 20000) (hC : C ≤ B) : IsJ w (C ≤ ·) (jv kind false 0 ByteArray.empty nv lv) (.mk kind false 0 [] ns l) := by
  obtain ⟨vs, hvs, ho, hel⟩ := h.rows
  have e : strOf [] = ByteArray.empty := rfl
  rw [← e]
  exact .mk (by omega) (by omega) ⟨Nat.zero_le _, fun _ h => nomatch h⟩ ((own_slIs h.names).keep (fun b hb _ => ⟨Nat.le_trans hC hb, rfl⟩) (Nat.le_refl _)) h.nlt (by omega)
    ((own_slIs ho).keep (fun b hb _ => ⟨Nat.le_trans hC hb, rfl⟩) (Nat.le_refl _)) hvs (by omega)
    (fun i v x e1 e2 => (hel i v x e1 e2).keep (fun b hb _ => ⟨Nat.le_trans hC hb.1, rfl⟩) (Nat.le_refl _))
/-- One element more: its row is grown, and then the variable is told. -/
theorem RBox.elem {C g cap : Nat} {v : Value} {x : Jq.J} {w1 w2 : World} {vs : List Value} (h : RBox kind B V ns l nv lv w1) (hvs : vs.length = l.length)
    (hel : ∀ (i : Nat) u y, vs[i]? = some u → l[i]? = some y → IsJ w1 (fun b => B ≤ b ∧ nv.ownBlock ≠ some b ∧ lv.ownBlock ≠ some b) u y)
    (hJ : IsJ w1 (C ≤ ·) v x) (hBC : B ≤ C) (hnC : ∀ k, nv.ownBlock = some k → k < C) (hlC : ∀ k, lv.ownBlock = some k → k < C) (hlb : ∀ k, lv.ownBlock = some k → B ≤ k)
    (hgr : w1.grownBy w2 lv.ownBlock) (hg : lv.ownBlock = some g ∨ g = w1.heap.size)
    (e1 : w2.ownsRow B 26 6 (.slice (some ⟨g, 0, none⟩) (l.length + 1) cap) (l.length + 1) (vs.flatMap jcells ++ jcells v)) :
    RBox kind B V ns (l ++ [x]) nv (.slice (some ⟨g, 0, none⟩) (l.length + 1) cap) (w2.setCell ⟨V, 5, none⟩ (.slice (some ⟨g, 0, none⟩) (l.length + 1) cap)) := by
  have hV := h.hV
  have hnlt := h.names.lt
  have hgB : B ≤ g := (e1.lt g rfl).1
  have key : ∀ k, k < w1.heap.size → k ≠ V → lv.ownBlock ≠ some k → (w2.setCell ⟨V, 5, none⟩ (.slice (some ⟨g, 0, none⟩) (l.length + 1) cap)).heap[k]? = w1.heap[k]? := fun k h1 h2 h3 => by
    rw [Below.heap_setCell _ _ _ _ h2, hgr.block k h1 (fun e => h3 e.symm)]
  have hs : w1.heap.size ≤ (w2.setCell ⟨V, 5, none⟩ (.slice (some ⟨g, 0, none⟩) (l.length + 1) cap)).heap.size := by
    have h1 := hgr.size
    have h2 : ∀ (W : World) (a : Addr) (v : Value), (W.setCell a v).heap.size = W.heap.size := fun W a v => by simp [World.setCell]
    rw [h2]; exact h1
  have napart : ∀ b, nv.ownBlock = some b → b ≠ g := fun b hb => by
    rcases hg with hg | hg
    · exact fun e => h.apart b hb (by rw [e]; exact hg)
    · have := (hnlt b hb).2; omega
  refine { h with
    box := by
      have := (h.box.grown hgr (fun e => by have := hlb V e.symm; omega)).put 5 (.slice (some ⟨g, 0, none⟩) (l.length + 1) cap)
      simpa using this
    names := own_far h.names (fun k hk => key k (hnlt k hk).2 (by have := (hnlt k hk).1; omega) (h.apart k hk))
    rows := ⟨vs ++ [v], by simp [hvs], by
      rw [List.length_append, List.flatMap_append]
      have : ([v] : List Value).flatMap jcells = jcells v := by simp
      rw [this]
      exact own_far e1 (fun k hk => Below.heap_setCell _ _ _ _ (show k ≠ V by have := (e1.lt k hk).1; omega)), ?_⟩
    apart := fun b hb => fun e => napart b hb (by simpa [Value.ownBlock] using e.symm)
    size := Nat.le_trans h.size hs }
  intro i u y hu hy
  by_cases hi : i < l.length
  · rw [List.getElem?_append_left (by omega)] at hu hy
    refine (hel i u y hu hy).keep (fun b hb hlt => ⟨⟨hb.1, hb.2.1, fun e => ?_⟩, key b hlt (by have := hb.1; omega) hb.2.2⟩) hs
    have hbg : b = g := by simpa [Value.ownBlock] using e.symm
    rcases hg with hg | hg
    · exact hb.2.2 (by rw [hbg]; exact hg)
    · omega
  · rw [List.getElem?_append_right (by omega)] at hu hy
    have hi0 : i - l.length = 0 := by
      have := (List.getElem?_eq_some_iff.1 hy).1
      simp at this; omega
    rw [hi0] at hy
    rw [hvs, hi0] at hu
    simp at hu hy
    subst hu hy
    refine hJ.keep (fun b hb hlt => ⟨⟨Nat.le_trans hBC hb, fun e => ?_, fun e => ?_⟩, key b hlt (by have : C ≤ b := hb; omega) (fun e => ?_)⟩) hs
    · have := hlC b e; have : C ≤ b := hb; omega
    · have := hnC b e; have : C ≤ b := hb; omega
    · have hbg : b = g := by simpa [Value.ownBlock] using e.symm
      have : C ≤ b := hb
      rcases hg with hg | hg
      · have := hlC g hg; omega
      · omega
/-- One name more. -/
theorem RBox.name {nv' : Value} {t : List Nat} {w2 : World} (h : RBox kind B V ns l nv lv w) (ht : t.length ≤ 140737488355328 ∧ ∀ x ∈ t, x < 256)
    (ho : w2.ownsRow B 9 1 nv' (ns.length + 1) (tcells ns ++ [.string (strOf t)])) (hgr : w.grownBy w2 nv.ownBlock) (hat : nv'.ownBlock = nv.ownBlock ∨ nv'.ownBlock = some w.heap.size) :
    RBox kind B V (ns ++ [t]) l nv' lv (w2.setCell ⟨V, 4, none⟩ nv') := by
  obtain ⟨vs, hvs, hr, hel⟩ := h.rows
  have hV := h.hV
  have hnlt := h.names.lt
  have hs : w.heap.size ≤ (w2.setCell ⟨V, 4, none⟩ nv').heap.size := by
    have h1 := hgr.size
    have h2 : ∀ (W : World) (a : Addr) (v : Value), (W.setCell a v).heap.size = W.heap.size := fun W a v => by simp [World.setCell]
    rw [h2]; exact h1
  have key : ∀ k, k < w.heap.size → k ≠ V → nv.ownBlock ≠ some k → (w2.setCell ⟨V, 4, none⟩ nv').heap[k]? = w.heap[k]? := fun k h1 h2 h3 => by
    rw [Below.heap_setCell _ _ _ _ h2, hgr.block k h1 (fun e => h3 e.symm)]
  have hnew : ∀ b, b < w.heap.size → nv.ownBlock ≠ some b → nv'.ownBlock ≠ some b := fun b h1 h2 e => by
    rcases hat with hat | hat
    · exact h2 (hat.symm.trans e)
    · rw [hat] at e; injection e with e; omega
  refine { h with
    box := by
      have := (h.box.grown hgr (fun e => by have := (hnlt V e.symm).1; omega)).put 4 nv'
      simpa using this
    names := by
      have e : tcells (ns ++ [t]) = tcells ns ++ [.string (strOf t)] := by simp [tcells]
      rw [e, List.length_append]
      exact own_far ho (fun k hk => Below.heap_setCell _ _ _ _ (show k ≠ V by have := (ho.lt k hk).1; omega))
    nlt := fun p hp => by
      rcases List.mem_append.1 hp with hp | hp
      · exact h.nlt p hp
      · rw [List.mem_singleton.1 hp]; exact ht
    rows := ⟨vs, hvs, own_far hr (fun k hk => key k (hr.lt k hk).2 (by have := (hr.lt k hk).1; omega) (fun e => h.apart k e hk)), fun i u y hu hy => (hel i u y hu hy).keep (fun b hb hlt => ⟨⟨hb.1, hnew b hlt hb.2.1, hb.2.2⟩, key b hlt (by have := hb.1; omega) hb.2.1⟩) hs⟩
    apart := fun b hb e => hnew b (hr.lt b e).2 (fun e' => h.apart b e' e) hb
    size := Nat.le_trans h.size hs }
end

/-- A value that was read, the place behind it, what is amiss. -/
abbrev gotV (k : Int) (b : Bool) (n : Int) (t : ByteArray) (names list : Value) (at_ e : Int) : Value := .agg #[.int .i64 k, .bool b, .int .i64 n, .string t, names, list, .int .i64 at_, .int .i64 e]
/-- How a reading function ends. -/
def GotEnd (S : List Nat) (i : Nat) (res : Jq.R Jq.J) (w : World) (e : Ending) (w' : World) : Prop := Below w.heap.size w w' ∧ match res with
  | .ok (x, r) => ∃ A1 c1 A2 c2, ∃ j : Nat, e = .returned (gotV x.kind x.bool x.int (strOf x.text) (.slice A1 x.names.length c1) (.slice A2 x.list.length c2) j 0) ∧ IsJ w' (w.heap.size ≤ ·) (jv x.kind x.bool x.int (strOf x.text) (.slice A1 x.names.length c1) (.slice A2 x.list.length c2)) x ∧ r = S.drop j ∧ j ≤ S.length ∧ i ≤ j
  | .error n => 0 < n ∧ ∃ k b m t A1 n1 c1 A2 n2 c2 at_, e = .returned (gotV k b m t (.slice A1 n1 c1) (.slice A2 n2 c2) at_ n)
section
variable {S : List Nat} {i : Nat} {res : Jq.R Jq.J} {w w' : World} {e : Ending}
theorem GotEnd.cases (h : GotEnd S i res w e w') :
    (∃ x r A1 c1 A2 c2, ∃ j : Nat, res = .ok (x, r) ∧ e = .returned (gotV x.kind x.bool x.int (strOf x.text) (.slice A1 x.names.length c1) (.slice A2 x.list.length c2) j 0) ∧ IsJ w' (w.heap.size ≤ ·) (jv x.kind x.bool x.int (strOf x.text) (.slice A1 x.names.length c1) (.slice A2 x.list.length c2)) x ∧ r = S.drop j ∧ j ≤ S.length ∧ i ≤ j ∧ Below w.heap.size w w') ∨
    (∃ n, res = .error n ∧ 0 < n ∧ (∃ k b m t A1 n1 c1 A2 n2 c2 at_, e = .returned (gotV k b m t (.slice A1 n1 c1) (.slice A2 n2 c2) at_ n)) ∧ Below w.heap.size w w') := by
  obtain ⟨hb, h⟩ := h
  cases hr : res with
  | ok p =>
    obtain ⟨x, r⟩ := p
    rw [hr] at h
    obtain ⟨A1, c1, A2, c2, j, h1, h2, h3, h4, h5⟩ := h
    exact .inl ⟨x, r, A1, c1, A2, c2, j, rfl, h1, h2, h3, h4, h5, hb⟩
  | error n =>
    rw [hr] at h
    exact .inr ⟨n, rfl, h.1, h.2, hb⟩
theorem GotEnd.err {n : Nat} {k m at_ : Int} {b : Bool} {t : ByteArray} {A1 A2 : Option Addr} {n1 c1 n2 c2 : Nat} (h : res = .error n) (hn : 0 < n) (hb : Below w.heap.size w w') : GotEnd S i res w (.returned (gotV k b m t (.slice A1 n1 c1) (.slice A2 n2 c2) at_ n)) w' := by
  rw [h]; exact ⟨hb, hn, _, _, _, _, _, _, _, _, _, _, _, rfl⟩
theorem GotEnd.ok {x : Jq.J} {r : List Nat} {A1 A2 : Option Addr} {c1 c2 j : Nat} (h : res = .ok (x, r)) (hJ : IsJ w' (w.heap.size ≤ ·) (jv x.kind x.bool x.int (strOf x.text) (.slice A1 x.names.length c1) (.slice A2 x.list.length c2)) x) (hr : r = S.drop j) (hj : j ≤ S.length) (hij : i ≤ j) (hb : Below w.heap.size w w') :
    GotEnd S i res w (.returned (gotV x.kind x.bool x.int (strOf x.text) (.slice A1 x.names.length c1) (.slice A2 x.list.length c2) j 0)) w' := by
  rw [h]; exact ⟨hb, _, _, _, _, _, rfl, hJ, hr, hj, hij⟩
end
end Go.Proofs.YthklgpflaghojaaGreatDoor

/-
  The result of the document's reading functions: a struct of eight cells in a block of the call's own.
-/
namespace Go.Proofs.YthklgpflaghojaaGreatDoor
open Go.RowKit

theorem drop_take_at (S : List Nat) (i n : Nat) : (S.take (i + n)).drop i = (S.drop i).take n := by
  rw [List.drop_take]; congr 1; omega
abbrev zero8 : List Value := [.int .i64 0, .bool false, .int .i64 0, .string ByteArray.empty, nilS, nilS, .int .i64 0, .int .i64 0]
/-- Eight cells are written. -/
abbrev put8 (w : World) (g : Nat) (a b c d e f h i : Value) : World := (((((((w.setCell ⟨g, 0, none⟩ a).setCell ⟨g, 1, none⟩ b).setCell ⟨g, 2, none⟩ c).setCell ⟨g, 3, none⟩ d).setCell ⟨g, 4, none⟩ e).setCell ⟨g, 5, none⟩ f).setCell ⟨g, 6, none⟩ h).setCell ⟨g, 7, none⟩ i
section
variable {w w' : World} {g : Nat} {ty : TypeId} {a b c d e f h i x0 x1 x2 x3 x4 x5 x6 x7 : Value}
theorem Lies.put8 (hl : Lies w g ty [x0, x1, x2, x3, x4, x5, x6, x7]) : Lies (put8 w g a b c d e f h i) g ty [a, b, c, d, e, f, h, i] := by
  have := (((((((hl.put 0 a).put 1 b).put 2 c).put 3 d).put 4 e).put 5 f).put 6 h).put 7 i
  simpa using this
theorem Lies.eight (hl : Lies w g ty [a, b, c, d, e, f, h, i]) : (w.cell? ⟨g, 0, none⟩ = some a ∧ w.cell? ⟨g, 1, none⟩ = some b ∧ w.cell? ⟨g, 2, none⟩ = some c ∧ w.cell? ⟨g, 3, none⟩ = some d ∧ w.cell? ⟨g, 4, none⟩ = some e ∧ w.cell? ⟨g, 5, none⟩ = some f ∧ w.cell? ⟨g, 6, none⟩ = some h ∧ w.cell? ⟨g, 7, none⟩ = some i) ∧
    (w.frozen? ⟨g, 0, none⟩ = false ∧ w.frozen? ⟨g, 1, none⟩ = false ∧ w.frozen? ⟨g, 2, none⟩ = false ∧ w.frozen? ⟨g, 3, none⟩ = false ∧ w.frozen? ⟨g, 4, none⟩ = false ∧ w.frozen? ⟨g, 5, none⟩ = false ∧ w.frozen? ⟨g, 6, none⟩ = false ∧ w.frozen? ⟨g, 7, none⟩ = false) :=
  ⟨⟨hl.cell 0, hl.cell 1, hl.cell 2, hl.cell 3, hl.cell 4, hl.cell 5, hl.cell 6, hl.cell 7⟩, hl.free 0, hl.free 1, hl.free 2, hl.free 3, hl.free 4, hl.free 5, hl.free 6, hl.free 7⟩
theorem put8_far {k : Nat} (hk : k ≠ g) : (Go.Proofs.YthklgpflaghojaaGreatDoor.put8 w g a b c d e f h i).heap[k]? = w.heap[k]? := by
  rw [Below.heap_setCell _ _ _ _ hk, Below.heap_setCell _ _ _ _ hk, Below.heap_setCell _ _ _ _ hk, Below.heap_setCell _ _ _ _ hk, Below.heap_setCell _ _ _ _ hk, Below.heap_setCell _ _ _ _ hk, Below.heap_setCell _ _ _ _ hk, Below.heap_setCell _ _ _ _ hk]
theorem put8_size : (Go.Proofs.YthklgpflaghojaaGreatDoor.put8 w g a b c d e f h i).heap.size = w.heap.size := by simp [World.setCell]
theorem below_put8 {w0 : World} {B : Nat} (hb : Below B w0 w) (hg : B ≤ g) : Below B w0 (Go.Proofs.YthklgpflaghojaaGreatDoor.put8 w g a b c d e f h i) :=
  (((((((hb.setCell hg _).setCell hg _).setCell hg _).setCell hg _).setCell hg _).setCell hg _).setCell hg _).setCell hg _
theorem IsJ.put8 {B : Nat} {v : Value} {x : Jq.J} (hJ : IsJ w (B ≤ ·) v x) (hg : g < B) : IsJ (Go.Proofs.YthklgpflaghojaaGreatDoor.put8 w g a b c d e f h i) (B ≤ ·) v x :=
  hJ.keep (fun k hk _ => ⟨hk, put8_far (by have : B ≤ k := hk; omega)⟩) (Nat.le_of_eq put8_size.symm)
end
section
variable {S : List Nat} {i G : Nat} {res : Jq.R Jq.J} {w wr : World}
theorem got_err {n : Nat} {k m at_ : Int} {b : Bool} {t : ByteArray} {A1 A2 : Option Addr} {n1 c1 n2 c2 : Nat} {a0 a1 a2 a3 a4 a5 a6 a7 : Value} (h : res = .error n) (hn : 0 < n) (hb : Below w.heap.size w wr) :
    GotEnd S i res w (.returned (gotV k b m t (.slice A1 n1 c1) (.slice A2 n2 c2) at_ n)) (put8 wr w.heap.size a0 a1 a2 a3 a4 a5 a6 a7) := GotEnd.err h hn (below_put8 hb (Nat.le_refl _))
theorem got_ok {x : Jq.J} {r : List Nat} {A1 A2 : Option Addr} {c1 c2 j C : Nat} {a0 a1 a2 a3 a4 a5 a6 a7 : Value} (h : res = .ok (x, r)) (hJ : IsJ wr (C ≤ ·) (jv x.kind x.bool x.int (strOf x.text) (.slice A1 x.names.length c1) (.slice A2 x.list.length c2)) x) (hC : w.heap.size < C) (hr : r = S.drop j) (hj : j ≤ S.length) (hij : i ≤ j) (hb : Below w.heap.size w wr) :
    GotEnd S i res w (.returned (gotV x.kind x.bool x.int (strOf x.text) (.slice A1 x.names.length c1) (.slice A2 x.list.length c2) j 0)) (put8 wr w.heap.size a0 a1 a2 a3 a4 a5 a6 a7) :=
  GotEnd.ok h ((hJ.put8 hC).from (Nat.le_of_lt hC)) hr hj hij (below_put8 hb (Nat.le_refl _))
/-- How a reading function refuses, and with what in its result's block. -/
abbrev errV (n : Int) : Value := gotV 0 false 0 ByteArray.empty nilS nilS 0 n
abbrev putErr (w : World) (g : Nat) (n : Int) : World := put8 w g (.int .i64 0) (.bool false) (.int .i64 0) (.string { data := #[] }) nilS nilS (.int .i64 0) (.int .i64 n)
theorem got_no {n : Nat} {m : Int} (h : res = .error n) (hm : m = (n : Int)) (hn : 0 < n) (hb : Below w.heap.size w wr) : GotEnd S i res w (.returned (errV m)) (putErr wr w.heap.size m) := by
  subst hm; exact got_err h hn hb
theorem put8_lies {ty : TypeId} {x0 x1 x2 x3 x4 x5 x6 x7 a b c d e f h k : Value} (hl : Lies wr G ty [x0, x1, x2, x3, x4, x5, x6, x7]) : Lies (put8 wr G a b c d e f h k) G ty [a, b, c, d, e, f, h, k] := hl.put8
end
end Go.Proofs.YthklgpflaghojaaGreatDoor

/-
  The document's word.
-/
namespace Go.Proofs.YthklgpflaghojaaGreatDoor
open Go.RowKit


set_option maxHeartbeats 400000 in
set_option maxRecDepth 100000 in
theorem refWord_any (s wd : ByteArray) (i : Nat) (hi : i ≤ s.size) (hs : s.size ≤ 4096) (hw0 : wd.size ≤ 5) (k : Int) (hk : 0 ≤ k ∧ k ≤ 9) (b : Bool) (w : World) :
    Calls Tryz.prog 103 #[.string s, .int .i64 i, .string wd, jv k b 0 ByteArray.empty nilS nilS] w (GotEnd (numsOf s) i (Jq.word (numsOf wd) (.mk k b 0 [] [] []) ((numsOf s).drop i)) w) := by
  obtain ⟨RES, eRES⟩ : ∃ RES, Jq.word (numsOf wd) (.mk k b 0 [] [] []) ((numsOf s).drop i) = RES := ⟨_, rfl⟩
  rw [eRES]
  obtain ⟨N, eN⟩ : ∃ N, wd.size = N := ⟨_, rfl⟩
  have hlen : (numsOf wd).length = N := by rw [numsOf_length, eN]
  unfold Jq.word at eRES
  rw [hlen] at eRES
  have hJ : ∀ (w' : World) (ok : Nat → Prop), IsJ w' ok (jv k b 0 ByteArray.empty nilS nilS) (.mk k b 0 [] [] []) := fun w' ok => isJ_plain w' ok (t := []) (by omega) (by omega) ⟨by simp, fun x hx => nomatch hx⟩
  have hb2 : ∀ o o', Below w.heap.size w ((w.alloc o).alloc o') := fun o o' => ((Below.refl _ _).alloc (Nat.le_refl _) o).alloc (by simp) o'
  have HNO : Hid (RES = .error 51 → ∀ o o', GotEnd (numsOf s) i RES w (.returned (errV 51)) ((w.alloc o).alloc o')) := fun h o o' => GotEnd.err (n := 51) h (by decide) (hb2 o o')
  by_cases h1 : s.size - i < N
  · have d1 : decide ((s.size : Int) - (i : Int) < (N : Int)) = true := decide_eq_true (by omega)
    have HE := Lib.hid (HNO.out (by
      rw [← eRES, if_neg (fun e => by
        have := congrArg List.length e
        rw [List.length_take, List.length_drop, numsOf_length, hlen] at this
        omega)]))
    clear eRES hlen hJ
    go_enter Tryz.func103, Tryz.ntmps103
    go_wp2
    refine bodyPost_ret (v := errV 51) ?_ rfl ?_
    · (simp [results, Tryz.results103, go_sem] <;> rfl)
    · exact HE.out _ _
  · have d1 : decide ((s.size : Int) - (i : Int) < (N : Int)) = false := decide_eq_false (by omega)
    have d2 : (0 : Int) ≤ (i : Int) := by omega
    have d3 : (i : Int) ≤ (i : Int) + (N : Int) := by omega
    have d4 : (i : Int) + (N : Int) ≤ (s.size : Int) := by omega
    have hx : numsOf (s.extract i (i + N)) = ((numsOf s).drop i).take N := by rw [nums_extract, drop_take_at]
    have hbe : ((s.extract i (i + N)).toList == wd.toList) = decide (((numsOf s).drop i).take N = numsOf wd) := by
      have := str_beq (p := ((numsOf s).drop i).take N) (q := numsOf wd) (take_lt (drop_lt (numsOf_lt s) _) _) (numsOf_lt wd)
      rw [strOf_numsOf, ← eq_strOf hx] at this
      exact this
    by_cases h2 : ((numsOf s).drop i).take N = numsOf wd
    · rw [decide_eq_true h2] at hbe
      have HE : Hid (∀ o o', GotEnd (numsOf s) i RES w (.returned (gotV k b 0 ByteArray.empty nilS nilS ((i : Int) + (N : Int)) 0)) ((w.alloc o).alloc o')) := fun o o' => by
        have h := GotEnd.ok (S := numsOf s) (i := i) (w := w) (x := .mk k b 0 [] [] []) (res := RES) (r := (numsOf s).drop (i + N)) (A1 := none) (A2 := none) (c1 := 0) (c2 := 0) (j := i + N) (by rw [← eRES, if_pos h2, List.drop_drop]) (hJ ((w.alloc o).alloc o') _) rfl (by rw [numsOf_length]; omega) (Nat.le_add_right _ _) (hb2 o o')
        exact h
      clear eRES hlen hJ h2 hx HNO
      go_enter Tryz.func103, Tryz.ntmps103
      go_wp2
      refine bodyPost_ret (v := gotV k b 0 ByteArray.empty nilS nilS ((i : Int) + (N : Int)) 0) ?_ rfl ?_
      · (simp [results, Tryz.results103, go_sem] <;> rfl)
      · exact HE.out _ _
    · rw [decide_eq_false h2] at hbe
      have HE := Lib.hid (HNO.out (by rw [← eRES, if_neg h2]))
      clear eRES hlen hJ h2 hx HNO
      go_enter Tryz.func103, Tryz.ntmps103
      go_wp2
      refine bodyPost_ret (v := errV 51) ?_ rfl ?_
      · (simp [results, Tryz.results103, go_sem] <;> rfl)
      · exact HE.out _ _
end Go.Proofs.YthklgpflaghojaaGreatDoor
