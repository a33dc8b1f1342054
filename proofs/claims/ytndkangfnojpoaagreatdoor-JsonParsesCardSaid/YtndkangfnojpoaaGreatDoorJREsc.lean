/-
  The document's escape.
-/
import Derived.Test.YtndkangfnojpoaaGreatDoorJFour
namespace Go.Proofs.YtndkangfnojpoaaGreatDoor
open Go.RowKit

/-- How escape ends. -/
def EscEnd (S : List Nat) (i : Nat) (w : World) (e : Ending) (w' : World) : Prop := w = w' ∧ ∃ r nx : Int, e = .returned (.tuple #[.int .i64 r, .int .i64 nx]) ∧ match Jq.escape (S.drop i) with
  | none => r < 0
  | some (x, rest) => r = (x : Int) ∧ x ≤ 1114111 ∧ ∃ k : Nat, nx = (k : Int) ∧ i < k ∧ k ≤ S.length ∧ rest = S.drop k
theorem drop_of {S : List Nat} {i c : Nat} (h : S.getD i 0 = c) (hc : c ≠ 0) : i < S.length ∧ S.drop i = c :: S.drop (i + 1) := by
  have hi : i < S.length := by
    rcases Nat.lt_or_ge i S.length with h1 | h1
    · exact h1
    · exfalso; rw [List.getD_eq_getElem?_getD, List.getElem?_eq_none h1] at h; exact hc h.symm
  refine ⟨hi, ?_⟩
  rw [List.drop_eq_getElem_cons hi]
  rw [List.getD_eq_getElem?_getD, List.getElem?_eq_getElem hi] at h
  simp at h
  rw [h]
theorem head_of {S : List Nat} {i c x : Nat} {r : List Nat} (h : S.getD i 0 = c) (hd : S.drop i = x :: r) : x = c := by
  have h0 : (S.drop i)[0]? = some x := by rw [hd]; rfl
  rw [List.getElem?_drop, Nat.add_zero] at h0
  rw [List.getD_eq_getElem?_getD, h0] at h
  exact h
theorem take_two {S : List Nat} {i : Nat} : (S.drop i).take 2 = [92, 117] ↔ S.getD i 0 = 92 ∧ S.getD (i + 1) 0 = 117 := by
  constructor
  · intro h
    have h0 : (S.drop i)[0]? = some 92 := (List.getElem?_take_of_lt (show 0 < 2 by decide)).symm.trans (by rw [h]; rfl)
    have h1 : (S.drop i)[1]? = some 117 := (List.getElem?_take_of_lt (show 1 < 2 by decide)).symm.trans (by rw [h]; rfl)
    rw [List.getElem?_drop] at h0 h1
    rw [List.getD_eq_getElem?_getD, List.getD_eq_getElem?_getD]
    exact ⟨by rw [show i = i + 0 from rfl, h0]; rfl, by rw [h1]; rfl⟩
  · rintro ⟨h0, h1⟩
    rw [(drop_of h0 (by decide)).2, (drop_of h1 (by decide)).2]
    rfl
theorem esc_pair {S : List Nat} {i n : Nat} (h : S.getD i 0 = 117) (h4 : Jq.four (S.drop (i + 1)) = some n) (hn : ¬ (n < 55296 ∨ 57343 < n)) :
    Jq.escape (S.drop i) = if n ≤ 56319 ∧ S.getD (i + 5) 0 = 92 ∧ S.getD (i + 6) 0 = 117 then (match Jq.four (S.drop (i + 7)) with
      | none => none
      | some m => if 56320 ≤ m ∧ m ≤ 57343 then some (65536 + (n - 55296) * 1024 + (m - 56320), S.drop (i + 11)) else none) else none := by
  rw [(drop_of h (by decide)).2]
  simp only [Jq.escape]
  rw [h4]
  simp only [hn, if_false, List.drop_drop]
  rw [show i + 1 + 4 = i + 5 from by omega, show i + 1 + 6 = i + 7 from by omega, show i + 1 + 10 = i + 11 from by omega]
  have e := take_two (S := S) (i := i + 5)
  by_cases hc : n ≤ 56319 ∧ S.getD (i + 5) 0 = 92 ∧ S.getD (i + 6) 0 = 117
  · rw [if_pos hc]
    rw [if_neg (by decide), if_neg (by decide), if_neg (by decide), if_neg (by decide), if_neg (by decide), if_neg (by decide), if_pos trivial, if_pos ⟨hc.1, e.2 hc.2⟩]
    cases Jq.four (S.drop (i + 7)) <;> rfl
  · rw [if_neg hc]
    rw [if_neg (by decide), if_neg (by decide), if_neg (by decide), if_neg (by decide), if_neg (by decide), if_neg (by decide), if_pos trivial, if_neg (fun hh => hc ⟨hh.1, e.1 hh.2⟩)]
theorem four_long {l : List Nat} {n : Nat} (h : Jq.four l = some n) : 4 ≤ l.length ∧ n < 65536 := by
  match l with
  | [] | [_] | [_, _] | [_, _, _] => simp [Jq.four] at h
  | a :: b :: c :: d :: r =>
    simp only [Jq.four] at h
    split at h
    · rename_i hh
      injection h with h
      exact ⟨by simp, by omega⟩
    · cases h
theorem esc_one {S : List Nat} {i c x : Nat} {w : World} (h : S.getD i 0 = c) (hc : c ≠ 0) (he : ∀ r, Jq.escape (c :: r) = some (x, r)) (hx : x ≤ 1114111) : EscEnd S i w (.returned (.tuple #[.int .i64 (x : Int), .int .i64 ((i + 1 : Nat) : Int)])) w := by
  obtain ⟨h1, h2⟩ := drop_of h hc
  refine ⟨rfl, _, _, rfl, ?_⟩
  rw [h2, he]
  exact ⟨rfl, hx, i + 1, rfl, Nat.lt_succ_self _, h1, rfl⟩
theorem esc_none {S : List Nat} {i : Nat} {w : World} {r nx : Int} (h : Jq.escape (S.drop i) = none) (hr : r < 0) : EscEnd S i w (.returned (.tuple #[.int .i64 r, .int .i64 nx])) w := by
  refine ⟨rfl, _, _, rfl, ?_⟩
  rw [h]
  exact hr
theorem esc_unit {S : List Nat} {i n : Nat} {w : World} (h : S.getD i 0 = 117) (h4 : Jq.four (S.drop (i + 1)) = some n) (hn : n < 55296 ∨ 57343 < n) : EscEnd S i w (.returned (.tuple #[.int .i64 (n : Int), .int .i64 ((i + 5 : Nat) : Int)])) w := by
  obtain ⟨h1, h2⟩ := drop_of h (by decide)
  obtain ⟨h3, h5⟩ := four_long h4
  rw [List.length_drop] at h3
  refine ⟨rfl, _, _, rfl, ?_⟩
  rw [h2]
  simp only [Jq.escape]
  rw [h4]
  simp only [hn, if_true, List.drop_drop]
  exact ⟨rfl, by omega, i + 5, rfl, by omega, by omega, rfl⟩
theorem esc_four_none {S : List Nat} {i : Nat} (h : S.getD i 0 = 117) (h4 : Jq.four (S.drop (i + 1)) = none) : Jq.escape (S.drop i) = none := by
  rw [(drop_of h (by decide)).2]
  simp only [Jq.escape]
  rw [h4]
  simp

set_option maxHeartbeats 8000000 in
set_option maxRecDepth 100000 in
theorem refEscape_any (s : ByteArray) (i : Nat) (hi : i ≤ 4611686018427387000) (w : World) :
    Calls Tryz.prog 62 #[.string s, .int .i64 i] w (EscEnd (numsOf s) i w) := by
  have hA := at_any s i w
  obtain ⟨S, eS⟩ : ∃ S, numsOf s = S := ⟨_, rfl⟩
  obtain ⟨c, ec⟩ : ∃ c, S.getD i 0 = c := ⟨_, rfl⟩
  have hF := fun (k : Nat) (hk : k ≤ 100) (w : World) => four_any s (i + k) (by omega) w
  have hA2 := fun (k : Nat) (w : World) => at_any s (i + k) w
  rw [eS] at hA hF hA2
  rw [ec] at hA
  rw [eS]
  have HC := Lib.hid ec
  clear ec eS
  by_cases h34 : c = 34
  · subst h34
    have HE : Hid (EscEnd S i w (.returned (.tuple #[.int .i64 (34 : Int), .int .i64 ((i + 1 : Nat) : Int)])) w) := esc_one (x := 34) HC.out (by decide) (fun r => rfl) (by decide)
    clear hF hA2
    go_enter Tryz.func62, Tryz.ntmps62
    go_wp2_with fail
    refine hA.mono ?_
    rintro e w' ⟨rfl, rfl⟩
    go_wp2
    go_ret2
    exact HE.out
  by_cases h92 : c = 92
  · subst h92
    have HE : Hid (EscEnd S i w (.returned (.tuple #[.int .i64 (92 : Int), .int .i64 ((i + 1 : Nat) : Int)])) w) := esc_one (x := 92) HC.out (by decide) (fun r => rfl) (by decide)
    clear hF hA2
    go_enter Tryz.func62, Tryz.ntmps62
    go_wp2_with fail
    refine hA.mono ?_
    rintro e w' ⟨rfl, rfl⟩
    go_wp2
    go_ret2
    exact HE.out
  by_cases h47 : c = 47
  · subst h47
    have HE : Hid (EscEnd S i w (.returned (.tuple #[.int .i64 (47 : Int), .int .i64 ((i + 1 : Nat) : Int)])) w) := esc_one (x := 47) HC.out (by decide) (fun r => rfl) (by decide)
    clear hF hA2
    go_enter Tryz.func62, Tryz.ntmps62
    go_wp2_with fail
    refine hA.mono ?_
    rintro e w' ⟨rfl, rfl⟩
    go_wp2
    go_ret2
    exact HE.out
  by_cases h98 : c = 98
  · subst h98
    have HE : Hid (EscEnd S i w (.returned (.tuple #[.int .i64 (8 : Int), .int .i64 ((i + 1 : Nat) : Int)])) w) := esc_one (x := 8) HC.out (by decide) (fun r => rfl) (by decide)
    clear hF hA2
    go_enter Tryz.func62, Tryz.ntmps62
    go_wp2_with fail
    refine hA.mono ?_
    rintro e w' ⟨rfl, rfl⟩
    go_wp2
    go_ret2
    exact HE.out
  by_cases h102 : c = 102
  · subst h102
    have HE : Hid (EscEnd S i w (.returned (.tuple #[.int .i64 (12 : Int), .int .i64 ((i + 1 : Nat) : Int)])) w) := esc_one (x := 12) HC.out (by decide) (fun r => rfl) (by decide)
    clear hF hA2
    go_enter Tryz.func62, Tryz.ntmps62
    go_wp2_with fail
    refine hA.mono ?_
    rintro e w' ⟨rfl, rfl⟩
    go_wp2
    go_ret2
    exact HE.out
  by_cases h110 : c = 110
  · subst h110
    have HE : Hid (EscEnd S i w (.returned (.tuple #[.int .i64 (10 : Int), .int .i64 ((i + 1 : Nat) : Int)])) w) := esc_one (x := 10) HC.out (by decide) (fun r => rfl) (by decide)
    clear hF hA2
    go_enter Tryz.func62, Tryz.ntmps62
    go_wp2_with fail
    refine hA.mono ?_
    rintro e w' ⟨rfl, rfl⟩
    go_wp2
    go_ret2
    exact HE.out
  by_cases h114 : c = 114
  · subst h114
    have HE : Hid (EscEnd S i w (.returned (.tuple #[.int .i64 (13 : Int), .int .i64 ((i + 1 : Nat) : Int)])) w) := esc_one (x := 13) HC.out (by decide) (fun r => rfl) (by decide)
    clear hF hA2
    go_enter Tryz.func62, Tryz.ntmps62
    go_wp2_with fail
    refine hA.mono ?_
    rintro e w' ⟨rfl, rfl⟩
    go_wp2
    go_ret2
    exact HE.out
  by_cases h116 : c = 116
  · subst h116
    have HE : Hid (EscEnd S i w (.returned (.tuple #[.int .i64 (9 : Int), .int .i64 ((i + 1 : Nat) : Int)])) w) := esc_one (x := 9) HC.out (by decide) (fun r => rfl) (by decide)
    clear hF hA2
    go_enter Tryz.func62, Tryz.ntmps62
    go_wp2_with fail
    refine hA.mono ?_
    rintro e w' ⟨rfl, rfl⟩
    go_wp2
    go_ret2
    exact HE.out
  have t34 : ((c : Int) == 34) = false := by simp; omega
  have t92 : ((c : Int) == 92) = false := by simp; omega
  have t47 : ((c : Int) == 47) = false := by simp; omega
  have t98 : ((c : Int) == 98) = false := by simp; omega
  have t102 : ((c : Int) == 102) = false := by simp; omega
  have t110 : ((c : Int) == 110) = false := by simp; omega
  have t114 : ((c : Int) == 114) = false := by simp; omega
  have t116 : ((c : Int) == 116) = false := by simp; omega
  by_cases h117 : c = 117
  rotate_left
  · have t117 : ((c : Int) == 117) = false := by simp; omega
    have HE : Hid (EscEnd S i w (.returned (.tuple #[.int .i64 (-1), .int .i64 (i : Int)])) w) := esc_none (by
      cases hd : S.drop i with
      | nil => rfl
      | cons x r =>
        obtain rfl := head_of HC.out hd
        simp [Jq.escape, h34, h92, h47, h98, h102, h110, h114, h116, h117]) (by decide)
    clear hF hA2 h34 h92 h47 h98 h102 h110 h114 h116 h117
    go_enter Tryz.func62, Tryz.ntmps62
    go_wp2_with fail
    refine hA.mono ?_
    rintro e w' ⟨rfl, rfl⟩
    go_wp2
    go_ret2
    exact HE.out
  subst h117
  clear h34 h92 h47 h98 h102 h110 h114 h116
  have hF1 := hF 1 (by decide) w
  cases h4 : Jq.four (S.drop (i + 1)) with
  | none =>
    rw [h4] at hF1
    have HE : Hid (EscEnd S i w (.returned (.tuple #[.int .i64 (-1), .int .i64 ((i + 5 : Nat) : Int)])) w) := esc_none (esc_four_none HC.out h4) (by decide)
    clear hF hA2 h4
    rw [show orLess none = -1 from rfl] at hF1
    go_enter Tryz.func62, Tryz.ntmps62
    go_wp2_with fail
    refine hA.mono ?_
    rintro e w' ⟨rfl, rfl⟩
    go_wp2_with fail
    refine hF1.mono ?_
    rintro e w' ⟨rfl, rfl⟩
    go_wp2
    go_ret2
    exact HE.out
  | some n =>
    rw [h4] at hF1
    rw [show orLess (some n) = (n : Int) from rfl] at hF1
    have hn6 := (four_long h4).2
    by_cases hn : n < 55296 ∨ 57343 < n
    · have HE : Hid (EscEnd S i w (.returned (.tuple #[.int .i64 (n : Int), .int .i64 ((i + 5 : Nat) : Int)])) w) := esc_unit HC.out h4 hn
      have hdd : decide ((n : Int) < 55296) = true ∨ (decide ((n : Int) < 55296) = false ∧ decide ((57343 : Int) < (n : Int)) = true) := by
        rcases hn with hn | hn
        · exact .inl (decide_eq_true (by omega))
        · by_cases h0 : n < 55296
          · exact .inl (decide_eq_true (by omega))
          · exact .inr ⟨decide_eq_false (by omega), decide_eq_true (by omega)⟩
      clear hF hA2 h4 hn
      rcases hdd with d1 | ⟨d1, d2⟩
      all_goals
        go_enter Tryz.func62, Tryz.ntmps62
        go_wp2_with fail
        refine hA.mono ?_
        rintro e w' ⟨rfl, rfl⟩
        go_wp2_with fail
        refine hF1.mono ?_
        rintro e w' ⟨rfl, rfl⟩
        go_wp2
        go_ret2
        exact HE.out
    have HP := Lib.hid (esc_pair HC.out h4 hn)
    have d1 : decide ((n : Int) < 55296) = false := decide_eq_false (by omega)
    have d2 : decide ((57343 : Int) < (n : Int)) = false := decide_eq_false (by omega)
    have hA5 := hA2 5 w
    have hA6 := hA2 6 w
    have hF7 := hF 7 (by decide) w
    have HG : Hid (55296 ≤ n ∧ n ≤ 57343 ∧ i + 5 ≤ S.length) := by
      have := (four_long h4).1
      have h1 := (drop_of HC.out (by decide)).1
      rw [List.length_drop] at this
      unfold Hid
      omega
    clear hF hA2 h4 hn hn6
    obtain ⟨a5, e5⟩ : ∃ a, S.getD (i + 5) 0 = a := ⟨_, rfl⟩
    obtain ⟨a6, e6⟩ : ∃ a, S.getD (i + 6) 0 = a := ⟨_, rfl⟩
    rw [e5] at hA5
    rw [e6] at hA6
    have HN : Hid (¬ (n ≤ 56319 ∧ a5 = 92 ∧ a6 = 117) → ∀ w, EscEnd S i w (.returned (.tuple #[.int .i64 (-1), .int .i64 (i : Int)])) w) := fun hc w => esc_none (by rw [HP.out, e5, e6, if_neg hc]) (by decide)
    have H6 := Lib.hid e6
    rw [e5, e6] at HP
    clear e5 e6
    have hbb : decide ((56319 : Int) < (n : Int)) = true ∨ decide ((56319 : Int) < (n : Int)) = false := by
      cases decide ((56319 : Int) < (n : Int))
      · exact .inr rfl
      · exact .inl rfl
    by_cases h5 : a5 = 92
    rotate_left
    · have t5 : ((a5 : Int) == 92) = false := by simp; omega
      have HE := Lib.hid (HN.out (fun h => h5 h.2.1) w)
      clear h5 hF7 hA6
      rcases hbb with b1 | b1
      all_goals
        go_enter Tryz.func62, Tryz.ntmps62
        go_wp2_with fail
        refine hA.mono ?_
        rintro e w' ⟨rfl, rfl⟩
        go_wp2_with fail
        refine hF1.mono ?_
        rintro e w' ⟨rfl, rfl⟩
        go_wp2_with fail
        refine hA5.mono ?_
        rintro e w' ⟨rfl, rfl⟩
        go_wp2
        go_ret2
        exact HE.out
    subst h5
    by_cases h6 : a6 = 117
    rotate_left
    · have t6 : ((a6 : Int) == 117) = false := by simp; omega
      have HE := Lib.hid (HN.out (fun h => h6 h.2.2) w)
      clear h6 hF7
      rcases hbb with b1 | b1
      all_goals
        go_enter Tryz.func62, Tryz.ntmps62
        go_wp2_with fail
        refine hA.mono ?_
        rintro e w' ⟨rfl, rfl⟩
        go_wp2_with fail
        refine hF1.mono ?_
        rintro e w' ⟨rfl, rfl⟩
        go_wp2_with fail
        refine hA5.mono ?_
        rintro e w' ⟨rfl, rfl⟩
        go_wp2_with fail
        refine hA6.mono ?_
        rintro e w' ⟨rfl, rfl⟩
        go_wp2
        go_ret2
        exact HE.out
    subst h6
    cases h7 : Jq.four (S.drop (i + 7)) with
    | none =>
      rw [h7] at hF7 HP
      rw [show orLess none = -1 from rfl] at hF7
      have HE : Hid (EscEnd S i w (.returned (.tuple #[.int .i64 (-1), .int .i64 (i : Int)])) w) := esc_none (by rw [HP.out]; split <;> rfl) (by decide)
      clear h7
      rcases hbb with b1 | b1
      all_goals
        go_enter Tryz.func62, Tryz.ntmps62
        go_wp2_with fail
        refine hA.mono ?_
        rintro e w' ⟨rfl, rfl⟩
        go_wp2_with fail
        refine hF1.mono ?_
        rintro e w' ⟨rfl, rfl⟩
        go_wp2_with fail
        refine hA5.mono ?_
        rintro e w' ⟨rfl, rfl⟩
        go_wp2_with fail
        refine hA6.mono ?_
        rintro e w' ⟨rfl, rfl⟩
        go_wp2_with fail
        refine hF7.mono ?_
        rintro e w' ⟨rfl, rfl⟩
        go_wp2
        go_ret2
        exact HE.out
    | some m =>
      rw [h7] at hF7 HP
      rw [show orLess (some m) = (m : Int) from rfl] at hF7
      have hm6 := (four_long h7)
      by_cases hok : n ≤ 56319 ∧ 56320 ≤ m ∧ m ≤ 57343
      rotate_left
      · have HE : Hid (EscEnd S i w (.returned (.tuple #[.int .i64 (-1), .int .i64 (i : Int)])) w) := esc_none (by
          rw [HP.out]
          by_cases h1 : n ≤ 56319
          · rw [if_pos ⟨h1, rfl, rfl⟩]
            exact if_neg (fun h => hok ⟨h1, h⟩)
          · exact if_neg (fun h => h1 h.1)) (by decide)
        have hdd : decide ((56319 : Int) < (n : Int)) = true ∨ (decide ((56319 : Int) < (n : Int)) = false ∧ decide ((m : Int) < 56320) = true) ∨ (decide ((56319 : Int) < (n : Int)) = false ∧ decide ((m : Int) < 56320) = false ∧ decide ((57343 : Int) < (m : Int)) = true) := by
          by_cases h1 : n ≤ 56319
          · by_cases h2 : 56320 ≤ m
            · exact .inr (.inr ⟨decide_eq_false (by omega), decide_eq_false (by omega), decide_eq_true (by omega)⟩)
            · exact .inr (.inl ⟨decide_eq_false (by omega), decide_eq_true (by omega)⟩)
          · exact .inl (decide_eq_true (by omega))
        clear h7 hok hm6 hbb
        rcases hdd with b1 | ⟨b1, b2⟩ | ⟨b1, b2, b3⟩
        all_goals
          go_enter Tryz.func62, Tryz.ntmps62
          go_wp2_with fail
          refine hA.mono ?_
          rintro e w' ⟨rfl, rfl⟩
          go_wp2_with fail
          refine hF1.mono ?_
          rintro e w' ⟨rfl, rfl⟩
          go_wp2_with fail
          refine hA5.mono ?_
          rintro e w' ⟨rfl, rfl⟩
          go_wp2_with fail
          refine hA6.mono ?_
          rintro e w' ⟨rfl, rfl⟩
          go_wp2_with fail
          refine hF7.mono ?_
          rintro e w' ⟨rfl, rfl⟩
          go_wp2
          go_ret2
          exact HE.out
      have HE : Hid (∀ r : Int, r = 65536 + ((n : Int) - 55296) * 1024 + m - 56320 → EscEnd S i w (.returned (.tuple #[.int .i64 r, .int .i64 ((i + 11 : Nat) : Int)])) w) := fun r hr => by
        refine ⟨rfl, _, _, rfl, ?_⟩
        rw [HP.out, if_pos ⟨hok.1, rfl, rfl⟩]
        simp only [hok.2, and_self, if_true]
        have := HG.out
        have hl := hm6.1
        rw [List.length_drop] at hl
        exact ⟨by omega, by omega, i + 11, rfl, by omega, by omega, rfl⟩
      have hnk : 55296 ≤ n ∧ n ≤ 57343 := ⟨HG.out.1, HG.out.2.1⟩
      have b1 : decide ((56319 : Int) < (n : Int)) = false := decide_eq_false (by omega)
      have b2 : decide ((m : Int) < 56320) = false := decide_eq_false (by omega)
      have b3 : decide ((57343 : Int) < (m : Int)) = false := decide_eq_false (by omega)
      have w1 : IntKind.i64.wrap ((n : Int) - 55296) = (n : Int) - 55296 := IntWalk.i64_in _ (by omega)
      have w2 : IntKind.i64.wrap (((n : Int) - 55296) * 1024) = ((n : Int) - 55296) * 1024 := IntWalk.i64_in _ (by omega)
      have w3 : IntKind.i64.wrap (65536 + ((n : Int) - 55296) * 1024) = 65536 + ((n : Int) - 55296) * 1024 := IntWalk.i64_in _ (by omega)
      have w4 : IntKind.i64.wrap (65536 + ((n : Int) - 55296) * 1024 + (m : Int)) = 65536 + ((n : Int) - 55296) * 1024 + (m : Int) := IntWalk.i64_in _ (by omega)
      have w5 : IntKind.i64.wrap (65536 + ((n : Int) - 55296) * 1024 + (m : Int) - 56320) = 65536 + ((n : Int) - 55296) * 1024 + (m : Int) - 56320 := IntWalk.i64_in _ (by omega)
      clear h7 hok hm6 hbb hnk
      go_enter Tryz.func62, Tryz.ntmps62
      go_wp2_with fail
      refine hA.mono ?_
      rintro e w' ⟨rfl, rfl⟩
      go_wp2_with fail
      refine hF1.mono ?_
      rintro e w' ⟨rfl, rfl⟩
      go_wp2_with fail
      refine hA5.mono ?_
      rintro e w' ⟨rfl, rfl⟩
      go_wp2_with fail
      refine hA6.mono ?_
      rintro e w' ⟨rfl, rfl⟩
      go_wp2_with fail
      refine hF7.mono ?_
      rintro e w' ⟨rfl, rfl⟩
      go_wp2
      go_ret2
      exact HE.out _ rfl
end Go.Proofs.YtndkangfnojpoaaGreatDoor
