/-
  The writing of a value that can be written is bytes.
-/
import Derived.Test.YthklgpflaghojaaGreatDoorWPA
import Derived.Test.YthklgpflaghojaaGreatDoorQU
namespace Go.Proofs.YthklgpflaghojaaGreatDoor.Wq

theorem runeBytes_lt {r : Nat} (h : Jq.okRune r = true) : ∀ x ∈ Jq.runeBytes r, x < 256 := by
  intro x hx
  have hr : r ≤ 1114111 := by
    unfold Jq.okRune at h
    simp only [Bool.and_eq_true, decide_eq_true_eq] at h
    exact h.1
  unfold Jq.runeBytes at hx
  split at hx
  · simp at hx; omega
  · split at hx
    · simp at hx; omega
    · split at hx <;> (simp at hx; omega)
theorem validF_lt : ∀ (f : Nat) (t : List Nat), Jq.validF f t = true → ∀ x ∈ t, x < 256
  | _, [], _ => fun _ h => nomatch h
  | 0, c :: r, h => by simp [Jq.validF] at h
  | f + 1, c :: r, h => by
    unfold Jq.validF at h
    by_cases h0 : Jq.long (c :: r) = 0
    · rw [if_pos h0] at h; cases h
    · rw [if_neg h0] at h
      obtain ⟨e, ho⟩ := Jq.long_rune_bytes h0
      intro x hx
      rw [← List.take_append_drop (Jq.long (c :: r)) (c :: r)] at hx
      rcases List.mem_append.1 hx with hx | hx
      · rw [← e] at hx; exact runeBytes_lt ho x hx
      · exact validF_lt f _ h x hx
theorem valid_lt {t : List Nat} (h : Jq.valid t = true) : ∀ x ∈ t, x < 256 := validF_lt _ _ h
theorem digits_lt (n : Nat) : ∀ x ∈ Jq.digits n, x < 256 := by
  intro x hx
  have := (Jq.digits_of n).1 x hx
  unfold Jq.dig at this
  simp only [Bool.and_eq_true, decide_eq_true_eq] at this
  omega
theorem inter_mem {q p : List Nat} : ∀ {l : List (List Nat)}, p ∈ List.intersperse q l → p = q ∨ p ∈ l
  | [], h => by simp at h
  | [a], h => .inr (by simpa using h)
  | a :: b :: s, h => by
    rw [List.intersperse_cons_cons] at h
    rcases List.mem_cons.1 h with rfl | h
    · exact .inr (List.mem_cons_self ..)
    · rcases List.mem_cons.1 h with rfl | h
      · exact .inl rfl
      · rcases inter_mem h with h | h
        · exact .inl h
        · exact .inr (List.mem_cons_of_mem _ h)
theorem joined_lt {l : List (List Nat)} (h : ∀ p ∈ l, ∀ x ∈ p, x < 256) : ∀ x ∈ Jq.joined l, x < 256 := by
  intro x hx
  unfold Jq.joined List.intercalate at hx
  obtain ⟨p, hp, hx⟩ := List.mem_flatten.1 hx
  rcases inter_mem hp with rfl | hm
  · obtain rfl : x = 44 := by simpa using hx
    decide
  · exact h p hm x hx
theorem zip_mem {α β γ : Type} {f : α → β → γ} : ∀ {l : List α} {m : List β} {c : γ}, c ∈ List.zipWith f l m → ∃ a ∈ l, ∃ b ∈ m, c = f a b
  | [], _, _, h => by simp at h
  | _ :: _, [], _, h => by simp at h
  | a :: l, b :: m, c, h => by
    rw [List.zipWith_cons_cons] at h
    rcases List.mem_cons.1 h with rfl | h
    · exact ⟨a, List.mem_cons_self .., b, List.mem_cons_self .., rfl⟩
    · obtain ⟨a', ha, b', hb, e⟩ := zip_mem h
      exact ⟨a', List.mem_cons_of_mem _ ha, b', List.mem_cons_of_mem _ hb, e⟩
theorem write_lt : ∀ (n : Nat) (v : Jq.J), Jq.Good n v → ∀ x ∈ Jq.write n v, x < 256 := by
  intro n
  induction n with
  | zero =>
    intro v hg x hx
    obtain ⟨_, _, _, _, _, _, _, _, hv, _⟩ := Jq.good_form hg
    rw [Jq.write] at hx
    split at hx
    · exact (by decide : ∀ x ∈ Jq.wNull, x < 256) x hx
    split at hx
    · split at hx
      · exact (by decide : ∀ x ∈ Jq.wTrue, x < 256) x hx
      · exact (by decide : ∀ x ∈ Jq.wFalse, x < 256) x hx
    split at hx
    · unfold Jq.decimal at hx
      split at hx
      · rcases List.mem_cons.1 hx with rfl | hx
        · decide
        · exact digits_lt _ x hx
      · exact digits_lt _ x hx
    split at hx
    · exact quoted_lt (valid_lt hv) x hx
    · simp at hx
  | succ n ih =>
    intro v hg x hx
    obtain ⟨_, _, _, _, _, _, _, _, hv, _, _, _, hn⟩ := Jq.good_form hg
    rw [Jq.write] at hx
    split at hx
    · exact (by decide : ∀ x ∈ Jq.wNull, x < 256) x hx
    split at hx
    · split at hx
      · exact (by decide : ∀ x ∈ Jq.wTrue, x < 256) x hx
      · exact (by decide : ∀ x ∈ Jq.wFalse, x < 256) x hx
    split at hx
    · unfold Jq.decimal at hx
      split at hx
      · rcases List.mem_cons.1 hx with rfl | hx
        · decide
        · exact digits_lt _ x hx
      · exact digits_lt _ x hx
    split at hx
    · exact quoted_lt (valid_lt hv) x hx
    split at hx
    · rcases List.mem_cons.1 hx with rfl | hx
      · decide
      rcases List.mem_append.1 hx with hx | hx
      · refine joined_lt (fun p hp => ?_) x hx
        obtain ⟨y, hy, rfl⟩ := List.mem_map.1 hp
        exact ih y (hg.2 y hy)
      · obtain rfl : x = 93 := by simpa using hx
        decide
    · rename_i h0 h1 h2 h3 h4
      have h5 : v.kind = 5 := by
        obtain ⟨a, b, _⟩ := Jq.good_form hg
        omega
      obtain ⟨_, hnm, _⟩ := hn h5
      rcases List.mem_cons.1 hx with rfl | hx
      · decide
      rcases List.mem_append.1 hx with hx | hx
      · refine joined_lt (fun p hp => ?_) x hx
        obtain ⟨t, ht, y, hy, rfl⟩ := zip_mem hp
        intro z hz
        rcases List.mem_append.1 hz with hz | hz
        · exact quoted_lt (valid_lt (hnm t ht).2) z hz
        · rcases List.mem_cons.1 hz with rfl | hz
          · decide
          · exact ih y (hg.2 y hy) z hz
      · obtain rfl : x = 125 := by simpa using hx
        decide
theorem valueP_lt {x : Jq.J} {T : List Nat} (h : Jq.valueP 16 [] x = some T) : ∀ y ∈ T, y < 256 := by
  obtain ⟨hg, he, _⟩ := Jq.valueP_some h
  rw [he]
  exact write_lt 16 x hg
/-- A token that was signed is opened. -/
theorem open_signed {k : List Nat} {x : Jq.J} {key S : List Nat} (h : signP k x key = some S) : ∃ G, openP S = .ok ⟨k, x, G, Sha.mac key G⟩ ∧ (∀ y ∈ S, y < 256) ∧ (∀ y ∈ G, y < 256) ∧ S.length ≤ 5710 ∧ G.length ≤ 5710 := by
  obtain ⟨hk, hx, T, hT, rfl⟩ := signP_some h
  obtain ⟨_, _, hl⟩ := Jq.valueP_some hT
  exact ⟨_, open_token hk hx hT (valueP_lt hT), token_lt _ _ _, signedT_lt _ _, token_len hk hl, Nat.le_trans (signedT_len hk hl) (by decide)⟩
end Go.Proofs.YthklgpflaghojaaGreatDoor.Wq
