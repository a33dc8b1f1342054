/-
  The names of users, plain: what is inserted, that unlike users have unlike names, and that a comma has a sign ahead of it.
-/
import Derived.Test.YtkjofadabaecfaaTMem
namespace Go.Proofs.Ytkjofadabaecfaa.Nq

def specials : List Nat := [44, 43, 34, 92, 60, 62, 59, 61, 35]
/-- A byte of a name, with the sign ahead of it if it needs one. -/
def unit (c : Nat) : List Nat := if c ∈ specials then [92, c] else [c]
def esc (u : List Nat) : List Nat := u.flatMap unit
def UserOk (u : List Nat) : Prop := (1 ≤ u.length ∧ u.length ≤ 64) ∧ ∀ c ∈ u, 33 ≤ c ∧ c ≤ 126
theorem unit_len (c : Nat) : 1 ≤ (unit c).length ∧ (unit c).length ≤ 2 := by unfold unit; split <;> simp
theorem esc_len : ∀ u : List Nat, u.length ≤ (esc u).length ∧ (esc u).length ≤ 2 * u.length
  | [] => by simp [esc]
  | c :: r => by
    have h1 := unit_len c
    have h2 := esc_len r
    simp only [esc, List.flatMap_cons, List.length_append, List.length_cons] at h2 ⊢
    omega
theorem esc_lt {u : List Nat} (h : ∀ c ∈ u, c < 256) : ∀ x ∈ esc u, x < 256 := by
  intro x hx
  simp only [esc, List.mem_flatMap] at hx
  obtain ⟨c, hc, hx⟩ := hx
  have := h c hc
  unfold unit at hx
  split at hx
  · simp at hx; omega
  · simp at hx; omega
theorem esc_snoc {u : List Nat} {k c : Nat} (h : u[k]? = some c) : esc (u.take (k + 1)) = esc (u.take k) ++ unit c := by
  rw [List.take_add_one, h]
  simp [esc]
theorem unit_inj {c d : Nat} {p q : List Nat} (h : unit c ++ p = unit d ++ q) : c = d ∧ p = q := by
  unfold unit at h
  have hs : 92 ∈ specials := by decide
  by_cases hc : c ∈ specials
  · rw [if_pos hc] at h
    by_cases hd : d ∈ specials
    · rw [if_pos hd] at h
      simpa using h
    · rw [if_neg hd] at h
      simp only [List.cons_append, List.nil_append, List.cons.injEq] at h
      exact absurd (h.1 ▸ hs) hd
  · rw [if_neg hc] at h
    by_cases hd : d ∈ specials
    · rw [if_pos hd] at h
      simp only [List.cons_append, List.nil_append, List.cons.injEq] at h
      exact absurd (h.1 ▸ hs) hc
    · rw [if_neg hd] at h
      simpa using h
theorem esc_inj : ∀ {u v : List Nat}, esc u = esc v → u = v
  | [], [], _ => rfl
  | [], d :: q, h => by
    have h2 := (esc_len (d :: q)).1
    rw [← h] at h2
    simp [esc] at h2
  | c :: p, [], h => by
    have h2 := (esc_len (c :: p)).1
    rw [h] at h2
    simp [esc] at h2
  | c :: p, d :: q, h => by
    simp only [esc, List.flatMap_cons] at h
    obtain ⟨h1, h2⟩ := unit_inj h
    rw [h1, esc_inj (u := p) (v := q) h2]
/-- Whether the byte behind these stands behind a sign of its own. -/
def quoted (l : List Nat) : Bool := l.foldl (fun q c => decide (c = 92) && !q) false
theorem quoted_snoc {l : List Nat} {k c : Nat} (h : l[k]? = some c) : quoted (l.take (k + 1)) = (decide (c = 92) && !quoted (l.take k)) := by
  rw [List.take_add_one, h]
  simp [quoted]
theorem unit_quoted (c : Nat) : (unit c).foldl (fun q c => decide (c = 92) && !q) false = false := by
  unfold unit
  by_cases hc : c ∈ specials
  · rw [if_pos hc]; simp
  · rw [if_neg hc]
    have : c ≠ 92 := fun e => hc (by rw [e]; decide)
    simp [this]
theorem esc_quoted : ∀ u : List Nat, quoted (esc u) = false
  | [] => rfl
  | c :: r => by
    have ih := esc_quoted r
    unfold quoted at ih ⊢
    rw [esc, List.flatMap_cons, List.foldl_append, unit_quoted]
    exact ih
theorem comma_unit {c : Nat} {j : Nat} (h : (unit c)[j]? = some 44) : ((unit c).take j).foldl (fun q c => decide (c = 92) && !q) false = true := by
  unfold unit at h ⊢
  have hs : 44 ∈ specials := by decide
  by_cases hc : c ∈ specials
  · rw [if_pos hc] at h ⊢
    match j, h with
    | 0, h => simp at h
    | 1, h => rfl
    | j + 2, h => simp at h
  · rw [if_neg hc] at h
    match j, h with
    | 0, h =>
      simp at h
      exact absurd (h ▸ hs) hc
    | j + 1, h => simp at h
/-- A comma of a name has a sign ahead of it. -/
theorem comma_quoted : ∀ (u : List Nat) (i : Nat), (esc u)[i]? = some 44 → quoted ((esc u).take i) = true
  | [], i, h => by simp [esc] at h
  | c :: r, i, h => by
    rw [esc, List.flatMap_cons] at h ⊢
    by_cases hi : i < (unit c).length
    · rw [List.getElem?_append_left hi] at h
      rw [List.take_append_of_le_length (by omega)]
      exact comma_unit h
    · rw [List.getElem?_append_right (by omega)] at h
      have ih := comma_quoted r (i - (unit c).length) h
      rw [List.take_append, List.take_of_length_le (by omega)]
      unfold quoted at ih ⊢
      rw [List.foldl_append, unit_quoted]
      exact ih
end Go.Proofs.Ytkjofadabaecfaa.Nq
