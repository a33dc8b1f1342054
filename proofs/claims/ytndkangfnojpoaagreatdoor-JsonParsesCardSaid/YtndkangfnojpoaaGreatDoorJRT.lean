/-
  The document's reading, plain: what holds at a place of the text.
-/
import Derived.Test.YtndkangfnojpoaaGreatDoorJREsc
import Derived.Test.YtndkangfnojpoaaGreatDoorQC
namespace Go.Proofs.YtndkangfnojpoaaGreatDoor
open Go.RowKit

theorem text_if (c : Nat) (r : List Nat) : Jq.text (c :: r) = if c < 32 then .error 53 else if c = 34 then .ok ([], r) else if c = 92 then (match Jq.escape r with
      | none => .error 53
      | some (x, r') => (Jq.text r').map fun q => (Jq.runeBytes x ++ q.1, q.2))
    else if Jq.long (c :: r) = 0 then .error 53 else (Jq.text ((c :: r).drop (Jq.long (c :: r)))).map fun q => ((c :: r).take (Jq.long (c :: r)) ++ q.1, q.2) := by
  by_cases hc : c = 34
  · subst hc
    rw [Jq.text_end]
    simp
  · have hh : (c :: r).head? ≠ some 34 := by simpa using hc
    rw [Jq.text_step hh, Jq.letter]
    by_cases h1 : c < 32
    · rw [if_pos h1, if_pos h1]
    rw [if_neg h1, if_neg h1, if_neg hc]
    by_cases h2 : c = 92
    · rw [if_pos h2, if_pos h2]
      cases Jq.escape r <;> rfl
    rw [if_neg h2, if_neg h2]
    by_cases h3 : Jq.long (c :: r) = 0
    · rw [if_pos h3, if_pos h3]
    rw [if_neg h3, if_neg h3]
    simp only
    rw [(Jq.long_rune_bytes h3).1]
theorem drop_get {S : List Nat} {k c : Nat} (h : S.getD k 0 = c) (hk : k < S.length) : S.drop k = c :: S.drop (k + 1) := by
  rw [List.drop_eq_getElem_cons hk]
  rw [List.getD_eq_getElem?_getD, List.getElem?_eq_getElem hk] at h
  simp at h
  rw [h]
theorem map_app {R : Jq.R (List Nat)} {a b : List Nat} : (R.map fun q => (b ++ q.1, q.2)).map (fun q => (a ++ q.1, q.2)) = R.map fun q => ((a ++ b) ++ q.1, q.2) := by
  cases R with
  | error e => rfl
  | ok p => simp [Except.map, List.append_assoc]
/-- A text under way: what the whole says, by what is read and what the rest says. -/
def TextAt (RES : Jq.R (List Nat)) (S : List Nat) (k : Nat) (acc : List Nat) : Prop := RES = (Jq.text (S.drop k)).map fun q => (acc ++ q.1, q.2)
section
variable {RES : Jq.R (List Nat)} {S : List Nat} {k c : Nat} {acc : List Nat}
theorem TextAt.eof (h : TextAt RES S k acc) (hk : S.length ≤ k) : RES = .error 53 := by
  rw [h, List.drop_eq_nil_of_le hk]; rfl
theorem TextAt.low (h : TextAt RES S k acc) (hk : k < S.length) (hc : S.getD k 0 = c) (h1 : c < 32) : RES = .error 53 := by
  rw [h, drop_get hc hk, text_if, if_pos h1]; rfl
theorem TextAt.fin (h : TextAt RES S k acc) (hk : k < S.length) (hc : S.getD k 0 = 34) : RES = .ok (acc, S.drop (k + 1)) := by
  rw [h, drop_get hc hk, text_if, if_neg (by decide), if_pos rfl]; simp [Except.map]
theorem TextAt.escNone (h : TextAt RES S k acc) (hk : k < S.length) (hc : S.getD k 0 = 92) (he : Jq.escape (S.drop (k + 1)) = none) : RES = .error 53 := by
  rw [h, drop_get hc hk, text_if, if_neg (by decide), if_neg (by decide), if_pos rfl, he]; rfl
theorem TextAt.esc (h : TextAt RES S k acc) (hk : k < S.length) (hc : S.getD k 0 = 92) {x j : Nat} {r : List Nat} (he : Jq.escape (S.drop (k + 1)) = some (x, r)) (hr : r = S.drop j) : TextAt RES S j (acc ++ Jq.runeBytes x) := by
  unfold TextAt at h ⊢
  rw [h, drop_get hc hk, text_if, if_neg (by decide), if_neg (by decide), if_pos rfl, he, hr]
  exact map_app
theorem TextAt.longNone (h : TextAt RES S k acc) (hk : k < S.length) (hc : S.getD k 0 = c) (h1 : 32 ≤ c) (h2 : c ≠ 34) (h3 : c ≠ 92) (hl : Jq.long (S.drop k) = 0) : RES = .error 53 := by
  rw [drop_get hc hk] at hl
  rw [h, drop_get hc hk, text_if, if_neg (by omega), if_neg h2, if_neg h3, if_pos hl]; rfl
theorem TextAt.rune (h : TextAt RES S k acc) (hk : k < S.length) (hc : S.getD k 0 = c) (h1 : 32 ≤ c) (h2 : c ≠ 34) (h3 : c ≠ 92) {n : Nat} (hl : Jq.long (S.drop k) = n) (hn : n ≠ 0) : TextAt RES S (k + n) (acc ++ (S.drop k).take n) := by
  have e := drop_get hc hk
  have hl' := hl
  rw [e] at hl'
  unfold TextAt at h ⊢
  rw [h, e, text_if, if_neg (by omega), if_neg h2, if_neg h3, if_neg (by omega), hl', ← e, List.drop_drop]
  exact map_app
end

/-! A number's digits, so many of which are read. -/
theorem val_take_le (l : List Nat) : ∀ j, Uq.val (l.take j) ≤ Uq.val l := by
  have key : ∀ (l : List Nat) (a b : Nat), a ≤ b → a ≤ l.foldl (fun n c => n * 10 + (c - 48)) b := by
    intro l
    induction l with
    | nil => intro a b h; exact h
    | cons c r ih => intro a b h; exact ih a _ (show a ≤ b * 10 + (c - 48) by omega)
  intro j
  have e : Uq.val l = (l.drop j).foldl (fun n c => n * 10 + (c - 48)) (Uq.val (l.take j)) := by
    unfold Uq.val
    rw [← List.foldl_append, List.take_append_drop]
  rw [e]
  exact key _ _ _ (Nat.le_refl _)
/-- So many digits are read from a place on. -/
def DigAt (S : List Nat) (p j n : Nat) : Prop := j ≤ (Jq.digs (S.drop p)).length ∧ n = Uq.val ((Jq.digs (S.drop p)).take j)
theorem DigAt.zero (S : List Nat) (p : Nat) : DigAt S p 0 0 := ⟨Nat.zero_le _, rfl⟩
theorem digs_get {l : List Nat} {j : Nat} (hj : j ≤ (Jq.digs l).length) : (∀ c, l[j]? = some c → Jq.dig c = true → j < (Jq.digs l).length ∧ (Jq.digs l)[j]? = some c) ∧ ((∀ c, l[j]? = some c → Jq.dig c = false) → j = (Jq.digs l).length) := by
  obtain ⟨d1, d2⟩ := digs_drop l
  refine ⟨fun c hc hd => ?_, fun h => ?_⟩
  · have hlt : j < (Jq.digs l).length := by
      rcases Nat.lt_or_eq_of_le hj with h | h
      · exact h
      · exfalso
        have h0 : (l.drop j).head? = some c := by rw [List.head?_drop]; exact hc
        rw [h, ← d1] at h0
        have := List.head?_dropWhile_not Jq.dig l
        rw [h0] at this
        simp [hd] at this
    refine ⟨hlt, ?_⟩
    rw [d2, List.getElem?_take_of_lt hlt]
    exact hc
  · rcases Nat.lt_or_eq_of_le hj with h' | h'
    · exfalso
      have hlen := digs_le l
      have hc : l[j]? = some ((Jq.digs l)[j]) := by
        have : (Jq.digs l)[j]? = some ((Jq.digs l)[j]) := List.getElem?_eq_getElem h'
        rw [← this]
        conv => rhs; rw [d2]
        rw [List.getElem?_take_of_lt h']
      have := h _ hc
      have h2 := Jq.digs_dig l _ (List.getElem_mem h')
      rw [h2] at this
      cases this
    · exact h'
theorem getD_some {S : List Nat} {i c : Nat} (h : S.getD i 0 = c) (hc : c ≠ 0) : S[i]? = some c := by
  rw [List.getD_eq_getElem?_getD] at h
  cases hs : S[i]? with
  | none => rw [hs] at h; exact absurd h.symm hc
  | some x => rw [hs] at h; simp at h; rw [h]
theorem DigAt.step {S : List Nat} {p j n c : Nat} (h : DigAt S p j n) (hc : S.getD (p + j) 0 = c) (hd : Jq.dig c = true) : p + j < S.length ∧ DigAt S p (j + 1) (n * 10 + (c - 48)) := by
  obtain ⟨h1, h2⟩ := h
  have h48 := ((Jq.dig_iff c).1 hd).1
  have hs := getD_some hc (by omega)
  obtain ⟨k1, k2⟩ := (digs_get h1).1 c (by rw [List.getElem?_drop]; exact hs) hd
  refine ⟨(List.getElem?_eq_some_iff.1 hs).1, k1, ?_⟩
  rw [List.take_add_one, k2, Option.toList_some, Uq.val_snoc, h2]
theorem DigAt.stop {S : List Nat} {p j n c : Nat} (h : DigAt S p j n) (hc : S.getD (p + j) 0 = c) (hd : Jq.dig c = false) : j = (Jq.digs (S.drop p)).length ∧ n = Uq.val (Jq.digs (S.drop p)) := by
  have e : j = (Jq.digs (S.drop p)).length := (digs_get h.1).2 fun x hx => by
    rw [List.getElem?_drop] at hx
    rw [List.getD_eq_getElem?_getD, hx] at hc
    simp at hc
    rw [hc]; exact hd
  refine ⟨e, ?_⟩
  rw [h.2, e, List.take_length]
theorem DigAt.big {S : List Nat} {p j n : Nat} {m : Bool} (h : DigAt S p j n) (hn : 9007199254740991 < n) : numVOf m (S.drop p) = .error 52 := by
  refine num_bad (.inr (.inl ?_))
  have := val_take_le (Jq.digs (S.drop p)) j
  rw [← h.2] at this
  show 9007199254740991 < _
  omega
theorem head_drop {S : List Nat} {i x : Nat} (hx : x ≠ 0) : (S.drop i).head? = some x ↔ S.getD i 0 = x := by
  rw [List.head?_drop, List.getD_eq_getElem?_getD]
  cases S[i]? with
  | none => simp; omega
  | some y => simp
/-- All digits are read: whether it is a number. -/
theorem dig_done {S : List Nat} {p j n c f : Nat} {m : Bool} (h : DigAt S p j n) (hc : S.getD (p + j) 0 = c) (hd : Jq.dig c = false) (hf : S.getD p 0 = f) :
    ((j = 0 ∨ 9007199254740991 < n ∨ (m = true ∧ n = 0) ∨ c = 46 ∨ c = 101 ∨ c = 69 ∨ (f = 48 ∧ 1 < j)) → numVOf m (S.drop p) = .error 52) ∧
    (¬ (j = 0 ∨ 9007199254740991 < n ∨ (m = true ∧ n = 0) ∨ c = 46 ∨ c = 101 ∨ c = 69 ∨ (f = 48 ∧ 1 < j)) → numVOf m (S.drop p) = .ok (if m then -(n : Int) else (n : Int), S.drop (p + j))) := by
  obtain ⟨e1, e2⟩ := h.stop hc hd
  have iff : Jq.NumBad m (S.drop p) ↔ (j = 0 ∨ 9007199254740991 < n ∨ (m = true ∧ n = 0) ∨ c = 46 ∨ c = 101 ∨ c = 69 ∨ (f = 48 ∧ 1 < j)) := by
    unfold Jq.NumBad
    rw [← e1, ← e2, List.drop_drop, head_drop (by decide), head_drop (by decide), head_drop (by decide), hc]
    have e3 : Jq.digs (S.drop p) = [] ↔ j = 0 := by rw [e1, List.length_eq_zero_iff]
    have e4 : ((Jq.digs (S.drop p)).head? = some 48 ∧ 1 < j) ↔ (f = 48 ∧ 1 < j) := by
      have : 1 < j → ((Jq.digs (S.drop p)).head? = some 48 ↔ f = 48) := fun hj => by
        obtain ⟨_, d2⟩ := digs_drop (S.drop p)
        rw [← e1] at d2
        rw [d2, List.head?_take, if_neg (by omega), head_drop (by decide), hf]
      constructor
      · rintro ⟨a, b⟩; exact ⟨(this b).1 a, b⟩
      · rintro ⟨a, b⟩; exact ⟨(this b).2 a, b⟩
    rw [e3, e4]
    exact Iff.rfl
  refine ⟨fun hb => num_bad (iff.2 hb), fun hb => ?_⟩
  rw [num_good (fun h => hb (iff.1 h)), ← e1, ← e2, List.drop_drop]
end Go.Proofs.YtndkangfnojpoaaGreatDoor
