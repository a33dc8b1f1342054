/-
  Claims, plain: times that are added, what is told of a value under a name, whether claims hold, how they are made.
-/
import Derived.Test.YtoocejcoaojaiaaDoorQJ
namespace Go.Proofs.YtoocejcoaojaiaaDoor.Vq

abbrev top : Int := 1099511627776
def add (a b : Int) : Int := min top (min top (max 0 a) + min top (max 0 b))
theorem add_comm (a b : Int) : add a b = add b a := by unfold add; omega
theorem add_assoc (a b c : Int) : add (add a b) c = add a (add b c) := by unfold add; omega
theorem add_mono {a b : Int} (h : a ≤ b) (c : Int) : add a c ≤ add b c := by unfold add; omega
theorem add_zero_le (a c : Int) : add a 0 ≤ add a c := by unfold add; omega
theorem add_zero (a b : Int) : add (add a b) 0 = add a b := by unfold add; omega
abbrev issN : List Nat := [105, 115, 115]
abbrev subN : List Nat := [115, 117, 98]
abbrev audN : List Nat := [97, 117, 100]
abbrev expN : List Nat := [101, 120, 112]
abbrev iatN : List Nat := [105, 97, 116]
abbrev nbfN : List Nat := [110, 98, 102]
abbrev nonceN : List Nat := [110, 111, 110, 99, 101]
def textOf (v : Jq.J) (n : List Nat) : Option (List Nat) := match getP v n with
  | some x => if x.kind = 3 then some x.text else none
  | none => none
def intOf (v : Jq.J) (n : List Nat) : Option Int := match getP v n with
  | some x => if x.kind = 2 then some x.int else none
  | none => none
def Reserved (n : List Nat) : Prop := n = issN ∨ n = subN ∨ n = audN ∨ n = expN ∨ n = iatN ∨ n = nbfN ∨ n = nonceN
instance (n : List Nat) : Decidable (Reserved n) := inferInstanceAs (Decidable (_ ∨ _))
structure Want where
  issuer : List Nat
  aud : List Nat
  nonce : List Nat
  now : Int
  slack : Int
/-- Whether all is there that claims have, as what it ought to be. -/
def Formed (v : Jq.J) : Prop := (textOf v issN).isSome ∧ (textOf v subN).isSome ∧ textOf v subN ≠ some [] ∧ (textOf v audN).isSome ∧ (intOf v expN).isSome ∧ (intOf v iatN).isSome ∧ (getP v nbfN).isSome = (intOf v nbfN).isSome ∧ (getP v nonceN).isSome = (textOf v nonceN).isSome
instance (v : Jq.J) : Decidable (Formed v) := inferInstanceAs (Decidable (_ ∧ _))
/-- Whether claims are of a time that is not come. -/
def Early (v : Jq.J) (w : Want) : Prop := add w.now w.slack < add ((intOf v iatN).getD 0) 0 ∨ ((intOf v nbfN).isSome ∧ add w.now w.slack < add ((intOf v nbfN).getD 0) 0)
instance (v : Jq.J) (w : Want) : Decidable (Early v w) := inferInstanceAs (Decidable (_ ∨ _))
def check (v : Jq.J) (w : Want) : Int :=
  if ¬ Formed v then 100
  else if (textOf v issN).getD [] ≠ w.issuer then 101
  else if (textOf v audN).getD [] ≠ w.aud then 102
  else if add ((intOf v expN).getD 0) w.slack ≤ add w.now 0 then 103
  else if Early v w then 104
  else if w.nonce ≠ [] ∧ (textOf v nonceN).getD [] ≠ w.nonce then 105
  else 0
/-- Claims that hold hold later, too, or are over. -/
theorem check_later {v : Jq.J} {w : Want} {n : Int} (h : check v w = 0) (hn : w.now ≤ n) : check v { w with now := n } = 0 ∨ check v { w with now := n } = 103 := by
  unfold check at h ⊢
  simp only
  by_cases h1 : ¬ Formed v
  · rw [if_pos h1] at h; omega
  rw [if_neg h1] at h ⊢
  by_cases h2 : (textOf v issN).getD [] ≠ w.issuer
  · rw [if_pos h2] at h; omega
  rw [if_neg h2] at h ⊢
  by_cases h3 : (textOf v audN).getD [] ≠ w.aud
  · rw [if_pos h3] at h; omega
  rw [if_neg h3] at h ⊢
  by_cases h4 : add ((intOf v expN).getD 0) w.slack ≤ add w.now 0
  · rw [if_pos h4] at h; omega
  rw [if_neg h4] at h
  by_cases h5 : Early v w
  · rw [if_pos h5] at h; omega
  rw [if_neg h5] at h
  by_cases h6 : w.nonce ≠ [] ∧ (textOf v nonceN).getD [] ≠ w.nonce
  · rw [if_pos h6] at h; omega
  by_cases h7 : add ((intOf v expN).getD 0) w.slack ≤ add n 0
  · exact .inr (if_pos h7)
  left
  rw [if_neg h7, if_neg, if_neg h6]
  intro he
  apply h5
  have hm := add_mono hn w.slack
  unfold Early at he ⊢
  simp only at he
  rcases he with he | ⟨hs, he⟩
  · exact .inl (by omega)
  · exact .inr ⟨hs, by omega⟩

/-! Claims that are made. -/
def objOf (rs : List (List Nat × Jq.J)) : Jq.J := Jq.objJ (rs.map (·.1)) (rs.map (·.2))
def moreRows (x : Jq.J) : List (List Nat × Jq.J) := if x.kind = 5 ∧ x.names.length = x.list.length then (x.names.zip x.list).filter fun r => decide (¬ Reserved r.1) else []
def baseRows (w : Want) (subject : List Nat) (life : Int) : List (List Nat × Jq.J) :=
  [(issN, Jq.textJ w.issuer), (subN, Jq.textJ subject), (audN, Jq.textJ w.aud), (expN, Jq.intJ (add w.now life)), (iatN, Jq.intJ (add w.now 0))] ++ (if w.nonce = [] then [] else [(nonceN, Jq.textJ w.nonce)])
def rows (w : Want) (subject : List Nat) (life : Int) (more : Jq.J) : List (List Nat × Jq.J) := baseRows w subject life ++ moreRows more
theorem more_free (x : Jq.J) : ∀ r ∈ moreRows x, ¬ Reserved r.1 := by
  intro r hr
  unfold moreRows at hr
  split at hr
  · exact of_decide_eq_true (List.mem_filter.1 hr).2
  · cases hr
theorem firstAt_rows (n : List Nat) : ∀ rs : List (List Nat × Jq.J), (match firstAt n (rs.map (·.1)) with | some k => (rs.map (·.2))[k]? | none => none) = (rs.find? fun r => decide (r.1 = n)).map (·.2)
  | [] => rfl
  | r :: rs => by
    have ih := firstAt_rows n rs
    by_cases h : r.1 = n
    · rw [List.find?_cons_of_pos (by simpa using h)]
      simp [firstAt, h]
    · rw [List.find?_cons_of_neg (by simpa using h), ← ih]
      have h' : ¬ r.fst = n := h
      simp only [List.map_cons, firstAt, h', if_false]
      cases firstAt n (rs.map (·.1)) with
      | none => rfl
      | some k => simp
theorem getP_objOf (n : List Nat) (rs : List (List Nat × Jq.J)) : getP (objOf rs) n = (rs.find? fun r => decide (r.1 = n)).map (·.2) := by
  unfold getP objOf
  rw [if_pos ⟨rfl, by simp [Jq.objJ, Jq.J.names, Jq.J.list]⟩]
  exact firstAt_rows n rs
theorem find_more {n : List Nat} (hn : Reserved n) (x : Jq.J) : (moreRows x).find? (fun r => decide (r.1 = n)) = none := by
  rw [List.find?_eq_none]
  intro r hr h
  have := more_free x r hr
  rw [of_decide_eq_true h] at this
  exact this hn
theorem get_rows {n : List Nat} (hn : Reserved n) (w : Want) (subject : List Nat) (life : Int) (more : Jq.J) : getP (objOf (rows w subject life more)) n = ((baseRows w subject life).find? fun r => decide (r.1 = n)).map (·.2) := by
  rw [getP_objOf]
  unfold rows
  rw [List.find?_append, find_more hn, Option.or_none]
/-- What is made holds, up to its end. -/
theorem check_made (w : Want) (subject : List Nat) (life : Int) (more : Jq.J) (hs : subject ≠ []) (n : Int) (hn : w.now ≤ n) :
    check (objOf (rows w subject life more)) { w with now := n } = if add (add w.now life) w.slack ≤ add n 0 then 103 else 0 := by
  have g : ∀ m, Reserved m → getP (objOf (rows w subject life more)) m = ((baseRows w subject life).find? fun r => decide (r.1 = m)).map (·.2) := fun m hm => get_rows hm w subject life more
  have g1 : getP (objOf (rows w subject life more)) issN = some (Jq.textJ w.issuer) := by rw [g _ (.inl rfl)]; rfl
  have g2 : getP (objOf (rows w subject life more)) subN = some (Jq.textJ subject) := by rw [g _ (.inr (.inl rfl))]; rfl
  have g3 : getP (objOf (rows w subject life more)) audN = some (Jq.textJ w.aud) := by rw [g _ (.inr (.inr (.inl rfl)))]; rfl
  have g4 : getP (objOf (rows w subject life more)) expN = some (Jq.intJ (add w.now life)) := by rw [g _ (.inr (.inr (.inr (.inl rfl))))]; rfl
  have g5 : getP (objOf (rows w subject life more)) iatN = some (Jq.intJ (add w.now 0)) := by rw [g _ (.inr (.inr (.inr (.inr (.inl rfl)))))]; rfl
  have g6 : getP (objOf (rows w subject life more)) nbfN = none := by
    rw [g _ (.inr (.inr (.inr (.inr (.inr (.inl rfl))))))]
    unfold baseRows
    split <;> rfl
  have g7 : getP (objOf (rows w subject life more)) nonceN = if w.nonce = [] then none else some (Jq.textJ w.nonce) := by
    rw [g _ (.inr (.inr (.inr (.inr (.inr (.inr rfl))))))]
    unfold baseRows
    split <;> rfl
  have t1 : textOf (objOf (rows w subject life more)) issN = some w.issuer := by unfold textOf; rw [g1]; rfl
  have t2 : textOf (objOf (rows w subject life more)) subN = some subject := by unfold textOf; rw [g2]; rfl
  have t3 : textOf (objOf (rows w subject life more)) audN = some w.aud := by unfold textOf; rw [g3]; rfl
  have i4 : intOf (objOf (rows w subject life more)) expN = some (add w.now life) := by unfold intOf; rw [g4]; rfl
  have i5 : intOf (objOf (rows w subject life more)) iatN = some (add w.now 0) := by unfold intOf; rw [g5]; rfl
  have i6 : intOf (objOf (rows w subject life more)) nbfN = none := by unfold intOf; rw [g6]
  have t7 : textOf (objOf (rows w subject life more)) nonceN = if w.nonce = [] then none else some w.nonce := by
    unfold textOf
    rw [g7]
    split
    · rename_i h; split at h
      · cases h
      · rename_i h0
        injection h with h
        subst h
        rw [if_neg h0]
        rfl
    · rename_i h; split at h
      · rename_i h0; rw [if_pos h0]
      · cases h
  have hF : Formed (objOf (rows w subject life more)) := by
    unfold Formed
    rw [t1, t2, t3, i4, i5, g6, i6, g7, t7]
    refine ⟨rfl, rfl, fun h => hs (by injection h), rfl, rfl, rfl, rfl, ?_⟩
    split <;> rfl
  unfold check
  simp only
  rw [if_neg (fun h => h hF), t1, if_neg (by simp), t3, if_neg (by simp), i4]
  simp only [Option.getD_some]
  by_cases ho : add (add w.now life) w.slack ≤ add n 0
  · rw [if_pos ho, if_pos ho]
  rw [if_neg ho, if_neg ho, if_neg, if_neg]
  · rw [t7]
    rintro ⟨h1, h2⟩
    rw [if_neg h1] at h2
    exact h2 rfl
  · unfold Early
    rw [i5, i6]
    simp only [Option.getD_some, Option.isSome_none]
    rintro (h | ⟨h, _⟩)
    · rw [add_zero] at h
      have h1 := add_mono hn w.slack
      have h2 := add_zero_le w.now w.slack
      omega
    · cases h
end Go.Proofs.YtoocejcoaojaiaaDoor.Vq
