/-
  WPA: WM WM2 WM3 WAl, side by side.
-/
import Derived.Test.YthklgpflaghojaaGreatDoorQA
import Derived.Test.YthklgpflaghojaaGreatDoorQT1
import Derived.Test.YthklgpflaghojaaGreatDoorQR3
import Derived.Test.YthklgpflaghojaaGreatDoorQJ

/-
  Signed tokens, plain: names of keys, heads, what is signed, tokens.
-/
namespace Go.Proofs.YthklgpflaghojaaGreatDoor.Wq

/-- A key's name. -/
def KidOk (k : List Nat) : Prop := 1 ≤ k.length ∧ k.length ≤ 64 ∧ ∀ x ∈ k, 33 ≤ x ∧ x ≤ 126
instance (k : List Nat) : Decidable (KidOk k) := inferInstanceAs (Decidable (_ ∧ _))
theorem KidOk.lt {k : List Nat} (h : KidOk k) : ∀ x ∈ k, x < 256 := fun x hx => by have := h.2.2 x hx; omega
abbrev algN : List Nat := [97, 108, 103]
abbrev kidN : List Nat := [107, 105, 100]
abbrev hsN : List Nat := [72, 83, 50, 53, 54]
def headT (k : List Nat) : List Nat := [123, 34, 97, 108, 103, 34, 58, 34, 72, 83, 50, 53, 54, 34, 44, 34, 107, 105, 100, 34, 58] ++ (Jq.quoted k ++ [125])
theorem q1_len (c : Nat) (h : 32 ≤ c) : (Jq.q1 c).length ≤ 2 := by
  unfold Jq.q1
  rw [if_neg (by omega)]
  split <;> simp
theorem flat_len : ∀ k : List Nat, (∀ x ∈ k, 32 ≤ x) → (k.flatMap Jq.q1).length ≤ 2 * k.length
  | [], _ => Nat.le_refl _
  | c :: r, h => by
    have h1 := q1_len c (h c (List.mem_cons_self ..))
    have ih := flat_len r fun x hx => h x (List.mem_cons_of_mem _ hx)
    rw [List.flatMap_cons, List.length_append, List.length_cons]
    omega
/-- What is signed; a token. -/
def signedT (k T : List Nat) : List Nat := B64.enc (headT k) ++ 46 :: B64.enc T
def token (k T key : List Nat) : List Nat := signedT k T ++ 46 :: B64.enc (Sha.mac key (signedT k T))
theorem mac_length (key s : List Nat) : (Sha.mac key s).length = 32 := Sha.sum_length _
end Go.Proofs.YthklgpflaghojaaGreatDoor.Wq

/-
  What a text says that is a token's: its three parts.
-/
namespace Go.Proofs.YthklgpflaghojaaGreatDoor.Wq

/-- The three parts of a text, read; what is signed of it. -/
def Three (S A B C sg : List Nat) : Prop :=
  S.length ≤ 12288 ∧ ∃ a b c, Uq.parts 46 S = [a, b, c] ∧ B64.IsDec a (some A) ∧ B64.IsDec b (some B) ∧ B64.IsDec c (some C) ∧ sg = a ++ 46 :: b
theorem three_one {S A B C sg A' B' C' sg' : List Nat} (h : Three S A B C sg) (h' : Three S A' B' C' sg') : A = A' ∧ B = B' ∧ C = C' ∧ sg = sg' := by
  obtain ⟨_, a, b, c, hp, h1, h2, h3, rfl⟩ := h
  obtain ⟨_, a', b', c', hp', h1', h2', h3', rfl⟩ := h'
  rw [hp] at hp'
  injection hp' with e1 e2
  injection e2 with e2 e3
  injection e3 with e3 _
  subst e1 e2 e3
  exact ⟨Option.some.inj (B64.isDec_one h1 h1'), Option.some.inj (B64.isDec_one h2 h2'), Option.some.inj (B64.isDec_one h3 h3'), rfl⟩
/-- A text is its parts, with dots between. -/
def joinD : List (List Nat) → List Nat
  | [] => []
  | [p] => p
  | p :: q :: r => p ++ 46 :: joinD (q :: r)
theorem joinD_more (p : List Nat) {r : List (List Nat)} (h : r ≠ []) : joinD (p :: r) = p ++ 46 :: joinD r := by
  cases r with
  | nil => exact absurd rfl h
  | cons q r => rfl
theorem joinD_cons (c : Nat) (p : List Nat) (r : List (List Nat)) : joinD ((c :: p) :: r) = c :: joinD (p :: r) := by
  cases r <;> rfl
theorem parts_join : ∀ S : List Nat, joinD (Uq.parts 46 S) = S ∧ ∀ p ∈ Uq.parts 46 S, ∀ x ∈ p, x ≠ 46
  | [] => ⟨rfl, fun p hp x hx => by obtain rfl : p = [] := by simpa [Uq.parts] using hp
                                    exact nomatch hx⟩
  | c :: r => by
    obtain ⟨h1, h2⟩ := parts_join r
    by_cases hc : c = 46
    · have e : Uq.parts 46 (c :: r) = [] :: Uq.parts 46 r := by rw [Uq.parts, if_pos hc]
      rw [e, joinD_more _ (Uq.parts_ne 46 r), h1, hc]
      refine ⟨rfl, fun p hp x hx => ?_⟩
      rcases List.mem_cons.1 hp with rfl | hp
      · exact nomatch hx
      · exact h2 p hp x hx
    · cases hp : Uq.parts 46 r with
      | nil => exact absurd hp (Uq.parts_ne 46 r)
      | cons q ps =>
        have e : Uq.parts 46 (c :: r) = (c :: q) :: ps := by rw [Uq.parts, if_neg hc, hp]
        rw [hp] at h1 h2
        rw [e, joinD_cons, h1]
        refine ⟨rfl, fun p hp x hx => ?_⟩
        rcases List.mem_cons.1 hp with rfl | hp
        · rcases List.mem_cons.1 hx with rfl | hx
          · exact hc
          · exact h2 q (List.mem_cons_self ..) x hx
        · exact h2 p (List.mem_cons_of_mem _ hp) x hx
theorem three_text {S a b c : List Nat} (h : Uq.parts 46 S = [a, b, c]) : S = (a ++ 46 :: b) ++ 46 :: c ∧ ∀ x ∈ c, x ≠ 46 := by
  obtain ⟨h1, h2⟩ := parts_join S
  rw [h] at h1 h2
  refine ⟨?_, h2 c (by simp)⟩
  rw [← h1, List.append_assoc]
  rfl
theorem three_signed {S A B C sg : List Nat} (h : Three S A B C sg) : ∃ c, S = sg ++ 46 :: c ∧ ∀ x ∈ c, x ≠ 46 := by
  obtain ⟨_, a, b, c, hp, _, _, _, rfl⟩ := h
  exact ⟨c, three_text hp⟩
end Go.Proofs.YthklgpflaghojaaGreatDoor.Wq

/-
  What Open tells, plain.
-/
namespace Go.Proofs.YthklgpflaghojaaGreatDoor.Wq

/-- The object that bytes say. -/
def obj (q : List Nat) : Option Jq.J := match Jq.parse q with
  | .ok v => if v.kind = 5 then some v else none
  | .error _ => none
theorem obj_some {q : List Nat} {v : Jq.J} (h : obj q = some v) : Jq.parse q = .ok v ∧ v.kind = 5 := by
  unfold obj at h
  cases hp : Jq.parse q with
  | error m => rw [hp] at h; cases h
  | ok x =>
    rw [hp] at h
    simp only at h
    by_cases hk : x.kind = 5
    · rw [if_pos hk] at h
      injection h with h
      subst h
      exact ⟨rfl, hk⟩
    · rw [if_neg hk] at h; cases h
theorem obj_yes {q : List Nat} {v : Jq.J} (h : Jq.parse q = .ok v) (hk : v.kind = 5) : obj q = some v := by unfold obj; rw [h]; simp only; rw [if_pos hk]
theorem obj_no {q : List Nat} {v : Jq.J} (h : Jq.parse q = .ok v) (hk : v.kind ≠ 5) : obj q = none := by unfold obj; rw [h]; simp only; rw [if_neg hk]
theorem obj_err {q : List Nat} {m : Nat} (h : Jq.parse q = .error m) : obj q = none := by unfold obj; rw [h]

/-- What a token says. -/
structure Tok where
  kid : List Nat
  claims : Jq.J
  signed : List Nat
  mac : List Nat
/-- The kid of a head. -/
def kidOf (h : Jq.J) : Option (List Nat) := match getP h kidN with
  | some v => if v.kind = 3 ∧ KidOk v.text ∧ h.names.length = 2 then some v.text else none
  | none => none
def AlgOk (h : Jq.J) : Prop := ∃ v, getP h algN = some v ∧ v = Jq.textJ hsN
open Classical in
noncomputable def openHead (h cl : Jq.J) (C sg : List Nat) : Except Nat Tok :=
  if ¬ AlgOk h then .error 81 else match kidOf h with
    | none => .error 80
    | some k => if C.length = 32 then .ok ⟨k, cl, sg, C⟩ else .error 82
noncomputable def openBytes (A B C sg : List Nat) : Except Nat Tok := match obj A, obj B with
  | some h, some cl => openHead h cl C sg
  | _, _ => .error 80
open Classical in
noncomputable def openP (S : List Nat) : Except Nat Tok :=
  if h : ∃ p : List Nat × List Nat × List Nat × List Nat, Three S p.1 p.2.1 p.2.2.1 p.2.2.2 then openBytes (Classical.choose h).1 (Classical.choose h).2.1 (Classical.choose h).2.2.1 (Classical.choose h).2.2.2 else .error 80
theorem openP_of {S A B C sg : List Nat} (h : Three S A B C sg) : openP S = openBytes A B C sg := by
  have hx : ∃ p : List Nat × List Nat × List Nat × List Nat, Three S p.1 p.2.1 p.2.2.1 p.2.2.2 := ⟨(A, B, C, sg), h⟩
  unfold openP
  rw [dif_pos hx]
  obtain ⟨h1, h2, h3, h4⟩ := three_one (Classical.choose_spec hx) h
  rw [h1, h2, h3, h4]
theorem openP_none {S : List Nat} (h : ∀ A B C sg, ¬ Three S A B C sg) : openP S = .error 80 := by
  unfold openP
  rw [dif_neg]
  rintro ⟨p, hp⟩
  exact h _ _ _ _ hp
theorem openBytes_no1 {A B C sg : List Nat} (h : obj A = none) : openBytes A B C sg = .error 80 := by unfold openBytes; rw [h]
theorem openBytes_no2 {A B C sg : List Nat} (h : obj B = none) : openBytes A B C sg = .error 80 := by
  unfold openBytes; rw [h]; cases obj A <;> rfl
theorem openBytes_yes {A B C sg : List Nat} {h cl : Jq.J} (h1 : obj A = some h) (h2 : obj B = some cl) : openBytes A B C sg = openHead h cl C sg := by unfold openBytes; rw [h1, h2]
theorem openHead_alg {h cl : Jq.J} {C sg : List Nat} (ha : ¬ AlgOk h) : openHead h cl C sg = .error 81 := by unfold openHead; rw [if_pos ha]
theorem openHead_kid {h cl : Jq.J} {C sg : List Nat} (ha : AlgOk h) (hk : kidOf h = none) : openHead h cl C sg = .error 80 := by unfold openHead; rw [if_neg (fun n => n ha), hk]
theorem openHead_mac {h cl : Jq.J} {C sg k : List Nat} (ha : AlgOk h) (hk : kidOf h = some k) (hC : C.length ≠ 32) : openHead h cl C sg = .error 82 := by
  unfold openHead; rw [if_neg (fun n => n ha), hk]; simp only; rw [if_neg hC]
theorem openHead_yes {h cl : Jq.J} {C sg k : List Nat} (ha : AlgOk h) (hk : kidOf h = some k) (hC : C.length = 32) : openHead h cl C sg = .ok ⟨k, cl, sg, C⟩ := by
  unfold openHead; rw [if_neg (fun n => n ha), hk]; simp only; rw [if_pos hC]
theorem kidOf_some {h : Jq.J} {k : List Nat} (e : kidOf h = some k) : ∃ v, getP h kidN = some v ∧ v.kind = 3 ∧ v.text = k ∧ KidOk k ∧ h.names.length = 2 := by
  unfold kidOf at e
  cases hg : getP h kidN with
  | none => rw [hg] at e; cases e
  | some v =>
    rw [hg] at e
    simp only at e
    by_cases hc : v.kind = 3 ∧ KidOk v.text ∧ h.names.length = 2
    · rw [if_pos hc] at e
      injection e with e
      subst e
      exact ⟨v, rfl, hc.1, rfl, hc.2.1, hc.2.2⟩
    · rw [if_neg hc] at e; cases e
theorem kidOf_none {h : Jq.J} (e : getP h kidN = none) : kidOf h = none := by unfold kidOf; rw [e]
theorem kidOf_yes {h v : Jq.J} (e : getP h kidN = some v) (hc : v.kind = 3 ∧ KidOk v.text ∧ h.names.length = 2) : kidOf h = some v.text := by unfold kidOf; rw [e]; simp only; rw [if_pos hc]
theorem kidOf_no {h v : Jq.J} (e : getP h kidN = some v) (hc : ¬ (v.kind = 3 ∧ KidOk v.text ∧ h.names.length = 2)) : kidOf h = none := by unfold kidOf; rw [e]; simp only; rw [if_neg hc]

/-- What a parse tells under a name is a value of its own form. -/
theorem good_get {n : Nat} {h v : Jq.J} {t : List Nat} (hg : Jq.Good (n + 1) h) (e : getP h t = some v) : Jq.Good n v := by
  unfold getP at e
  split at e
  · split at e
    · exact hg.2 v (List.mem_of_getElem? e)
    · cases e
  · cases e
theorem text_form {n : Nat} {v : Jq.J} (h : Jq.Good n v) (hk : v.kind = 3) : v = Jq.textJ v.text := by
  obtain ⟨_, _, h1, h2, _, _, _, _, _, h3, _⟩ := Jq.good_form h
  have hb := h1 (by omega)
  have hi := h2 (by omega)
  obtain ⟨hn, hl⟩ := h3 (by omega)
  cases v with
  | mk k b n t ns l =>
    simp only [Jq.J.kind, Jq.J.bool, Jq.J.int, Jq.J.text, Jq.J.names, Jq.J.list] at *
    subst hb hi hn hl hk
    rfl
end Go.Proofs.YthklgpflaghojaaGreatDoor.Wq

/-
  The token of the law package's alive, plain.
-/
namespace Go.Proofs.YthklgpflaghojaaGreatDoor.Wq
end Go.Proofs.YthklgpflaghojaaGreatDoor.Wq
