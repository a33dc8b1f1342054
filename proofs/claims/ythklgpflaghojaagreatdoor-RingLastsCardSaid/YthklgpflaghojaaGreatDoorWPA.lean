/-
  WPA: WM WM2 WM3 WAl, side by side.
-/
import Derived.Test.YthklgpflaghojaaGreatDoorQA
import Derived.Test.YthklgpflaghojaaGreatDoorQT1
import Derived.Test.YthklgpflaghojaaGreatDoorQR3
import Derived.Test.YthklgpflaghojaaGreatDoorQJ

/-
  Signed tokens, plain: names of keys, heads, what is signed, tokens.
-/
namespace Go.Proofs.YthklgpflaghojaaGreatDoor.Wq

/-- A key's name. -/
def KidOk (k : List Nat) : Prop := 1 ≤ k.length ∧ k.length ≤ 64 ∧ ∀ x ∈ k, 33 ≤ x ∧ x ≤ 126
instance (k : List Nat) : Decidable (KidOk k) := inferInstanceAs (Decidable (_ ∧ _))
theorem KidOk.lt {k : List Nat} (h : KidOk k) : ∀ x ∈ k, x < 256 := fun x hx => by have := h.2.2 x hx; omega
abbrev algN : List Nat := [97, 108, 103]
abbrev kidN : List Nat := [107, 105, 100]
abbrev hsN : List Nat := [72, 83, 50, 53, 54]
/-- A head, and its text. -/
def headJ (k : List Nat) : Jq.J := Jq.objJ [algN, kidN] [Jq.textJ hsN, Jq.textJ k]
def headT (k : List Nat) : List Nat := [123, 34, 97, 108, 103, 34, 58, 34, 72, 83, 50, 53, 54, 34, 44, 34, 107, 105, 100, 34, 58] ++ (Jq.quoted k ++ [125])
theorem valid_ascii : ∀ k : List Nat, (∀ x ∈ k, x < 128) → Jq.valid k = true
  | [], _ => rfl
  | c :: r, h => by
    have hc : c < 128 := h c (List.mem_cons_self ..)
    have ih := valid_ascii r fun x hx => h x (List.mem_cons_of_mem _ hx)
    have e : Jq.runeBytes c = [c] := by unfold Jq.runeBytes; rw [if_pos hc]
    have := Jq.valid_rune (r := c) (Jq.ok_low (by omega)) ih
    rwa [e] at this
theorem q1_len (c : Nat) (h : 32 ≤ c) : (Jq.q1 c).length ≤ 2 := by
  unfold Jq.q1
  rw [if_neg (by omega)]
  split <;> simp
theorem flat_len : ∀ k : List Nat, (∀ x ∈ k, 32 ≤ x) → (k.flatMap Jq.q1).length ≤ 2 * k.length
  | [], _ => Nat.le_refl _
  | c :: r, h => by
    have h1 := q1_len c (h c (List.mem_cons_self ..))
    have ih := flat_len r fun x hx => h x (List.mem_cons_of_mem _ hx)
    rw [List.flatMap_cons, List.length_append, List.length_cons]
    omega
theorem headT_len {k : List Nat} (h : KidOk k) : (headT k).length ≤ 152 := by
  have := flat_len k fun x hx => by have := h.2.2 x hx; omega
  have h2 := h.2.1
  unfold headT Jq.quoted
  simp only [List.length_append, List.length_cons, List.length_nil]
  omega
theorem head_write (k : List Nat) : Jq.write 16 (headJ k) = headT k := by
  simp [Jq.write, headJ, Jq.objJ, Jq.J.kind, Jq.J.list, Jq.J.names, Jq.J.text, Jq.textJ, headT, Jq.joined, List.intercalate, Jq.quoted, Jq.q1]
theorem text_good {n : Nat} {t : List Nat} (h1 : t.length ≤ 4096) (h2 : Jq.valid t = true) : Jq.Good n (Jq.textJ t) :=
  Jq.good_plain (v := Jq.textJ t) ⟨(by decide : (0 : Int) ≤ 3), (by decide : (3 : Int) < 4)⟩ (fun _ => rfl) (fun _ => rfl) (fun h => absurd rfl h) (by decide : (0 : Int) ≤ 9007199254740991) (by decide : (-9007199254740991 : Int) ≤ 0) h1 h2 rfl rfl
theorem head_good {k : List Nat} (h : KidOk k) : Jq.Good 16 (headJ k) := by
  refine Jq.good_object (n := 15) (fun x hx => ?_) (by simp) rfl (fun t ht => ?_) (by decide)
  · rcases List.mem_cons.1 hx with rfl | hx
    · exact text_good (by decide) (by decide +kernel)
    · obtain rfl : x = Jq.textJ k := by simpa using hx
      exact text_good (by have := h.2.1; omega) (valid_ascii k fun x hx => by have := h.2.2 x hx; omega)
  · rcases List.mem_cons.1 ht with rfl | ht
    · exact ⟨by decide, by decide +kernel⟩
    · obtain rfl : t = kidN := by simpa using ht
      exact ⟨by decide, by decide +kernel⟩
theorem q1_lt (c : Nat) (h : c < 256) : ∀ x ∈ Jq.q1 c, x < 256 := by
  intro x hx
  unfold Jq.q1 Jq.hexl at hx
  split at hx
  · simp at hx
    rcases hx with hx | hx | hx | hx | hx
    any_goals omega
    all_goals (rw [hx]; split <;> omega)
  · split at hx <;> simp at hx <;> omega
theorem quoted_lt {k : List Nat} (h : ∀ x ∈ k, x < 256) : ∀ x ∈ Jq.quoted k, x < 256 := by
  intro x hx
  unfold Jq.quoted at hx
  rcases List.mem_cons.1 hx with rfl | hx
  · decide
  · rcases List.mem_append.1 hx with hx | hx
    · obtain ⟨c, hc, hx⟩ := List.mem_flatMap.1 hx
      exact q1_lt c (h c hc) x hx
    · obtain rfl : x = 34 := by simpa using hx
      decide
theorem headT_lt {k : List Nat} (h : KidOk k) : ∀ x ∈ headT k, x < 256 := by
  intro x hx
  unfold headT at hx
  rcases List.mem_append.1 hx with hx | hx
  · exact (by decide : ∀ x ∈ [123, 34, 97, 108, 103, 34, 58, 34, 72, 83, 50, 53, 54, 34, 44, 34, 107, 105, 100, 34, 58], x < 256) x hx
  · rcases List.mem_append.1 hx with hx | hx
    · exact quoted_lt h.lt x hx
    · obtain rfl : x = 125 := by simpa using hx
      decide

/-- What is signed; a token. -/
def signedT (k T : List Nat) : List Nat := B64.enc (headT k) ++ 46 :: B64.enc T
def token (k T key : List Nat) : List Nat := signedT k T ++ 46 :: B64.enc (Sha.mac key (signedT k T))
/-- What Sign answers. -/
def signP (k : List Nat) (x : Jq.J) (key : List Nat) : Option (List Nat) :=
  if KidOk k ∧ x.kind = 5 then (Jq.valueP 16 [] x).map fun T => token k T key else none
theorem dot_lt {a b : List Nat} (ha : ∀ x ∈ a, x < 256) (hb : ∀ x ∈ b, x < 256) : ∀ x ∈ a ++ 46 :: b, x < 256 := by
  intro x hx
  rcases List.mem_append.1 hx with hx | hx
  · exact ha x hx
  · rcases List.mem_cons.1 hx with rfl | hx
    · decide
    · exact hb x hx
theorem signedT_lt (k T : List Nat) : ∀ x ∈ signedT k T, x < 256 := dot_lt (B64.enc_lt _) (B64.enc_lt _)
theorem token_lt (k T key : List Nat) : ∀ x ∈ token k T key, x < 256 := dot_lt (signedT_lt k T) (B64.enc_lt _)
theorem signedT_len {k T : List Nat} (h : KidOk k) (hT : T.length ≤ 4096) : (signedT k T).length ≤ 5666 := by
  have h1 := headT_len h
  unfold signedT
  rw [List.length_append, List.length_cons, B64.enc_length, B64.enc_length]
  unfold B64.sf
  omega
theorem mac_length (key s : List Nat) : (Sha.mac key s).length = 32 := Sha.sum_length _
theorem token_len {k T key : List Nat} (h : KidOk k) (hT : T.length ≤ 4096) : (token k T key).length ≤ 5710 := by
  have h1 := signedT_len h hT
  unfold token
  rw [List.length_append, List.length_cons, B64.enc_length, mac_length]
  unfold B64.sf
  omega

/-- No letter is a dot. -/
theorem SL_dot : ∀ n, n < 64 → B64.sign n ≠ 46 := by decide +kernel
theorem sign_dot (n : Nat) : B64.sign n ≠ 46 := by
  rcases Nat.lt_or_ge n 64 with h | h
  · exact SL_dot n h
  · unfold B64.sign
    rw [List.getD_eq_getElem?_getD, List.getElem?_eq_none (by rw [B64.SL_length]; exact h)]
    decide
theorem sg_dot (g : List Nat) : ∀ x ∈ B64.sg g, x ≠ 46 := by
  intro x hx
  unfold B64.sg at hx
  obtain ⟨i, _, rfl⟩ := List.mem_map.1 hx
  exact sign_dot _
theorem enc_dot : ∀ (n : Nat) (q : List Nat), q.length ≤ n → ∀ x ∈ B64.enc q, x ≠ 46
  | 0, q, h => by
    obtain rfl : q = [] := List.eq_nil_of_length_eq_zero (by omega)
    intro x hx
    rw [B64.enc] at hx
    exact nomatch hx
  | n + 1, q, h => by
    rcases Nat.eq_zero_or_pos q.length with h0 | h0
    · exact enc_dot n q (by omega)
    · intro x hx
      rw [B64.enc_step q h0] at hx
      rcases List.mem_append.1 hx with hx | hx
      · exact sg_dot _ x hx
      · exact enc_dot n _ (by rw [List.length_drop]; omega) x hx
theorem parts_token (k T key : List Nat) : Uq.parts 46 (token k T key) = [B64.enc (headT k), B64.enc T, B64.enc (Sha.mac key (signedT k T))] := by
  have d := fun q => enc_dot q.length q (Nat.le_refl _)
  unfold token signedT
  rw [List.append_assoc, List.cons_append, Uq.parts_first (d _), Uq.parts_first (d _), Uq.parts_free (d _)]
end Go.Proofs.YthklgpflaghojaaGreatDoor.Wq

/-
  What a text says that is a token's: its three parts.
-/
namespace Go.Proofs.YthklgpflaghojaaGreatDoor.Wq

/-- The three parts of a text, read; what is signed of it. -/
def Three (S A B C sg : List Nat) : Prop :=
  S.length ≤ 12288 ∧ ∃ a b c, Uq.parts 46 S = [a, b, c] ∧ B64.IsDec a (some A) ∧ B64.IsDec b (some B) ∧ B64.IsDec c (some C) ∧ sg = a ++ 46 :: b
theorem three_one {S A B C sg A' B' C' sg' : List Nat} (h : Three S A B C sg) (h' : Three S A' B' C' sg') : A = A' ∧ B = B' ∧ C = C' ∧ sg = sg' := by
  obtain ⟨_, a, b, c, hp, h1, h2, h3, rfl⟩ := h
  obtain ⟨_, a', b', c', hp', h1', h2', h3', rfl⟩ := h'
  rw [hp] at hp'
  injection hp' with e1 e2
  injection e2 with e2 e3
  injection e3 with e3 _
  subst e1 e2 e3
  exact ⟨Option.some.inj (B64.isDec_one h1 h1'), Option.some.inj (B64.isDec_one h2 h2'), Option.some.inj (B64.isDec_one h3 h3'), rfl⟩
/-- A text is its parts, with dots between. -/
def joinD : List (List Nat) → List Nat
  | [] => []
  | [p] => p
  | p :: q :: r => p ++ 46 :: joinD (q :: r)
theorem joinD_more (p : List Nat) {r : List (List Nat)} (h : r ≠ []) : joinD (p :: r) = p ++ 46 :: joinD r := by
  cases r with
  | nil => exact absurd rfl h
  | cons q r => rfl
theorem joinD_cons (c : Nat) (p : List Nat) (r : List (List Nat)) : joinD ((c :: p) :: r) = c :: joinD (p :: r) := by
  cases r <;> rfl
theorem parts_join : ∀ S : List Nat, joinD (Uq.parts 46 S) = S ∧ ∀ p ∈ Uq.parts 46 S, ∀ x ∈ p, x ≠ 46
  | [] => ⟨rfl, fun p hp x hx => by obtain rfl : p = [] := by simpa [Uq.parts] using hp
                                    exact nomatch hx⟩
  | c :: r => by
    obtain ⟨h1, h2⟩ := parts_join r
    by_cases hc : c = 46
    · have e : Uq.parts 46 (c :: r) = [] :: Uq.parts 46 r := by rw [Uq.parts, if_pos hc]
      rw [e, joinD_more _ (Uq.parts_ne 46 r), h1, hc]
      refine ⟨rfl, fun p hp x hx => ?_⟩
      rcases List.mem_cons.1 hp with rfl | hp
      · exact nomatch hx
      · exact h2 p hp x hx
    · cases hp : Uq.parts 46 r with
      | nil => exact absurd hp (Uq.parts_ne 46 r)
      | cons q ps =>
        have e : Uq.parts 46 (c :: r) = (c :: q) :: ps := by rw [Uq.parts, if_neg hc, hp]
        rw [hp] at h1 h2
        rw [e, joinD_cons, h1]
        refine ⟨rfl, fun p hp x hx => ?_⟩
        rcases List.mem_cons.1 hp with rfl | hp
        · rcases List.mem_cons.1 hx with rfl | hx
          · exact hc
          · exact h2 q (List.mem_cons_self ..) x hx
        · exact h2 p (List.mem_cons_of_mem _ hp) x hx
theorem three_text {S a b c : List Nat} (h : Uq.parts 46 S = [a, b, c]) : S = (a ++ 46 :: b) ++ 46 :: c ∧ ∀ x ∈ c, x ≠ 46 := by
  obtain ⟨h1, h2⟩ := parts_join S
  rw [h] at h1 h2
  refine ⟨?_, h2 c (by simp)⟩
  rw [← h1, List.append_assoc]
  rfl
theorem three_signed {S A B C sg : List Nat} (h : Three S A B C sg) : ∃ c, S = sg ++ 46 :: c ∧ ∀ x ∈ c, x ≠ 46 := by
  obtain ⟨_, a, b, c, hp, _, _, _, rfl⟩ := h
  exact ⟨c, three_text hp⟩
theorem enc_isDec {q : List Nat} (h : ∀ x ∈ q, x < 256) : B64.IsDec (B64.enc q) (some q) := ⟨h, rfl⟩
/-- A token's parts. -/
theorem three_token {k T key : List Nat} (hk : KidOk k) (hT : T.length ≤ 4096) (hTl : ∀ x ∈ T, x < 256) : Three (token k T key) (headT k) T (Sha.mac key (signedT k T)) (signedT k T) :=
  ⟨by have := token_len (key := key) hk hT; omega, _, _, _, parts_token k T key, enc_isDec (headT_lt hk), enc_isDec hTl, enc_isDec (Sha.sum_lt _), rfl⟩
end Go.Proofs.YthklgpflaghojaaGreatDoor.Wq

/-
  What Open tells, plain.
-/
namespace Go.Proofs.YthklgpflaghojaaGreatDoor.Wq

/-- The object that bytes say. -/
def obj (q : List Nat) : Option Jq.J := match Jq.parse q with
  | .ok v => if v.kind = 5 then some v else none
  | .error _ => none
theorem obj_yes {q : List Nat} {v : Jq.J} (h : Jq.parse q = .ok v) (hk : v.kind = 5) : obj q = some v := by unfold obj; rw [h]; simp only; rw [if_pos hk]
theorem obj_no {q : List Nat} {v : Jq.J} (h : Jq.parse q = .ok v) (hk : v.kind ≠ 5) : obj q = none := by unfold obj; rw [h]; simp only; rw [if_neg hk]
theorem obj_err {q : List Nat} {m : Nat} (h : Jq.parse q = .error m) : obj q = none := by unfold obj; rw [h]

/-- What a token says. -/
structure Tok where
  kid : List Nat
  claims : Jq.J
  signed : List Nat
  mac : List Nat
/-- The kid of a head. -/
def kidOf (h : Jq.J) : Option (List Nat) := match getP h kidN with
  | some v => if v.kind = 3 ∧ KidOk v.text ∧ h.names.length = 2 then some v.text else none
  | none => none
def AlgOk (h : Jq.J) : Prop := ∃ v, getP h algN = some v ∧ v = Jq.textJ hsN
open Classical in
noncomputable def openHead (h cl : Jq.J) (C sg : List Nat) : Except Nat Tok :=
  if ¬ AlgOk h then .error 81 else match kidOf h with
    | none => .error 80
    | some k => if C.length = 32 then .ok ⟨k, cl, sg, C⟩ else .error 82
noncomputable def openBytes (A B C sg : List Nat) : Except Nat Tok := match obj A, obj B with
  | some h, some cl => openHead h cl C sg
  | _, _ => .error 80
open Classical in
noncomputable def openP (S : List Nat) : Except Nat Tok :=
  if h : ∃ p : List Nat × List Nat × List Nat × List Nat, Three S p.1 p.2.1 p.2.2.1 p.2.2.2 then openBytes (Classical.choose h).1 (Classical.choose h).2.1 (Classical.choose h).2.2.1 (Classical.choose h).2.2.2 else .error 80
theorem openP_of {S A B C sg : List Nat} (h : Three S A B C sg) : openP S = openBytes A B C sg := by
  have hx : ∃ p : List Nat × List Nat × List Nat × List Nat, Three S p.1 p.2.1 p.2.2.1 p.2.2.2 := ⟨(A, B, C, sg), h⟩
  unfold openP
  rw [dif_pos hx]
  obtain ⟨h1, h2, h3, h4⟩ := three_one (Classical.choose_spec hx) h
  rw [h1, h2, h3, h4]
theorem openP_none {S : List Nat} (h : ∀ A B C sg, ¬ Three S A B C sg) : openP S = .error 80 := by
  unfold openP
  rw [dif_neg]
  rintro ⟨p, hp⟩
  exact h _ _ _ _ hp
theorem openBytes_no1 {A B C sg : List Nat} (h : obj A = none) : openBytes A B C sg = .error 80 := by unfold openBytes; rw [h]
theorem openBytes_no2 {A B C sg : List Nat} (h : obj B = none) : openBytes A B C sg = .error 80 := by
  unfold openBytes; rw [h]; cases obj A <;> rfl
theorem openBytes_yes {A B C sg : List Nat} {h cl : Jq.J} (h1 : obj A = some h) (h2 : obj B = some cl) : openBytes A B C sg = openHead h cl C sg := by unfold openBytes; rw [h1, h2]
theorem openHead_alg {h cl : Jq.J} {C sg : List Nat} (ha : ¬ AlgOk h) : openHead h cl C sg = .error 81 := by unfold openHead; rw [if_pos ha]
theorem openHead_kid {h cl : Jq.J} {C sg : List Nat} (ha : AlgOk h) (hk : kidOf h = none) : openHead h cl C sg = .error 80 := by unfold openHead; rw [if_neg (fun n => n ha), hk]
theorem openHead_mac {h cl : Jq.J} {C sg k : List Nat} (ha : AlgOk h) (hk : kidOf h = some k) (hC : C.length ≠ 32) : openHead h cl C sg = .error 82 := by
  unfold openHead; rw [if_neg (fun n => n ha), hk]; simp only; rw [if_neg hC]
theorem openHead_yes {h cl : Jq.J} {C sg k : List Nat} (ha : AlgOk h) (hk : kidOf h = some k) (hC : C.length = 32) : openHead h cl C sg = .ok ⟨k, cl, sg, C⟩ := by
  unfold openHead; rw [if_neg (fun n => n ha), hk]; simp only; rw [if_pos hC]
theorem kidOf_some {h : Jq.J} {k : List Nat} (e : kidOf h = some k) : ∃ v, getP h kidN = some v ∧ v.kind = 3 ∧ v.text = k ∧ KidOk k ∧ h.names.length = 2 := by
  unfold kidOf at e
  cases hg : getP h kidN with
  | none => rw [hg] at e; cases e
  | some v =>
    rw [hg] at e
    simp only at e
    by_cases hc : v.kind = 3 ∧ KidOk v.text ∧ h.names.length = 2
    · rw [if_pos hc] at e
      injection e with e
      subst e
      exact ⟨v, rfl, hc.1, rfl, hc.2.1, hc.2.2⟩
    · rw [if_neg hc] at e; cases e
theorem kidOf_none {h : Jq.J} (e : getP h kidN = none) : kidOf h = none := by unfold kidOf; rw [e]
theorem kidOf_yes {h v : Jq.J} (e : getP h kidN = some v) (hc : v.kind = 3 ∧ KidOk v.text ∧ h.names.length = 2) : kidOf h = some v.text := by unfold kidOf; rw [e]; simp only; rw [if_pos hc]
theorem kidOf_no {h v : Jq.J} (e : getP h kidN = some v) (hc : ¬ (v.kind = 3 ∧ KidOk v.text ∧ h.names.length = 2)) : kidOf h = none := by unfold kidOf; rw [e]; simp only; rw [if_neg hc]

/-- A token that was signed is opened. -/
theorem head_alg (k : List Nat) : AlgOk (headJ k) := ⟨_, rfl, rfl⟩
theorem head_kid {k : List Nat} (h : KidOk k) : kidOf (headJ k) = some k := kidOf_yes (v := Jq.textJ k) rfl ⟨rfl, h, rfl⟩
theorem head_obj {k : List Nat} (h : KidOk k) : obj (headT k) = some (headJ k) := by
  refine obj_yes ?_ rfl
  rw [← head_write]
  exact Jq.parse_write (head_good h) (by rw [head_write]; have := headT_len h; omega)
theorem open_token {k T key : List Nat} {x : Jq.J} (hk : KidOk k) (hx : x.kind = 5) (hT : Jq.valueP 16 [] x = some T) (hTl : ∀ y ∈ T, y < 256) :
    openP (token k T key) = .ok ⟨k, x, signedT k T, Sha.mac key (signedT k T)⟩ := by
  obtain ⟨hg, he, hl⟩ := Jq.valueP_some hT
  rw [openP_of (three_token hk hl hTl), openBytes_yes (head_obj hk) (obj_yes (by rw [he]; exact Jq.parse_write hg (by rw [← he]; exact hl)) hx)]
  exact openHead_yes (head_alg k) (head_kid hk) (mac_length _ _)
theorem signP_some {k : List Nat} {x : Jq.J} {key S : List Nat} (h : signP k x key = some S) : KidOk k ∧ x.kind = 5 ∧ ∃ T, Jq.valueP 16 [] x = some T ∧ S = token k T key := by
  unfold signP at h
  by_cases hc : KidOk k ∧ x.kind = 5
  · rw [if_pos hc] at h
    obtain ⟨T, hT, e⟩ := Option.map_eq_some_iff.1 h
    exact ⟨hc.1, hc.2, T, hT, e.symm⟩
  · rw [if_neg hc] at h; cases h
end Go.Proofs.YthklgpflaghojaaGreatDoor.Wq

/-
  The token of the law package's alive, plain.
-/
namespace Go.Proofs.YthklgpflaghojaaGreatDoor.Wq
end Go.Proofs.YthklgpflaghojaaGreatDoor.Wq
