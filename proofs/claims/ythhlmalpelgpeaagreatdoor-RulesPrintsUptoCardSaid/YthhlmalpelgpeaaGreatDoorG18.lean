/-
  G18: ZB ZC ZD, side by side.
-/
import Derived.Test.YthhlmalpelgpeaaGreatDoorG17
import Derived.Test.YthhlmalpelgpeaaGreatDoorG16

/-
  Rules, plain: what is printed of a tree is read as its nodes: the induction.
-/
namespace Go.Proofs.YthhlmalpelgpeaaGreatDoor.Zq

theorem binds_le (o : Int) : binds o ≤ 7 := by
  unfold binds
  repeat (split; omega)
  omega
theorem binds_three {o : Int} (h : binds o = 3) : o = 13 := by
  unfold binds at h
  split at h
  · omega
  split at h
  · omega
  split at h
  · assumption
  repeat (split at h; omega)
  omega
theorem binds_four {o : Int} (h : binds o = 4) : Lev 3 o := by
  unfold binds at h
  split at h
  · omega
  split at h
  · omega
  split at h
  · omega
  split at h
  · exact .inr (.inr (.inl ⟨rfl, by assumption⟩))
  repeat (split at h; omega)
  omega
theorem fit_inner {t : T} {k d : Nat} (h : Fit k t d) (hb : 7 - k ≤ binds t.op) : Inner t d := by
  unfold Fit FitOf at h
  rwa [if_neg (by omega)] at h
theorem par_not {b l : Nat} {s : List Nat} (h : l ≤ b) : par b l s = s := by unfold par; rw [if_neg (by omega)]
theorem fit_down {t : T} {k d : Nat} (h : Fit (k + 1) t d) (hb : binds t.op ≠ 7 - (k + 1)) (hk : k + 1 ≤ 6) (s : List Nat) : Fit k t d ∧ par (binds t.op) (7 - (k + 1)) s = par (binds t.op) (7 - k) s := by
  unfold Fit FitOf at h ⊢
  unfold par
  by_cases hc : binds t.op < 7 - (k + 1)
  · rw [if_pos hc] at h
    rw [if_pos hc, if_pos (by omega), if_pos (by omega)]
    exact ⟨h, rfl⟩
  · rw [if_neg hc] at h
    rw [if_neg hc, if_neg (by omega), if_neg (by omega)]
    exact ⟨h, rfl⟩
theorem fit_some {t : T} {k e : Nat} (h : Fit k t e) : ∃ e, Inner t e := by
  unfold Fit FitOf at h
  split at h
  · obtain ⟨e, _, h⟩ := h; exact ⟨e, h⟩
  · exact ⟨_, h⟩
/-- The first token is not the word not. -/
def First (s : List Nat) : Prop := ∀ z, Out z → ∃ t q, next (s ++ z) = some (t, q) ∧ isTok t wNot = false
theorem first_open (s : List Nat) : First (40 :: s) := fun z _ => ⟨.sign [40], s ++ z, rfl, by decide⟩
theorem first_name {y : List Nat} (hy : NameOk y) (hne : y ≠ wNot) {c : Nat} (hc : inName c = false) (s : List Nat) : First (y ++ c :: s) := fun z _ =>
  ⟨.name y, c :: (s ++ z), by rw [List.append_assoc]; exact next_name hy (out_cons hc), by simp [isTok, hne]⟩
theorem cont_of {t : T} {k d : Nat} {s : List Nat} (h : Back k d s t) : Cont (k + 1) d s t := by
  refine ⟨0, t.size_pos, fun z ns hz hs hl => ?_⟩
  rw [Nat.add_sub_cancel] at hs ⊢
  rw [h z ns hz hs hl]
theorem back_of {t : T} {k d : Nat} {s : List Nat} (hk : k + 1 ≠ 4) (h : Cont (k + 1) d s t) : Back (k + 1) d s t := by
  obtain ⟨m, hm, h⟩ := h
  intro z ns hz hs hl
  have := h z ns hz (hs.less (by omega)) hl
  rw [Nat.add_sub_cancel] at this
  rw [row_loop d k hk]
  refine this.trans ?_
  obtain ⟨n, hn⟩ : ∃ n, 49 - m = n + 1 := ⟨48 - m, by omega⟩
  rw [hn, loop]
  simp only
  rw [hs (k + 1) (by omega) (Nat.le_refl _)]
  simp only
  rw [if_pos trivial]
section
variable {t : T}
theorem climb_up {d : Nat} (hnot : ∀ d, t.op = 13 → Inner t d → Back 4 d (pr t) t) (hcmp : ∀ d, Lev 3 t.op → Inner t d → Back 3 d (pr t) t)
    (hcont : ∀ d k, k = 1 ∨ k = 2 ∨ k = 5 ∨ k = 6 → Lev k t.op → Inner t d → Cont k d (pr t) t) (hfirst : ∀ d, Inner t d → 4 ≤ binds t.op → First (pr t)) (k : Nat)
    (ih : k ≤ 6 → Fit k t d → Back k d (par (binds t.op) (7 - k) (pr t)) t ∧ ((k = 1 ∨ k = 2 ∨ k = 5 ∨ k = 6) → Cont k d (par (binds t.op) (7 - k) (pr t)) t)) :
    k + 1 ≤ 6 → Fit (k + 1) t d → Back (k + 1) d (par (binds t.op) (7 - (k + 1)) (pr t)) t ∧ ((k + 1 = 1 ∨ k + 1 = 2 ∨ k + 1 = 5 ∨ k + 1 = 6) → Cont (k + 1) d (par (binds t.op) (7 - (k + 1)) (pr t)) t) := by
  intro hk hF
  by_cases h4 : k + 1 = 4
  · obtain rfl : k = 3 := by omega
    refine ⟨?_, fun h => by omega⟩
    by_cases h13 : t.op = 13
    · have hb : binds t.op = 3 := by rw [h13]; rfl
      rw [par_not (by omega)]
      exact hnot d h13 (fit_inner hF (by omega))
    · obtain ⟨hF3, hp⟩ := fit_down hF (fun h => h13 (binds_three h)) hk (pr t)
      obtain ⟨hB, _⟩ := ih (by omega) hF3
      rw [hp]
      intro z ns hz hs hl
      have hfst : First (par (binds t.op) (7 - 3) (pr t)) := by
        unfold par
        split
        · exact first_open _
        · rename_i hb
          obtain ⟨e, hI⟩ := fit_some hF
          exact hfirst e hI (by omega)
      obtain ⟨tok, q, hn, hi⟩ := hfst z hz
      show row d 4 _ = _
      rw [row_not]
      unfold notP
      simp only
      rw [hn]
      simp only
      rw [if_neg (by rw [hi]; exact Bool.false_ne_true)]
      exact hB z ns hz (hs.less (by omega)) hl
  by_cases h3 : k + 1 = 3
  · obtain rfl : k = 2 := by omega
    refine ⟨?_, fun h => by omega⟩
    by_cases hL : Lev 3 t.op
    · have hb := hL.binds
      rw [par_not (by omega)]
      exact hcmp d hL (fit_inner hF (by omega))
    · obtain ⟨hF2, hp⟩ := fit_down hF (fun h => hL (binds_four h)) hk (pr t)
      obtain ⟨hB, _⟩ := ih (by omega) hF2
      rw [hp]
      exact back_of (by omega) (cont_of hB)
  · have hC : Cont (k + 1) d (par (binds t.op) (7 - (k + 1)) (pr t)) t := by
      by_cases hL : Lev (k + 1) t.op
      · have hb := hL.binds
        rw [par_not (by omega)]
        exact hcont d (k + 1) (by omega) hL (fit_inner hF (by omega))
      · have hne : binds t.op ≠ 7 - (k + 1) := by
          obtain ⟨e, hI⟩ := fit_some hF
          intro hb
          cases t with
          | leaf n =>
            have : binds n.op = 7 := by rcases hI.1 with ⟨x, rfl, _⟩ | ⟨x, rfl, _⟩ | ⟨x, rfl, _⟩ | ⟨x, rfl, _⟩ <;> rfl
            have hb : binds n.op = 7 - (k + 1) := hb
            omega
          | un o t' =>
            obtain ⟨_, _, ⟨rfl, _⟩ | ⟨h, _⟩⟩ := hI
            · have hb : binds 13 = 7 - (k + 1) := hb
              have h3 : binds 13 = 3 := rfl
              omega
            · have hb : binds o = 7 - (k + 1) := hb
              have h7 : binds o = 7 := by rcases h with rfl | rfl | rfl | rfl <;> rfl
              omega
          | bin o a b =>
            rcases hI with ⟨rfl, _⟩ | ⟨k', hL', _⟩
            · have hb : binds 17 = 7 - (k + 1) := hb
              have h7 : binds 17 = 7 := rfl
              omega
            · have h5 := hL'.binds
              have h6 := hL'.ne
              have hb : binds o = 7 - (k + 1) := hb
              obtain rfl : k' = k + 1 := by omega
              exact hL hL'
        obtain ⟨hF2, hp⟩ := fit_down hF hne hk (pr t)
        rw [hp]
        exact cont_of (ih (by omega) hF2).1
    exact ⟨back_of h4 hC, fun _ => hC⟩
theorem climb (hatom : ∀ d, binds t.op = 7 → Inner t d → Back 0 d (pr t) t) (hnot : ∀ d, t.op = 13 → Inner t d → Back 4 d (pr t) t) (hcmp : ∀ d, Lev 3 t.op → Inner t d → Back 3 d (pr t) t)
    (hcont : ∀ d k, k = 1 ∨ k = 2 ∨ k = 5 ∨ k = 6 → Lev k t.op → Inner t d → Cont k d (pr t) t) (hfirst : ∀ d, Inner t d → 4 ≤ binds t.op → First (pr t)) :
    ∀ d k, k ≤ 6 → Fit k t d → Back k d (par (binds t.op) (7 - k) (pr t)) t ∧ ((k = 1 ∨ k = 2 ∨ k = 5 ∨ k = 6) → Cont k d (par (binds t.op) (7 - k) (pr t)) t) := by
  intro d
  induction d with
  | zero => 
    intro k
    induction k with
    | zero =>
      intro _ hF
      refine ⟨?_, fun h => by omega⟩
      by_cases hb : binds t.op < 7
      · unfold Fit FitOf at hF
        rw [if_pos hb] at hF
        obtain ⟨e, he, _⟩ := hF
        omega
      · rw [par_not (by omega)]
        exact hatom 0 (by have := binds_le t.op; omega) (fit_inner hF (by omega))
    | succ k ih => exact climb_up hnot hcmp hcont hfirst k ih
  | succ d ihd =>
    intro k
    induction k with
    | zero =>
      intro _ hF
      refine ⟨?_, fun h => by omega⟩
      by_cases hb : binds t.op < 7
      · unfold Fit FitOf at hF
        rw [if_pos hb] at hF
        obtain ⟨e, he, hI⟩ := hF
        obtain rfl : d = e := by omega
        have hB := (ihd 6 (Nat.le_refl _) (fit_six.2 hI)).1
        rw [show 7 - 6 = 1 from rfl, par_six] at hB
        intro z ns hz hs hl
        unfold par
        rw [if_pos (by omega), row_zero]
        unfold atom
        have hn : next (40 :: pr t ++ [41] ++ z) = some (.sign [40], pr t ++ (41 :: z)) := by
          rw [List.append_assoc]
          rfl
        simp only
        rw [hn]
        simp only [inn, Option.map_some]
        rw [if_neg (by decide), if_pos trivial, hB (41 :: z) ns (out_cons rfl) (stop_close z) hl]
        rfl
      · rw [par_not (by omega)]
        exact hatom _ (by have := binds_le t.op; omega) (fit_inner hF (by omega))
    | succ k ih => exact climb_up hnot hcmp hcont hfirst k ih
end
end Go.Proofs.YthhlmalpelgpeaaGreatDoor.Zq

/-
  Rules, plain: what is printed of a tree is read as its nodes: each form of a tree.
-/
namespace Go.Proofs.YthhlmalpelgpeaaGreatDoor.Zq

/-- A tree that is read as it is printed. -/
def Good (t : T) : Prop := (∀ d k, k ≤ 6 → Fit k t d → Back k d (par (binds t.op) (7 - k) (pr t)) t ∧ ((k = 1 ∨ k = 2 ∨ k = 5 ∨ k = 6) → Cont k d (par (binds t.op) (7 - k) (pr t)) t)) ∧ ∀ d, Inner t d → 4 ≤ binds t.op → First (pr t)
theorem Good.inner {t : T} {d : Nat} (h : Good t) (hI : Inner t d) : Back 6 d (pr t) t := by
  have := (h.1 d 6 (Nat.le_refl _) (fit_six.2 hI)).1
  rwa [show 7 - 6 = 1 from rfl, par_six] at this
theorem Good.six {t : T} {d : Nat} (h : Good t) (hF : Fit 6 t d) : Back 6 d (pr t) t := h.inner (fit_six.1 hF)
theorem leaf_good (n : Nd) : Good (.leaf n) := by
  have hb : ∀ d, Inner (.leaf n) d → binds n.op = 7 := fun d hI => by rcases hI.1 with ⟨x, rfl, _⟩ | ⟨x, rfl, _⟩ | ⟨x, rfl, _⟩ | ⟨x, rfl, _⟩ <;> rfl
  have hfirst : ∀ d, Inner (.leaf n) d → 4 ≤ binds (T.leaf n).op → First (pr (.leaf n)) := by
    intro d hI _ z hz
    obtain ⟨hI, hd⟩ := hI
    rcases hI with ⟨x, rfl, h⟩ | ⟨x, rfl, h⟩ | ⟨x, rfl, h⟩ | ⟨x, rfl, h⟩
    · exact ⟨.text x, z, next_text h, by simp [isTok]⟩
    · refine ⟨.num x, z, ?_, by simp [isTok]⟩
      have : pr (.leaf ⟨2, (x : Int), 0, 0, []⟩) = Jq.digits x := by
        show Jq.decimal (x : Int) = _
        unfold Jq.decimal
        rw [if_neg (by omega)]
        simp
      rw [this]
      exact next_num h hz
    · exact ⟨.sign [36], x ++ z, rfl, by decide⟩
    · exact first_name nameOk_words.1 (by decide) (c := 40) (by rfl) (36 :: x ++ [41]) z hz
  refine ⟨climb ?_ ?_ ?_ ?_ hfirst, hfirst⟩
  · intro d _ hI z ns hz hs hl
    have hl' : ns.length < 48 := by simp [T.size] at hl; omega
    have hx : idx ns (.leaf n) = (ns.length : Int) := by unfold idx; simp [T.size]
    rw [hx, row_zero]
    unfold atom
    simp only
    obtain ⟨hI, hd⟩ := hI
    rcases hI with ⟨x, rfl, h⟩ | ⟨x, rfl, h⟩ | ⟨x, rfl, h⟩ | ⟨x, rfl, h⟩
    · rw [show pr (.leaf ⟨1, 0, 0, 0, x⟩) = quoted x from rfl, next_text h]
      exact add_to hl'
    · have : pr (.leaf ⟨2, (x : Int), 0, 0, []⟩) = Jq.digits x := by
        show Jq.decimal (x : Int) = _
        unfold Jq.decimal
        rw [if_neg (by omega)]
        simp
      rw [this, next_num h hz]
      exact add_to hl'
    · rw [show next (pr (.leaf ⟨3, 0, 0, 0, x⟩) ++ z) = some (.sign [36], x ++ z) from rfl]
      simp only
      rw [if_pos trivial, nameP_name h hz]
      exact add_to hl'
    · rw [show pr (.leaf ⟨4, 0, 0, 0, x⟩) ++ z = wHas ++ 40 :: 36 :: (x ++ 41 :: z) by
        show wHas ++ 40 :: 36 :: x ++ [41] ++ z = _
        simp]
      rw [next_name nameOk_words.1 (out_cons rfl)]
      simp only
      rw [if_neg (by decide)]
      unfold call
      simp only
      rw [past_sign (by simp)]
      obtain ⟨e, rfl⟩ : ∃ e, d = e + 1 := ⟨d - 1, by have := hd rfl; omega⟩
      simp only [inn, Option.map_some]
      rw [if_pos (by decide), past_sign (by simp)]
      simp only
      rw [nameP_name h (out_cons rfl)]
      simp only
      rw [past_sign (by simp)]
      exact add_to hl'
  · intro d h13 hI
    have := hb d hI
    have h13 : n.op = 13 := h13
    rw [h13] at this
    exact absurd this (by decide)
  · intro d hL hI
    have := hb d hI
    have h := hL.binds
    have h : binds n.op = 7 - 3 := h
    omega
  · intro d k hk hL hI
    have := hb d hI
    have h := hL.binds
    have h2 := hL.ne
    have h : binds n.op = 7 - k := h
    omega
theorem Fit.some {t : T} {k d : Nat} (h : Fit k t d) : ∃ e, Inner t e := fit_some h
theorem un_good (o : Int) (t : T) (h : Good t) : Good (.un o t) := by
  have hp := t.size_pos
  have hfirst : ∀ d, Inner (.un o t) d → 4 ≤ binds (T.un o t).op → First (pr (.un o t)) := by
    intro d hI hb
    obtain ⟨e, rfl, ⟨rfl, _⟩ | ⟨ho, _⟩⟩ := hI
    · exact absurd hb (by show ¬ 4 ≤ binds 13; decide)
    · have e1 : pr (.un o t) = called o ++ 40 :: (pr t ++ [41]) := by
        rw [pr, if_neg (by rcases ho with rfl | rfl | rfl | rfl <;> decide)]
        simp
      rw [e1]
      exact first_name (called_ok ho).1 (called_ok ho).2.2 rfl _
  refine ⟨climb ?_ ?_ ?_ ?_ hfirst, hfirst⟩
  · intro d hb hI z ns hz hs hl
    obtain ⟨e, rfl, ⟨rfl, _⟩ | ⟨ho, hF⟩⟩ := hI
    · exact absurd hb (by show ¬ binds 13 = 7; decide)
    obtain ⟨c1, c2, c3⟩ := called_ok ho
    have hl' : ns.length + t.size + 1 ≤ 48 := by simp [T.size] at hl; omega
    have hB := h.six hF
    rw [row_zero]
    unfold atom
    have e1 : pr (.un o t) ++ z = called o ++ 40 :: (pr t ++ 41 :: z) := by
      rw [pr, if_neg (by rcases ho with rfl | rfl | rfl | rfl <;> decide)]
      simp
    simp only
    rw [e1, next_name c1 (out_cons rfl)]
    simp only
    rw [c2, if_neg (by rcases ho with rfl | rfl | rfl | rfl <;> decide)]
    unfold call
    simp only
    rw [past_sign (by simp)]
    simp only [inn, Option.map_some]
    rw [if_neg (by rcases ho with rfl | rfl | rfl | rfl <;> decide), hB (41 :: z) ns (out_cons rfl) (stop_close z) (by omega)]
    simp only
    rw [if_neg (by rcases ho with rfl | rfl | rfl | rfl <;> decide), past_sign (by simp)]
    simp only
    rw [add_to (by rw [List.length_append, T.flat_len]; omega)]
    unfold idx
    rw [T.flat, List.append_assoc, List.length_append, T.flat_len, T.size]
    congr 1
  · intro d h13 hI z ns hz hs hl
    have h13 : o = 13 := h13
    subst h13
    obtain ⟨e, rfl, ⟨_, hF⟩ | ⟨ho, hF⟩⟩ := hI
    rotate_left
    · exact absurd ho (by decide)
    have hl' : ns.length + t.size + 1 ≤ 48 := by simp [T.size] at hl; omega
    have hB := (h.1 e 4 (by omega) hF).1
    rw [row_not]
    unfold notP
    have e1 : pr (.un 13 t) ++ z = wNot ++ 32 :: (par (binds t.op) 3 (pr t) ++ z) := by
      rw [pr, if_pos rfl]
      simp
    simp only
    rw [e1, next_name nameOk_words.2.2.1 (out_cons rfl)]
    simp only
    rw [if_pos (by decide)]
    simp only [inn, Option.map_some]
    rw [row_space, hB z ns hz hs (by omega)]
    simp only
    rw [add_to (by rw [List.length_append, T.flat_len]; omega)]
    unfold idx
    rw [T.flat, List.append_assoc, List.length_append, T.flat_len, T.size]
    congr 1
  · intro d hL hI
    have h2 := hL.binds
    have h2 : binds o = 7 - 3 := h2
    obtain ⟨e, rfl, ⟨rfl, _⟩ | ⟨ho, hF⟩⟩ := hI
    · exact absurd h2 (by decide)
    · rcases ho with rfl | rfl | rfl | rfl <;> exact absurd h2 (by decide)
  · intro d k hk hL hI
    have h2 := hL.binds
    have h3 := hL.ne
    have h2 : binds o = 7 - k := h2
    obtain ⟨e, rfl, ⟨rfl, _⟩ | ⟨ho, hF⟩⟩ := hI
    · have : binds 13 = 3 := rfl
      omega
    · have : binds o = 7 := by rcases ho with rfl | rfl | rfl | rfl <;> rfl
      omega
theorem bin_good (o : Int) (a b : T) (ha : Good a) (hb : Good b) : Good (.bin o a b) := by
  have hpa := a.size_pos
  have hpb := b.size_pos
  have hsz : (T.bin o a b).size = a.size + b.size + 1 := rfl
  have ei : ∀ ns : List Nd, ((ns ++ a.flat ns.length ++ b.flat (ns ++ a.flat ns.length).length).length : Int) = idx ns (.bin o a b) := fun ns => by
    unfold idx
    rw [List.length_append, List.length_append, T.flat_len, T.flat_len, hsz]
    congr 1
    omega
  have ef : ∀ ns : List Nd, ns ++ a.flat ns.length ++ b.flat (ns ++ a.flat ns.length).length ++ [⟨o, 0, idx ns a, idx (ns ++ a.flat ns.length) b, []⟩] = ns ++ (T.bin o a b).flat ns.length := fun ns => by
    unfold idx
    rw [T.flat, List.append_assoc, List.append_assoc, List.append_assoc, List.length_append, T.flat_len]
  have hlev : ∀ {k d}, Lev k o → Inner (.bin o a b) d → Fit (if k = 3 then 2 else k) a d ∧ Fit (k - 1) b d := by
    intro k d hL hI
    rcases hI with ⟨rfl, _⟩ | ⟨k', hL', h1, h2⟩
    · exact absurd rfl hL.ne.2.1
    · have e1 := hL.binds
      have e2 := hL'.binds
      have n1 := hL.ne
      have n2 := hL'.ne
      obtain rfl : k' = k := by omega
      exact ⟨h1, h2⟩
  have hpr : ∀ {k}, Lev k o → ∀ z, pr (.bin o a b) ++ z = par (binds a.op) (if k = 3 then 5 else 7 - k) (pr a) ++ 32 :: (between o ++ 32 :: (par (binds b.op) (8 - k) (pr b) ++ z)) := by
    intro k hL z
    have hn := hL.ne
    have hb := hL.binds
    rw [pr, if_neg hn.2.1, hb]
    have e1 : (if 7 - k = 4 then 5 else 7 - k) = if k = 3 then 5 else 7 - k := by
      by_cases h3 : k = 3
      · subst h3; rfl
      · rw [if_neg h3, if_neg (by omega)]
    have e2 : 7 - k + 1 = 8 - k := by omega
    rw [e1, e2]
    simp
  have hfirst : ∀ d, Inner (.bin o a b) d → 4 ≤ binds (T.bin o a b).op → First (pr (.bin o a b)) := by
    intro d hI hbb z hz
    by_cases h17 : o = 17
    · subst h17
      have e1 : pr (.bin 17 a b) = wStarts ++ 40 :: (pr a ++ 44 :: 32 :: pr b ++ [41]) := by
        rw [pr, if_pos rfl]
        simp
      rw [e1]
      exact first_name nameOk_words.2.1 (by decide) rfl _ z hz
    · obtain ⟨k, hL⟩ : ∃ k, Lev k o := by
        rcases hI with ⟨h, _⟩ | ⟨k, h, _⟩
        · exact absurd h h17
        · exact ⟨k, h⟩
      have hb4 : 4 ≤ binds o := hbb
      rw [hL.binds] at hb4
      rw [hpr hL]
      have hF := (hlev hL hI).1
      have hz' : Out (32 :: (between o ++ 32 :: (par (binds b.op) (8 - k) (pr b) ++ z))) := out_cons rfl
      obtain ⟨y, ey⟩ : ∃ y, 32 :: (between o ++ 32 :: (par (binds b.op) (8 - k) (pr b) ++ z)) = y := ⟨_, rfl⟩
      rw [ey] at hz' ⊢
      obtain ⟨L, eL⟩ : ∃ L, (if k = 3 then 5 else 7 - k) = L := ⟨_, rfl⟩
      have hL4 : 4 ≤ L := by rw [← eL]; split <;> omega
      rw [eL]
      unfold par
      by_cases hc : binds a.op < L
      · rw [if_pos hc]; exact first_open _ _ hz'
      · rw [if_neg hc]
        obtain ⟨e, hI⟩ := fit_some hF
        exact ha.2 e hI (by omega) _ hz'
  refine ⟨climb ?_ ?_ ?_ ?_ hfirst, hfirst⟩
  · intro d hb7 hI z ns hz hs hl
    have hb7 : binds o = 7 := hb7
    rcases hI with ⟨rfl, e, rfl, hFa, hFb⟩ | ⟨k, hL, _⟩
    rotate_left
    · have := hL.binds
      have := hL.ne
      omega
    have hl' : ns.length + a.size + b.size + 1 ≤ 48 := by simp [T.size] at hl; omega
    have hBa := ha.six hFa
    have hBb := hb.six hFb
    rw [row_zero]
    unfold atom
    have e1 : pr (.bin 17 a b) ++ z = wStarts ++ 40 :: (pr a ++ 44 :: 32 :: (pr b ++ 41 :: z)) := by
      rw [pr, if_pos rfl]
      simp
    simp only
    rw [e1, next_name nameOk_words.2.1 (out_cons rfl)]
    simp only
    rw [if_neg (by decide)]
    unfold call
    simp only
    rw [past_sign (by simp)]
    simp only [inn, Option.map_some]
    rw [if_neg (by decide), hBa (44 :: 32 :: (pr b ++ 41 :: z)) ns (out_cons rfl) (stop_comma _) (by omega)]
    simp only
    rw [if_pos (by decide), past_sign (by simp)]
    simp only
    rw [row_space, hBb (41 :: z) _ (out_cons rfl) (stop_close z) (by rw [List.length_append, T.flat_len]; omega)]
    simp only
    rw [past_sign (by simp)]
    simp only
    rw [add_to (by rw [List.length_append, List.length_append, T.flat_len, T.flat_len]; omega)]
    rw [ei ns, ef ns]
  · intro d h13 hI
    have h13 : o = 13 := h13
    subst h13
    rcases hI with ⟨h, _⟩ | ⟨k, hL, _⟩
    · exact absurd h (by decide)
    · rcases hL with ⟨_, h⟩ | ⟨_, h⟩ | ⟨_, h | h | h⟩ | ⟨_, h⟩ | ⟨_, h⟩ <;> exact absurd h (by decide)
  · intro d hL hI z ns hz hs hl
    have hL : Lev 3 o := hL
    have hl' : ns.length + a.size + b.size + 1 ≤ 48 := by simp [T.size] at hl; omega
    obtain ⟨hFa, hFb⟩ := hlev hL hI
    rw [if_pos rfl] at hFa
    have hBa := (ha.1 d 2 (by omega) hFa).1
    have hBb := (hb.1 d 2 (by omega) hFb).1
    obtain ⟨st, so⟩ := stop_lev hL (par (binds b.op) (8 - 3) (pr b) ++ z)
    rw [hpr hL, if_pos rfl, row_loop d 2 (by omega)]
    simp only
    rw [show par (binds a.op) 5 (pr a) = par (binds a.op) (7 - 2) (pr a) from rfl, hBa _ ns (out_cons rfl) st (by omega)]
    simp only
    rw [loop]
    simp only
    rw [so]
    simp only
    rw [if_neg hL.ne.1, row_space, show par (binds b.op) (8 - 3) (pr b) = par (binds b.op) (7 - 2) (pr b) from rfl, hBb z _ hz (hs.less (by omega)) (by rw [List.length_append, T.flat_len]; omega)]
    simp only
    rw [add_to (by rw [List.length_append, List.length_append, T.flat_len, T.flat_len]; omega)]
    simp only
    rw [if_pos trivial]
    rw [ei ns, ef ns]
  · intro d k hk hL hI
    have hL : Lev k o := hL
    have hk3 : k ≠ 3 := by omega
    obtain ⟨hFa, hFb⟩ := hlev hL hI
    rw [if_neg hk3] at hFa
    obtain ⟨m, hm, hC⟩ := (ha.1 d k (by omega) hFa).2 hk
    have hBb := (hb.1 d (k - 1) (by omega) hFb).1
    refine ⟨m + 1, by simp [T.size]; omega, fun z ns hz hs hl => ?_⟩
    have hl' : ns.length + a.size + b.size + 1 ≤ 48 := by simp [T.size] at hl; omega
    obtain ⟨st, so⟩ := stop_lev hL (par (binds b.op) (8 - k) (pr b) ++ z)
    rw [hpr hL, if_neg hk3]
    refine (hC _ ns (out_cons rfl) st (by omega)).trans ?_
    obtain ⟨n, hn⟩ : ∃ n, 49 - m = n + 1 := ⟨48 - m, by omega⟩
    have hn2 : 49 - (m + 1) = n := by omega
    have e8 : 8 - k = 7 - (k - 1) := by omega
    rw [hn, hn2, loop]
    simp only
    rw [so]
    simp only
    rw [if_neg hL.ne.1, row_space, e8, hBb z _ hz hs (by rw [List.length_append, T.flat_len]; omega)]
    simp only
    rw [add_to (by rw [List.length_append, List.length_append, T.flat_len, T.flat_len]; omega)]
    simp only
    rw [if_neg hk3]
    rw [ei ns, ef ns]
theorem good : ∀ t : T, Good t
  | .leaf n => leaf_good n
  | .un o t => un_good o t (good t)
  | .bin o a b => bin_good o a b (good a) (good b)
/-- What is printed of an expression that was read is read as the expression. -/
theorem exprP_back {t : T} {z : List Nat} (hI : Inner t 16) (hs : t.size ≤ 48) (hz : Out z) (hst : Stop 6 z) : exprP (32 :: (pr t ++ z)) = .ok (t.flat 0, z) := by
  have := (good t).inner hI z [] hz hst (by simpa using hs)
  unfold exprP
  rw [row_space, this]
  rfl
end Go.Proofs.YthhlmalpelgpeaaGreatDoor.Zq

/-
  Rules, plain: rules that were read are read as they are printed.
-/
namespace Go.Proofs.YthhlmalpelgpeaaGreatDoor.Zq

/-- An expression that may have been read. -/
def IsE (ns : List Nd) : Prop := ∃ t, Inner t 16 ∧ ns = t.flat 0 ∧ t.size ≤ 48
def RuleOk (r : Rl) : Prop := (r.name = [] ∧ r.expr = [] ∧ IsE r.cond) ∨ (NameOk r.name ∧ r.name ∉ words ∧ IsE r.expr ∧ (r.cond = [] ∨ IsE r.cond))
theorem ruleP_reads {m : Nat} {l q : List Nat} {r : Rl} (h : ruleP m l = .ok (r, q)) : RuleOk r ∧ m < 16 := by
  refine ⟨?_, (ruleP_more h).2.1⟩
  unfold ruleP at h
  cases h1 : nameP l with
  | error e => rw [h1] at h; cases h
  | ok y =>
  obtain ⟨t, l1⟩ := y
  rw [h1] at h
  simp only at h
  by_cases hm : 16 ≤ m
  · rw [if_pos hm] at h; cases h
  rw [if_neg hm] at h
  by_cases hd : t = wDeny
  · rw [if_pos hd] at h
    cases h2 : past wWhen l1 with
    | error e => rw [h2] at h; cases h
    | ok l2 =>
    rw [h2] at h
    simp only at h
    cases h3 : exprP l2 with
    | error e => rw [h3] at h; cases h
    | ok y =>
    obtain ⟨c, l3⟩ := y
    rw [h3] at h
    simp only [Except.ok.injEq, Prod.mk.injEq] at h
    obtain ⟨rfl, rfl⟩ := h
    exact .inl ⟨rfl, rfl, exprP_reads h3⟩
  rw [if_neg hd] at h
  by_cases hw : t ∈ words
  · rw [if_pos hw] at h; cases h
  rw [if_neg hw] at h
  cases h2 : past [61] l1 with
  | error e => rw [h2] at h; cases h
  | ok l2 =>
  rw [h2] at h
  simp only at h
  cases h3 : exprP l2 with
  | error e => rw [h3] at h; cases h
  | ok y =>
  obtain ⟨c, l3⟩ := y
  rw [h3] at h
  simp only at h
  cases h4 : isP wWhen l3 with
  | error e => rw [h4] at h; cases h
  | ok more =>
  rw [h4] at h
  simp only at h
  cases more with
  | false =>
    simp only [Bool.false_eq_true, if_false, Except.ok.injEq, Prod.mk.injEq] at h
    obtain ⟨rfl, rfl⟩ := h
    exact .inr ⟨nameP_ok h1, hw, exprP_reads h3, .inl rfl⟩
  | true =>
    simp only [if_true] at h
    cases h5 : past wWhen l3 with
    | error e => rw [h5] at h; cases h
    | ok l4 =>
    rw [h5] at h
    simp only at h
    cases h6 : exprP l4 with
    | error e => rw [h6] at h; cases h
    | ok y =>
    obtain ⟨c2, l5⟩ := y
    rw [h6] at h
    simp only [Except.ok.injEq, Prod.mk.injEq] at h
    obtain ⟨rfl, rfl⟩ := h
    exact .inr ⟨nameP_ok h1, hw, exprP_reads h3, .inr (exprP_reads h6)⟩
theorem rules_reads : ∀ (n : Nat) (rs : List Rl) (l : List Nat) (a : List Rl), rulesP n rs l = .ok a → (∀ r ∈ rs, RuleOk r) → rs.length ≤ 16 → (∀ r ∈ a, RuleOk r) ∧ a.length ≤ 16
  | 0, _, _, _, h, _, _ => by cases h
  | n + 1, rs, l, a, h, hr, hl => by
    unfold rulesP at h
    cases h1 : overP l with
    | error e => rw [h1] at h; cases h
    | ok b =>
    rw [h1] at h
    cases b with
    | true => simp only [Except.ok.injEq] at h; subst h; exact ⟨hr, hl⟩
    | false =>
    simp only at h
    cases h2 : ruleP rs.length l with
    | error e => rw [h2] at h; cases h
    | ok y =>
    obtain ⟨r, l2⟩ := y
    rw [h2] at h
    obtain ⟨ok, hm⟩ := ruleP_reads h2
    have hr2 : ∀ x ∈ rs ++ [r], RuleOk x := fun x hx => by
      rcases List.mem_append.1 hx with hx | hx
      · exact hr x hx
      · rw [List.mem_singleton.1 hx]; exact ok
    have hl2 : (rs ++ [r]).length ≤ 16 := by simp; omega
    simp only at h
    cases h3 : overP l2 with
    | error e => rw [h3] at h; cases h
    | ok b =>
    rw [h3] at h
    cases b with
    | true => simp only [Except.ok.injEq] at h; subst h; exact ⟨hr2, hl2⟩
    | false =>
      simp only at h
      cases h4 : past [59] l2 with
      | error e => rw [h4] at h; cases h
      | ok l3 => rw [h4] at h; exact rules_reads n _ _ _ h hr2 hl2

/-- What stands behind a rule: nothing, or a semicolon. -/
def Behind (z : List Nat) : Prop := z = [] ∨ ∃ y, z = 59 :: y
theorem Behind.facts {z : List Nat} (h : Behind z) : Out z ∧ Stop 6 z ∧ isP wWhen z = .ok false := by
  rcases h with rfl | ⟨y, rfl⟩
  · exact ⟨out_nil, stop_nil, rfl⟩
  · exact ⟨out_cons rfl, stop_semi y, rfl⟩
theorem IsE.written {ns : List Nd} (h : IsE ns) : ∃ t, Inner t 16 ∧ ns = t.flat 0 ∧ t.size ≤ 48 ∧ Zq.written ns = pr t := by
  obtain ⟨t, h1, rfl, h3⟩ := h
  exact ⟨t, h1, rfl, h3, written_tree h1 h3⟩
theorem rule_back {r : Rl} {m : Nat} {z : List Nat} (hr : RuleOk r) (hm : m < 16) (hz : Behind z) : ruleP m (ruleW r ++ z) = .ok (r, z) ∧ overP (ruleW r ++ z) = .ok false := by
  obtain ⟨ho, hs, hw⟩ := hz.facts
  obtain ⟨n, x, c⟩ := r
  rcases hr with ⟨h1, h2, h3⟩ | ⟨h1, h2, h3, h4⟩
  · simp only at h1 h2 h3
    subst h1 h2
    obtain ⟨t, hI, e1, e2, e3⟩ := h3.written
    have e : ruleW ⟨[], [], c⟩ ++ z = wDeny ++ 32 :: (wWhen ++ 32 :: (pr t ++ z)) := by
      unfold ruleW
      simp only
      rw [if_pos trivial, e3]
      simp
    rw [e]
    constructor
    · unfold ruleP
      rw [nameP_name nameOk_words.2.2.2.2.1 (out_cons rfl)]
      simp only
      rw [if_neg (by omega), if_pos trivial, past_space, past_name nameOk_words.2.2.2.1 (out_cons rfl)]
      simp only
      rw [exprP_back hI e2 ho hs, ← e1]
    · unfold overP
      rw [next_name nameOk_words.2.2.2.2.1 (out_cons rfl)]
      rfl
  · simp only at h1 h2 h3 h4
    obtain ⟨t, hI, e1, e2, e3⟩ := h3.written
    have hne : n ≠ [] := by
      obtain ⟨⟨a, b, h, _⟩, _⟩ := h1
      rw [h]; exact List.cons_ne_nil _ _
    have hnd : n ≠ wDeny := fun h => h2 (by rw [h]; decide)
    rcases h4 with rfl | h4
    · have e : ruleW ⟨n, x, []⟩ ++ z = n ++ 32 :: 61 :: 32 :: (pr t ++ z) := by
        unfold ruleW
        simp only
        rw [if_neg hne, if_pos trivial, e3]
        simp
      rw [e]
      constructor
      · unfold ruleP
        rw [nameP_name h1 (out_cons rfl)]
        simp only
        rw [if_neg (by omega), if_neg hnd, if_neg h2, show past [61] (32 :: 61 :: 32 :: (pr t ++ z)) = .ok (32 :: (pr t ++ z)) from rfl]
        simp only
        rw [exprP_back hI e2 ho hs, ← e1]
        simp only
        rw [hw]
        rfl
      · unfold overP
        rw [next_name h1 (out_cons rfl)]
        rfl
    · obtain ⟨u, hJ, f1, f2, f3⟩ := h4.written
      have hcn : c ≠ [] := by
        rw [f1]
        intro e
        have := T.flat_len u 0
        have := u.size_pos
        rw [e] at *
        simp at *
        omega
      have e : ruleW ⟨n, x, c⟩ ++ z = n ++ 32 :: 61 :: 32 :: (pr t ++ 32 :: (wWhen ++ 32 :: (pr u ++ z))) := by
        unfold ruleW
        simp only
        rw [if_neg hne, if_neg hcn, e3, f3]
        simp
      rw [e]
      constructor
      · unfold ruleP
        rw [nameP_name h1 (out_cons rfl)]
        simp only
        rw [if_neg (by omega), if_neg hnd, if_neg h2, show past [61] (32 :: 61 :: 32 :: (pr t ++ 32 :: (wWhen ++ 32 :: (pr u ++ z)))) = .ok (32 :: (pr t ++ 32 :: (wWhen ++ 32 :: (pr u ++ z)))) from rfl]
        simp only
        rw [exprP_back hI e2 (out_cons rfl) (stop_when _), ← e1]
        simp only
        have hp : isP wWhen (32 :: (wWhen ++ 32 :: (pr u ++ z))) = .ok true := rfl
        rw [hp]
        simp only [if_true]
        rw [past_space, past_name nameOk_words.2.2.2.1 (out_cons rfl)]
        simp only
        rw [exprP_back hJ f2 ho hs, ← f1]
      · unfold overP
        rw [next_name h1 (out_cons rfl)]
        rfl
theorem rules_space : ∀ (n : Nat) (rs : List Rl) (l : List Nat), rulesP n rs (32 :: l) = rulesP n rs l
  | 0, _, _ => rfl
  | n + 1, rs, l => by
    rw [rulesP, rulesP, show overP (32 :: l) = overP l from rfl, show ruleP rs.length (32 :: l) = ruleP rs.length l from rfl]
theorem whole_cons (r r' : Rl) (l : List Rl) : whole (r :: r' :: l) = ruleW r ++ 59 :: (32 :: whole (r' :: l)) := by
  unfold whole
  simp
theorem rules_back : ∀ (l : List Rl) (rs : List Rl) (n : Nat), (∀ r ∈ l, RuleOk r) → rs.length + l.length ≤ 16 → l.length + 1 ≤ n → rulesP n rs (whole l) = .ok (rs ++ l)
  | [], rs, 0, _, _, h => by cases h
  | [], rs, n + 1, _, _, _ => by
    rw [rulesP, show overP (whole []) = .ok true from rfl, List.append_nil]
  | r :: l, rs, 0, _, _, h => by cases h
  | [r], rs, n + 1, hr, hl, hn => by
    obtain ⟨b1, b2⟩ := rule_back (r := r) (m := rs.length) (z := []) (hr r (by simp)) (by simp at hl; omega) (.inl rfl)
    rw [show whole [r] = ruleW r ++ [] by simp [whole], rulesP, b2]
    simp only
    rw [b1]
    simp only
    rw [show overP [] = .ok true from rfl]
  | r :: r' :: l, rs, n + 1, hr, hl, hn => by
    obtain ⟨b1, b2⟩ := rule_back (r := r) (m := rs.length) (z := 59 :: (32 :: whole (r' :: l))) (hr r (by simp)) (by simp at hl; omega) (.inr ⟨_, rfl⟩)
    have ih := rules_back (r' :: l) (rs ++ [r]) n (fun x hx => hr x (List.mem_cons_of_mem _ hx)) (by simp at hl ⊢; omega) (by simp at hn ⊢; omega)
    rw [whole_cons, rulesP, b2]
    simp only
    rw [b1]
    simp only
    rw [show overP (59 :: (32 :: whole (r' :: l))) = .ok false from rfl]
    simp only
    rw [show past [59] (59 :: (32 :: whole (r' :: l))) = .ok (32 :: whole (r' :: l)) from rfl]
    simp only
    rw [rules_space, ih, List.append_assoc]
    rfl
/-- Rules that were read are right, if what is printed is not too long. -/
theorem right_read {s : List Nat} {l : List Rl} (h : parse s = .ok l) (hl : (whole l).length ≤ 4096) : right l = true := by
  unfold parse at h
  split at h
  · cases h
  obtain ⟨h1, h2⟩ := rules_reads _ _ _ _ h (fun _ h => nomatch h) (by simp)
  unfold right print
  rw [if_neg (by omega)]
  unfold parse
  rw [if_neg (by omega), rules_back l [] 18 h1 (by simpa using h2) (by omega)]
  simp
theorem print_empty {l : List Rl} (h : 4096 < (whole l).length) : print l = [] ∧ l ≠ [] := by
  refine ⟨by unfold print; rw [if_pos h], ?_⟩
  rintro rfl
  simp [whole] at h
end Go.Proofs.YthhlmalpelgpeaaGreatDoor.Zq
