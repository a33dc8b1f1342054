/-
  Elements as bytes, plain: what was written is read as it was, what was read is written as it stood, and no shorter beginning is one.
-/
import Derived.Test.YtkjofadabaecfaaTM
namespace Go.Proofs.Ytkjofadabaecfaa.Bq

theorem read_cons (lv a : Nat) (r : List Nat) : read lv (a :: r) = if a % 32 = 31 then .error 60 else match sized r with
    | none => .error 60
    | some (n, k) => if r.length < k + n then .error 60 else if a / 32 % 2 = 0 then .ok (.mk a ((r.drop k).take n) [], 1 + k + n) else match lv with
      | 0 => .error 61
      | lv + 1 => (items (read lv) n ((r.drop k).take n)).map fun l => (.mk a [] l, 1 + k + n) := by
  rw [read.eq_def]
  cases lv <;> rfl
theorem read_nil (lv : Nat) : read lv [] = .error 60 := by rw [read.eq_def]
theorem first_zero {f : T → Nat} {l : List T} : first f l = 0 ↔ ∀ x ∈ l, f x = 0 := by
  induction l with
  | nil => simp [first]
  | cons x r ih =>
    rw [first]
    by_cases h : f x = 0
    · rw [if_neg (by omega), ih]; simp [h]
    · rw [if_pos h]; simp [h]
theorem amiss_zero {lv : Nat} {t : T} (h : amiss lv t = 0) : t.tag % 32 ≠ 31 ∧ (t.tag / 32 % 2 = 0 → t.list = []) ∧ (t.tag / 32 % 2 ≠ 0 → t.bytes = [] ∧ ∃ n, lv = n + 1 ∧ ∀ x ∈ t.list, amiss n x = 0) := by
  rw [amiss.eq_def] at h
  simp only at h
  split at h
  · omega
  · rename_i h0
    simp only [not_or, not_and] at h0
    obtain ⟨h1, h2, h3⟩ := h0
    refine ⟨h1, fun e => Classical.byContradiction fun hne => h2 e hne, fun e => ?_⟩
    rw [if_neg e] at h
    refine ⟨Classical.byContradiction fun hne => h3 (by omega) hne, ?_⟩
    cases lv with
    | zero => simp at h
    | succ n => exact ⟨n, rfl, first_zero.1 h⟩
theorem amiss_none {lv : Nat} {t : T} (h1 : t.tag % 32 ≠ 31) (h2 : t.tag / 32 % 2 = 0 → t.list = []) (h3 : t.tag / 32 % 2 ≠ 0 → t.bytes = [] ∧ ∃ n, lv = n + 1 ∧ ∀ x ∈ t.list, amiss n x = 0) : amiss lv t = 0 := by
  rw [amiss.eq_def]
  simp only
  rw [if_neg (by
    simp only [not_or, not_and]
    exact ⟨h1, fun e hne => hne (h2 e), fun e hne => hne (h3 (by omega)).1⟩)]
  by_cases e : t.tag / 32 % 2 = 0
  · rw [if_pos e]
  · rw [if_neg e]
    obtain ⟨_, n, rfl, h⟩ := h3 e
    exact first_zero.2 h
theorem size_len (n : Nat) : 1 ≤ (size n).length ∧ (size n).length ≤ 3 := by
  unfold size
  split
  · simp
  · split <;> simp
theorem enc_len (lv : Nat) (t : T) : 2 ≤ (enc lv t).length ∧ (cont lv t).length + 2 ≤ (enc lv t).length ∧ (enc lv t).length ≤ (cont lv t).length + 4 := by
  have := size_len (cont lv t).length
  rw [enc_cont, List.length_cons, List.length_append]
  omega
theorem cont_scalar {lv : Nat} {t : T} (h : t.list = []) : cont lv t = t.bytes := by
  cases lv with
  | zero => rfl
  | succ n => simp [cont, inner, h]
theorem cont_list {lv : Nat} {t : T} (h : t.bytes = []) : cont (lv + 1) t = t.list.flatMap (enc lv) := by
  simp [cont, inner, h]
theorem flat_le {lv : Nat} {x : T} {l : List T} (h : x ∈ l) : (enc lv x).length ≤ (l.flatMap (enc lv)).length := by
  induction l with
  | nil => cases h
  | cons y r ih =>
    rw [List.flatMap_cons, List.length_append]
    rcases List.mem_cons.1 h with rfl | h
    · omega
    · have := ih h; omega
theorem flat_count (lv : Nat) (l : List T) : l.length ≤ (l.flatMap (enc lv)).length := by
  induction l with
  | nil => exact Nat.zero_le _
  | cons x r ih =>
    have := enc_len lv x
    rw [List.flatMap_cons, List.length_append, List.length_cons]
    omega

/-- What stands behind an element is left. -/
theorem items_enc {lv : Nat} (h : ∀ (t : T) (q : List Nat), amiss lv t = 0 → (cont lv t).length ≤ 65535 → read lv (enc lv t ++ q) = .ok (t, (enc lv t).length)) :
    ∀ (l : List T) (f : Nat), (∀ x ∈ l, amiss lv x = 0 ∧ (cont lv x).length ≤ 65535) → l.length ≤ f → items (read lv) f (l.flatMap (enc lv)) = .ok l
  | [], f, _, _ => by cases f <;> rfl
  | x :: r, 0, _, hf => by simp at hf
  | x :: r, f + 1, hx, hf => by
    have h1 := h x (r.flatMap (enc lv)) (hx x (by simp)).1 (hx x (by simp)).2
    have ih := items_enc h r f (fun y hy => hx y (by simp [hy])) (by simp at hf; omega)
    rw [List.flatMap_cons]
    have e : enc lv x ++ r.flatMap (enc lv) = x.tag :: ((size (cont lv x).length ++ cont lv x) ++ r.flatMap (enc lv)) := by rw [enc_cont]; simp
    rw [e] at h1 ⊢
    rw [items, h1]
    simp only
    rw [← e, List.drop_left, ih]
    rfl
theorem read_enc : ∀ (lv : Nat) (t : T) (q : List Nat), amiss lv t = 0 → (cont lv t).length ≤ 65535 → read lv (enc lv t ++ q) = .ok (t, (enc lv t).length) := by
  intro lv
  induction lv with
  | zero =>
    intro t q ha hc
    obtain ⟨h1, h2, h3⟩ := amiss_zero ha
    have hs : t.tag / 32 % 2 = 0 := Classical.byContradiction fun e => by
      obtain ⟨_, n, hn, _⟩ := h3 e
      cases hn
    have hl := h2 hs
    rw [enc_cont, List.cons_append, List.append_assoc, read_cons, if_neg h1, size_sized hc]
    simp only
    rw [if_neg (by simp <;> omega), if_pos hs, List.drop_left, List.take_left]
    obtain ⟨a, b, l⟩ := t
    have hl : l = [] := hl
    subst hl
    simp [cont, T.tag, T.bytes]
    omega
  | succ n ih =>
    intro t q ha hc
    obtain ⟨h1, h2, h3⟩ := amiss_zero ha
    by_cases hs : t.tag / 32 % 2 = 0
    · have hl := h2 hs
      have hcs := cont_scalar (lv := n + 1) hl
      rw [enc_cont, List.cons_append, List.append_assoc, read_cons, if_neg h1, size_sized hc]
      simp only
      rw [if_neg (by simp <;> omega), if_pos hs, List.drop_left, List.take_left, hcs]
      obtain ⟨a, b, l⟩ := t
      have hl : l = [] := hl
      subst hl
      simp [T.tag, T.bytes]
      omega
    · obtain ⟨hb, m, hm, hx⟩ := h3 hs
      injection hm with hm
      subst hm
      have hcl := cont_list (lv := n) hb
      have hi := items_enc (lv := n) ih t.list (cont (n + 1) t).length (fun x hx' => ⟨hx x hx', by
        have e1 := flat_le (lv := n) hx'
        have e2 := (enc_len n x).2.1
        rw [hcl] at hc
        omega⟩) (by rw [hcl]; exact flat_count n t.list)
      rw [enc_cont, List.cons_append, List.append_assoc, read_cons, if_neg h1, size_sized hc]
      simp only
      rw [if_neg (by simp <;> omega), if_neg hs, List.drop_left, List.take_left]
      rw [← hcl] at hi
      rw [hi]
      obtain ⟨a, b, l⟩ := t
      have hb : b = [] := hb
      subst hb
      simp [Except.map, T.tag, T.list]
      omega

/-- What was read is right, and stands there as it is written. -/
def Back (lv : Nat) (S : List Nat) (t : T) (m : Nat) : Prop := 2 ≤ m ∧ m ≤ S.length ∧ amiss lv t = 0 ∧ enc lv t = S.take m ∧ (cont lv t).length ≤ 65535
theorem items_back {lv : Nat} (h : ∀ (S : List Nat) (t : T) (m : Nat), (∀ x ∈ S, x < 256) → read lv S = .ok (t, m) → Back lv S t m) :
    ∀ (f : Nat) (L : List Nat) (l : List T), (∀ x ∈ L, x < 256) → items (read lv) f L = .ok l → (∀ x ∈ l, amiss lv x = 0) ∧ l.flatMap (enc lv) = L
  | f, [], l, _, hi => by
    have : l = [] := by cases f <;> (injection hi with hi; exact hi.symm)
    subst this
    simp
  | 0, a :: r, l, _, hi => by cases hi
  | f + 1, a :: r, l, hL, hi => by
    rw [items] at hi
    cases hr : read lv (a :: r) with
    | error e => rw [hr] at hi; cases hi
    | ok p =>
      obtain ⟨t, m⟩ := p
      rw [hr] at hi
      obtain ⟨b1, b2, b3, b4, b5⟩ := h _ _ _ hL hr
      simp only at hi
      cases hq : items (read lv) f ((a :: r).drop m) with
      | error e => rw [hq] at hi; cases hi
      | ok l' =>
        rw [hq] at hi
        injection hi with hi
        have hi : t :: l' = l := hi
        subst hi
        obtain ⟨i1, i2⟩ := items_back h f _ l' (fun x hx => hL x (List.mem_of_mem_drop hx)) hq
        refine ⟨fun x hx => ?_, by rw [List.flatMap_cons, i2, b4, List.take_append_drop]⟩
        rcases List.mem_cons.1 hx with rfl | hx
        · exact b3
        · exact i1 x hx
theorem read_back : ∀ (lv : Nat) (S : List Nat) (t : T) (m : Nat), (∀ x ∈ S, x < 256) → read lv S = .ok (t, m) → Back lv S t m := by
  intro lv
  induction lv with
  | zero =>
    intro S t m hS h
    cases S with
    | nil => rw [read_nil] at h; cases h
    | cons a r =>
      rw [read_cons] at h
      split at h
      · cases h
      rename_i h31
      cases hz : sized r with
      | none => rw [hz] at h; cases h
      | some p =>
        obtain ⟨n, k⟩ := p
        rw [hz] at h
        simp only at h
        obtain ⟨s1, s2, s3, s4⟩ := sized_size (fun x hx => hS x (by simp [hx])) hz
        have s5 := (sized_le hz).1
        split at h
        · cases h
        rename_i hlen
        split at h
        · rename_i h0
          injection h with h
          injection h with ht hm
          subst ht hm
          have hcl : ((r.drop k).take n).length = n := by rw [List.length_take, List.length_drop]; omega
          refine ⟨by omega, by rw [List.length_cons]; omega, amiss_none h31 (fun _ => rfl) (fun e => absurd h0 e), ?_, by show ((r.drop k).take n).length ≤ _; omega⟩
          show a :: (size ((r.drop k).take n).length ++ (r.drop k).take n) = _
          rw [hcl, ← s2, show 1 + k + n = (k + n) + 1 from by omega, List.take_succ_cons, List.take_add]
        · cases h
  | succ lv ih =>
    intro S t m hS h
    cases S with
    | nil => rw [read_nil] at h; cases h
    | cons a r =>
      rw [read_cons] at h
      split at h
      · cases h
      rename_i h31
      cases hz : sized r with
      | none => rw [hz] at h; cases h
      | some p =>
        obtain ⟨n, k⟩ := p
        rw [hz] at h
        simp only at h
        obtain ⟨s1, s2, s3, s4⟩ := sized_size (fun x hx => hS x (by simp [hx])) hz
        have s5 := (sized_le hz).1
        split at h
        · cases h
        rename_i hlen
        have hcl : ((r.drop k).take n).length = n := by rw [List.length_take, List.length_drop]; omega
        split at h
        · rename_i h0
          injection h with h
          injection h with ht hm
          subst ht hm
          have hce : cont (lv + 1) (.mk a ((r.drop k).take n) []) = (r.drop k).take n := cont_scalar rfl
          refine ⟨by omega, by rw [List.length_cons]; omega, amiss_none h31 (fun _ => rfl) (fun e => absurd h0 e), ?_, by rw [hce]; omega⟩
          rw [enc_cont, hce]
          show a :: (size ((r.drop k).take n).length ++ (r.drop k).take n) = _
          rw [hcl, ← s2, show 1 + k + n = (k + n) + 1 from by omega, List.take_succ_cons, List.take_add]
        · rename_i h0
          cases hi : items (read lv) n ((r.drop k).take n) with
          | error e => rw [hi] at h; cases h
          | ok l =>
            rw [hi] at h
            injection h with h
            have h : (T.mk a [] l, 1 + k + n) = (t, m) := h
            injection h with ht hm
            subst ht hm
            obtain ⟨i1, i2⟩ := items_back ih n _ l (fun x hx => hS x (by simp [List.mem_of_mem_drop (List.mem_of_mem_take hx)])) hi
            have hce : cont (lv + 1) (.mk a [] l) = (r.drop k).take n := (cont_list rfl).trans i2
            refine ⟨by omega, by rw [List.length_cons]; omega, amiss_none h31 (fun e => absurd e h0) (fun _ => ⟨rfl, lv, rfl, i1⟩), ?_, by rw [hce]; omega⟩
            rw [enc_cont, hce]
            show a :: (size ((r.drop k).take n).length ++ (r.drop k).take n) = _
            rw [hcl, ← s2, show 1 + k + n = (k + n) + 1 from by omega, List.take_succ_cons, List.take_add]
theorem read_more {lv : Nat} {S : List Nat} {t : T} {m : Nat} (h : read lv S = .ok (t, m)) (q : List Nat) : read lv (S ++ q) = .ok (t, m) := by
  cases S with
  | nil => rw [read_nil] at h; cases h
  | cons a r =>
    rw [List.cons_append, read_cons]
    rw [read_cons] at h
    split at h
    · cases h
    rename_i h31
    rw [if_neg h31]
    cases hz : sized r with
    | none => rw [hz] at h; cases h
    | some p =>
      obtain ⟨n, k⟩ := p
      rw [hz] at h
      rw [sized_more hz q]
      simp only at h ⊢
      split at h
      · cases h
      rename_i hlen
      rw [if_neg (by rw [List.length_append]; omega)]
      have e : ((r ++ q).drop k).take n = (r.drop k).take n := by
        rw [List.drop_append_of_le_length (by omega), List.take_append_of_le_length (by rw [List.length_drop]; omega)]
      rw [e]
      exact h

theorem wlist_enc {lv : Nat} (h : ∀ t, amiss lv t = 0 → write lv t = if (cont lv t).length ≤ 65535 then some (enc lv t) else none) :
    ∀ (l : List T) (acc : List Nat), (∀ x ∈ l, amiss lv x = 0) → (acc ++ l.flatMap (enc lv)).length ≤ 65535 → wlist (write lv) acc l = some (acc ++ l.flatMap (enc lv))
  | [], acc, _, _ => by simp [wlist]
  | x :: r, acc, hx, hl => by
    rw [List.flatMap_cons, ← List.append_assoc] at hl ⊢
    have e1 := (enc_len lv x).2.1
    have e2 := hl
    rw [List.length_append, List.length_append] at e2
    rw [wlist, h x (hx x (by simp)), if_pos (by omega)]
    simp only
    rw [if_neg (by omega)]
    exact wlist_enc h r _ (fun y hy => hx y (by simp [hy])) hl
/-- A row that is too long is refused, or told as too long. -/
theorem wlist_long {lv : Nat} (h : ∀ t, amiss lv t = 0 → write lv t = if (cont lv t).length ≤ 65535 then some (enc lv t) else none) :
    ∀ (l : List T) (acc : List Nat), (∀ x ∈ l, amiss lv x = 0) → 65535 < (acc ++ l.flatMap (enc lv)).length → ∀ y, wlist (write lv) acc l = some y → 65535 < y.length
  | [], acc, _, hl, y, hy => by
    have : acc = y := by simpa [wlist] using hy
    subst this
    simpa using hl
  | x :: r, acc, hx, hl, y, hy => by
    rw [List.flatMap_cons, ← List.append_assoc] at hl
    rw [wlist, h x (hx x (by simp))] at hy
    by_cases hc : (cont lv x).length ≤ 65535
    · rw [if_pos hc] at hy
      simp only at hy
      by_cases h6 : 65535 < acc.length
      · rw [if_pos h6] at hy; cases hy
      · rw [if_neg h6] at hy
        exact wlist_long h r _ (fun z hz => hx z (by simp [hz])) hl y hy
    · rw [if_neg hc] at hy; cases hy
theorem write_enc : ∀ (lv : Nat) (t : T), amiss lv t = 0 → write lv t = if (cont lv t).length ≤ 65535 then some (enc lv t) else none := by
  intro lv
  induction lv with
  | zero =>
    intro t _
    have e : (cont 0 t).length = t.bytes.length := rfl
    rw [write, e]
    by_cases h : t.bytes.length ≤ 65535
    · rw [if_neg (by omega), if_pos h]; rfl
    · rw [if_pos (by omega), if_neg h]
  | succ n ih =>
    intro t ha
    obtain ⟨_, h2, h3⟩ := amiss_zero ha
    have hx : ∀ x ∈ t.list, amiss n x = 0 := by
      by_cases hs : t.tag / 32 % 2 = 0
      · rw [h2 hs]; exact fun x hx => nomatch hx
      · obtain ⟨_, m, hm, hx⟩ := h3 hs
        injection hm with hm
        subst hm
        exact hx
    rw [write]
    by_cases h : (cont (n + 1) t).length ≤ 65535
    · rw [wlist_enc ih t.list t.bytes hx h, if_pos h, Option.bind_some, if_neg (show ¬ 65535 < (t.bytes ++ t.list.flatMap (enc n)).length from fun e => by
        have h : (t.bytes ++ t.list.flatMap (enc n)).length ≤ 65535 := h
        omega)]
      rfl
    · rw [if_neg h]
      cases hw : wlist (write n) t.bytes t.list with
      | none => rfl
      | some y =>
        have := wlist_long ih t.list t.bytes hx (by
          have h : ¬ (t.bytes ++ t.list.flatMap (enc n)).length ≤ 65535 := h
          omega) y hw
        rw [Option.bind_some, if_pos this]

/-! The whole. -/
theorem encode_ok {t : T} {w : List Nat} (h : encode t = .ok w) : amiss 16 t = 0 ∧ (cont 16 t).length ≤ 65535 ∧ w = enc 16 t := by
  unfold encode at h
  split at h
  · cases h
  · rename_i ha
    have ha : amiss 16 t = 0 := by omega
    rw [write_enc 16 t ha] at h
    split at h
    · cases h
    · rename_i hw
      split at hw
      · rename_i hc
        injection hw with hw
        injection h with h
        exact ⟨ha, hc, by rw [← h, hw]⟩
      · cases hw
theorem encode_yes {t : T} (h1 : amiss 16 t = 0) (h2 : (cont 16 t).length ≤ 65535) : encode t = .ok (enc 16 t) := by
  unfold encode
  rw [if_neg (by omega), write_enc 16 t h1, if_pos h2]
theorem decode_enc {t : T} (h1 : amiss 16 t = 0) (h2 : (cont 16 t).length ≤ 65535) : decode (enc 16 t) = .ok t := by
  have h := read_enc 16 t [] h1 h2
  rw [List.append_nil] at h
  unfold decode
  rw [h]
  simp
theorem encode_back {t : T} {w : List Nat} (h : encode t = .ok w) : decode w = .ok t := by
  obtain ⟨h1, h2, rfl⟩ := encode_ok h
  exact decode_enc h1 h2
theorem decode_ok {S : List Nat} {t : T} (h : decode S = .ok t) : read 16 S = .ok (t, S.length) ∨ ∃ m, read 16 S = .ok (t, m) ∧ S.length ≤ m := by
  unfold decode at h
  split at h
  · cases h
  · rename_i t' n hr
    split at h
    · cases h
    · injection h with h
      subst h
      exact .inr ⟨n, hr, by omega⟩
theorem decode_back {S : List Nat} {t : T} (hS : ∀ x ∈ S, x < 256) (h : decode S = .ok t) : encode t = .ok S := by
  obtain ⟨m, hr, hm⟩ : ∃ m, read 16 S = .ok (t, m) ∧ S.length ≤ m := by
    rcases decode_ok h with h | h
    · exact ⟨_, h, Nat.le_refl _⟩
    · exact h
  obtain ⟨_, b2, b3, b4, b5⟩ := read_back 16 S t m hS hr
  rw [encode_yes b3 b5, b4, List.take_of_length_le hm]
theorem cut_none {t : T} {w : List Nat} (h : encode t = .ok w) {n : Nat} (hn : n < w.length) (hw : ∀ x ∈ w, x < 256) (t' : T) : decode (w.take n) ≠ .ok t' := by
  intro hd
  obtain ⟨h1, h2, rfl⟩ := encode_ok h
  obtain ⟨m, hr, hm⟩ : ∃ m, read 16 ((enc 16 t).take n) = .ok (t', m) ∧ ((enc 16 t).take n).length ≤ m := by
    rcases decode_ok hd with h | h
    · exact ⟨_, h, Nat.le_refl _⟩
    · exact h
  obtain ⟨_, b2, _⟩ := read_back 16 _ t' m (fun x hx => hw x (List.mem_of_mem_take hx)) hr
  have e := read_more hr ((enc 16 t).drop n)
  rw [List.take_append_drop] at e
  have e2 := read_enc 16 t [] h1 h2
  rw [List.append_nil, e] at e2
  injection e2 with e2
  injection e2 with _ e2
  rw [List.length_take] at b2
  omega
end Go.Proofs.Ytkjofadabaecfaa.Bq
