/-
  Rings of keys, plain: which keys are a ring, what is left, what is laid behind it, which key signs and which one is found.
-/
import Derived.Test.YthklgpflaghojaaYBase
namespace Go.Proofs.Ythklgpflaghojaa.Kq

structure K where
  id : ByteArray
  secret : List Nat
  made : Int
  ends : Int
abbrev maxC : Int := 1099511627776
def IdOk (s : ByteArray) : Prop := Wq.KidOk (numsOf s)
def Good (now : Int) (k : K) : Prop := k.made ≤ now ∧ now < k.ends
instance (now : Int) (k : K) : Decidable (Good now k) := inferInstanceAs (Decidable (_ ∧ _))
/-- Whether a key is over. -/
def Gone (now : Int) (k : K) : Prop := k.ends ≤ now
theorem not_gone {now : Int} {k : K} : ¬ Gone now k ↔ now < k.ends := by unfold Gone; omega
def Has (l : List K) (id : ByteArray) : Prop := ∃ k ∈ l, k.id = id
/-- Whether a key may stand behind others. -/
def Fits (l : List K) (k : K) : Prop := ¬ Has l k.id ∧ IdOk k.id ∧ 0 ≤ k.made ∧ ∀ x, l.getLast? = some x → x.made ≤ k.made
/-- Keys in their order, without a bound on how many. -/
def Rt (l : List K) : Prop := (∀ k ∈ l, IdOk k.id ∧ 0 ≤ k.made ∧ k.made < k.ends ∧ k.ends ≤ maxC) ∧ l.Pairwise fun a b => a.id ≠ b.id ∧ a.made ≤ b.made
def Right (l : List K) : Prop := l.length ≤ 8 ∧ Rt l
def drop (now : Int) (l : List K) : List K := l.filter fun k => decide (now < k.ends)
def lived (made life : Int) : Int := if life < maxC - made then made + life else maxC
def newest (k : K) (life : Int) : K := ⟨k.id, k.secret, k.made, lived k.made life⟩
open Classical in
noncomputable def rotate (l : List K) (k : K) (life : Int) : Except Int (List K) :=
  if 1 ≤ life ∧ k.made < maxC ∧ Fits l k then (if (drop k.made l).length < 8 then .ok (drop k.made l ++ [newest k life]) else .error 91) else .error 90
def find (l : List K) (id : ByteArray) (now : Int) : Option K := l.find? fun k => decide (k.id = id ∧ Good now k)
def signing (l : List K) (now : Int) : Option K := l.reverse.find? fun k => decide (Good now k)

theorem Rt.nil : Rt [] := ⟨(fun _ h => nomatch h), List.Pairwise.nil⟩
theorem right_nil : Right [] := ⟨Nat.zero_le _, Rt.nil⟩
theorem Rt.sub {l m : List K} (h : Rt l) (hs : m.Sublist l) : Rt m := ⟨fun k hk => h.1 k (hs.subset hk), h.2.sublist hs⟩
theorem Rt.take {l : List K} (h : Rt l) (i : Nat) : Rt (l.take i) := h.sub (List.take_sublist i l)
theorem drop_rt {l : List K} (h : Rt l) (now : Int) : Rt (drop now l) := h.sub List.filter_sublist
theorem drop_len (now : Int) (l : List K) : (drop now l).length ≤ l.length := List.length_filter_le _ _
theorem mem_drop {l : List K} {now : Int} {k : K} : k ∈ drop now l ↔ k ∈ l ∧ now < k.ends := by
  unfold drop
  rw [List.mem_filter, decide_eq_true_iff]
/-- The last key's time is the greatest. -/
theorem Rt.last {l : List K} (h : Rt l) {x z : K} (hx : x ∈ l) (hz : l.getLast? = some z) : x.made ≤ z.made := by
  obtain ⟨m, rfl⟩ := List.getLast?_eq_some_iff.1 hz
  rw [List.mem_append] at hx
  rcases hx with hx | hx
  · have := (List.pairwise_append.1 h.2).2.2 x hx z (by simp)
    exact this.2
  · simp at hx
    rw [hx]
    exact Int.le_refl _
theorem fits_mem {l : List K} {k : K} (h : Rt l) (hf : Fits l k) : ∀ x ∈ l, x.id ≠ k.id ∧ x.made ≤ k.made := fun x hx => by
  refine ⟨fun e => hf.1 ⟨x, hx, e⟩, ?_⟩
  cases hz : l.getLast? with
  | none =>
    rw [List.getLast?_eq_none_iff] at hz
    subst hz
    cases hx
  | some z => exact Int.le_trans (h.last hx hz) (hf.2.2.2 z hz)
theorem rt_snoc {l : List K} {k : K} (h : Rt l) (hf : Fits l k) (h1 : k.made < k.ends) (h2 : k.ends ≤ maxC) : Rt (l ++ [k]) := by
  refine ⟨fun x hx => ?_, List.pairwise_append.2 ⟨h.2, List.pairwise_singleton _ _, fun a ha b hb => ?_⟩⟩
  · rw [List.mem_append] at hx
    rcases hx with hx | hx
    · exact h.1 x hx
    · simp at hx
      subst hx
      exact ⟨hf.2.1, hf.2.2.1, h1, h2⟩
  · simp at hb
    subst hb
    exact fits_mem h hf a ha
theorem rt_fits {l : List K} {k : K} (h : Rt (l ++ [k])) : Fits l k ∧ k.made < k.ends ∧ k.ends ≤ maxC := by
  have hk := h.1 k (by simp)
  have hp := (List.pairwise_append.1 h.2).2.2
  refine ⟨⟨fun ⟨x, hx, e⟩ => (hp x hx k (by simp)).1 e, hk.1, hk.2.1, fun x hx => ?_⟩, hk.2.2⟩
  obtain ⟨m, rfl⟩ := List.getLast?_eq_some_iff.1 hx
  exact (hp x (by simp) k (by simp)).2
/-- One key more of a ring is looked at. -/
theorem rt_step {l : List K} {i : Nat} {k : K} (hi : l[i]? = some k) : Rt (l.take (i + 1)) ↔ Rt (l.take i) ∧ Fits (l.take i) k ∧ k.made < k.ends ∧ k.ends ≤ maxC := by
  obtain ⟨h1, h2⟩ := List.getElem?_eq_some_iff.1 hi
  rw [List.take_succ_eq_append_getElem h1, h2]
  constructor
  · intro h
    exact ⟨h.sub (List.sublist_append_left _ _), rt_fits h⟩
  · rintro ⟨h, hf, h3, h4⟩
    exact rt_snoc h hf h3 h4
theorem rt_not {l : List K} {i : Nat} {k : K} (hi : l[i]? = some k) (h : ¬ (Fits (l.take i) k ∧ k.made < k.ends ∧ k.ends ≤ maxC)) : ¬ Right l := fun hr =>
  h ((rt_step hi).1 (hr.2.take (i + 1))).2
theorem right_all {l : List K} (h8 : l.length ≤ 8) (h : Rt (l.take l.length)) : Right l := ⟨h8, by rwa [List.take_length] at h⟩
theorem lived_le (made life : Int) (h1 : 1 ≤ life) (h2 : made < maxC) : made < lived made life ∧ lived made life ≤ maxC := by
  unfold lived
  split <;> omega
theorem fits_drop {l : List K} {k : K} (h : Rt l) (hf : Fits l k) (now : Int) : Fits (drop now l) k :=
  ⟨fun ⟨x, hx, e⟩ => hf.1 ⟨x, (mem_drop.1 hx).1, e⟩, hf.2.1, hf.2.2.1, fun x hx => by
    obtain ⟨m, hm⟩ := List.getLast?_eq_some_iff.1 hx
    have : x ∈ drop now l := by rw [hm]; simp
    exact (fits_mem h hf x (mem_drop.1 this).1).2⟩
/-- What rotate answers. -/
theorem rotate_cases (l : List K) (k : K) (life : Int) : (rotate l k life = .ok (drop k.made l ++ [newest k life]) ∧ (1 ≤ life ∧ k.made < maxC ∧ Fits l k) ∧ (drop k.made l).length < 8) ∨
    (rotate l k life = .error 91 ∧ (1 ≤ life ∧ k.made < maxC ∧ Fits l k) ∧ ¬ (drop k.made l).length < 8) ∨ (rotate l k life = .error 90 ∧ ¬ (1 ≤ life ∧ k.made < maxC ∧ Fits l k)) := by
  unfold rotate
  by_cases h : 1 ≤ life ∧ k.made < maxC ∧ Fits l k
  · rw [if_pos h]
    by_cases h2 : (drop k.made l).length < 8
    · rw [if_pos h2]; exact .inl ⟨rfl, h, h2⟩
    · rw [if_neg h2]; exact .inr (.inl ⟨rfl, h, h2⟩)
  · rw [if_neg h]; exact .inr (.inr ⟨rfl, h⟩)
theorem rotate_right {l m : List K} {k : K} {life : Int} (h : Right l) (hr : rotate l k life = .ok m) : Right m := by
  rcases rotate_cases l k life with ⟨e, ⟨h1, h2, hf⟩, h3⟩ | ⟨e, _⟩ | ⟨e, _⟩
  · rw [e] at hr
    injection hr with hr
    subst hr
    have hl := lived_le k.made life h1 h2
    exact ⟨by simp; omega, rt_snoc (k := newest k life) (drop_rt h.2 _) (fits_drop h.2 hf _) hl.1 hl.2⟩
  · rw [e] at hr; cases hr
  · rw [e] at hr; cases hr
theorem rotate_ok {l m : List K} {k : K} {life : Int} (hr : rotate l k life = .ok m) : m = drop k.made l ++ [newest k life] ∧ 1 ≤ life ∧ k.made < maxC ∧ Fits l k := by
  rcases rotate_cases l k life with ⟨e, h, _⟩ | ⟨e, _⟩ | ⟨e, _⟩
  · rw [e] at hr
    injection hr with hr
    exact ⟨hr.symm, h⟩
  · rw [e] at hr; cases hr
  · rw [e] at hr; cases hr
/-- The new key signs, when it is made. -/
theorem rotate_signs {l m : List K} {k : K} {life : Int} (hr : rotate l k life = .ok m) : signing m k.made = some (newest k life) := by
  obtain ⟨rfl, h1, h2, _⟩ := rotate_ok hr
  unfold signing
  rw [List.reverse_append, List.reverse_singleton, List.singleton_append, List.find?_cons_of_pos]
  have hl := lived_le k.made life h1 h2
  rw [decide_eq_true_iff]
  exact ⟨Int.le_refl _, hl.1⟩
/-- What is kept of a key, however the ring is rotated, as long as no other one has its name. -/
def Lasts (now : Int) (k0 : K) (l : List K) : Prop := (Good now k0 → k0 ∈ l) ∧ ∀ x ∈ l, x.id = k0.id → x = k0
theorem lasts_first (now : Int) (k : K) (life : Int) {m : List K} (hr : rotate [] k life = .ok m) : Lasts now (newest k life) m := by
  obtain ⟨rfl, _⟩ := rotate_ok hr
  refine ⟨fun _ => by simp, fun x hx _ => ?_⟩
  rw [List.mem_append] at hx
  rcases hx with hx | hx
  · have := (mem_drop.1 hx).1
    cases this
  · simpa using hx
theorem lasts_on {now : Int} {k0 : K} {l m : List K} {t : K} {life : Int} (h : Lasts now k0 l) (hr : rotate l t life = .ok m) (hn : t.id ≠ k0.id) (ht : t.made ≤ now) : Lasts now k0 m := by
  obtain ⟨rfl, _⟩ := rotate_ok hr
  refine ⟨fun hg => ?_, fun x hx e => ?_⟩
  · rw [List.mem_append]
    exact .inl (mem_drop.2 ⟨h.1 hg, by have := hg.2; omega⟩)
  · rw [List.mem_append] at hx
    rcases hx with hx | hx
    · exact h.2 x (mem_drop.1 hx).1 e
    · simp at hx
      subst hx
      exact absurd e hn
theorem lasts_find {now : Int} {k0 : K} {l : List K} (h : Lasts now k0 l) : (Good now k0 ∧ find l k0.id now = some k0) ∨ (¬ Good now k0 ∧ find l k0.id now = none) := by
  cases hf : find l k0.id now with
  | some x =>
    unfold find at hf
    have h1 := List.mem_of_find?_eq_some hf
    have h2 := List.find?_some hf
    rw [decide_eq_true_iff] at h2
    obtain rfl := h.2 x h1 h2.1
    exact .inl ⟨h2.2, rfl⟩
  | none =>
    refine .inr ⟨fun hg => ?_, rfl⟩
    unfold find at hf
    rw [List.find?_eq_none] at hf
    have := hf k0 (h.1 hg)
    rw [decide_eq_true_iff] at this
    exact this ⟨rfl, hg⟩
/-- When a key that was laid for a hundred ticks is good. -/
theorem good_newest {k : K} {now : Int} (hM : k.made < maxC) : Good now (newest k 100) ↔ k.made ≤ now ∧ now - k.made < min 100 (maxC - k.made) := by
  unfold Good newest lived
  simp only
  split <;> omega

/-! Looking through keys from the front and from behind. -/
theorem find_step {l : List K} {id : ByteArray} {now : Int} {i : Nat} {k : K} (h : find (l.take i) id now = none) (hi : l[i]? = some k) (hk : ¬ (k.id = id ∧ Good now k)) : find (l.take (i + 1)) id now = none := by
  obtain ⟨h1, h2⟩ := List.getElem?_eq_some_iff.1 hi
  unfold find at h ⊢
  rw [List.take_succ_eq_append_getElem h1, h2, List.find?_append, h, Option.none_or, List.find?_cons_of_neg (by rwa [decide_eq_true_iff]), List.find?_nil]
theorem find_hit {l : List K} {id : ByteArray} {now : Int} {i : Nat} {k : K} (h : find (l.take i) id now = none) (hi : l[i]? = some k) (hk : k.id = id ∧ Good now k) : find l id now = some k := by
  obtain ⟨h1, h2⟩ := List.getElem?_eq_some_iff.1 hi
  have e : l = l.take i ++ k :: l.drop (i + 1) := by
    conv => lhs; rw [← List.take_append_drop i l, List.drop_eq_getElem_cons h1, h2]
  unfold find at h ⊢
  rw [e, List.find?_append, h, Option.none_or, List.find?_cons_of_pos (by rwa [decide_eq_true_iff])]
theorem find_all {l : List K} {id : ByteArray} {now : Int} (h : find (l.take l.length) id now = none) : find l id now = none := by rwa [List.take_length] at h
theorem signing_start (l : List K) (now : Int) : signing (l.drop l.length) now = none := by
  rw [List.drop_length]; rfl
theorem signing_step {l : List K} {now : Int} {i : Nat} {k : K} (h : signing (l.drop (i + 1)) now = none) (hi : l[i]? = some k) (hk : ¬ Good now k) : signing (l.drop i) now = none := by
  obtain ⟨h1, h2⟩ := List.getElem?_eq_some_iff.1 hi
  unfold signing at h ⊢
  rw [List.drop_eq_getElem_cons h1, h2, List.reverse_cons, List.find?_append, h, Option.none_or, List.find?_cons_of_neg (by rwa [decide_eq_true_iff]), List.find?_nil]
theorem signing_hit {l : List K} {now : Int} {i : Nat} {k : K} (h : signing (l.drop (i + 1)) now = none) (hi : l[i]? = some k) (hk : Good now k) : signing l now = some k := by
  obtain ⟨h1, h2⟩ := List.getElem?_eq_some_iff.1 hi
  have e : l = l.take i ++ k :: l.drop (i + 1) := by
    conv => lhs; rw [← List.take_append_drop i l, List.drop_eq_getElem_cons h1, h2]
  unfold signing at h ⊢
  rw [e, List.reverse_append, List.reverse_cons, List.append_assoc, List.find?_append, h, Option.none_or, List.singleton_append, List.find?_cons_of_pos (by rwa [decide_eq_true_iff])]
theorem signing_all {l : List K} {now : Int} (h : signing (l.drop 0) now = none) : signing l now = none := h
theorem drop_step {l : List K} {now : Int} {i : Nat} {k : K} (hi : l[i]? = some k) : drop now (l.take (i + 1)) = drop now (l.take i) ++ (if now < k.ends then [k] else []) := by
  obtain ⟨h1, h2⟩ := List.getElem?_eq_some_iff.1 hi
  unfold drop
  rw [List.take_succ_eq_append_getElem h1, h2, List.filter_append]
  by_cases hk : now < k.ends
  · rw [if_pos hk, List.filter_cons_of_pos (by rwa [decide_eq_true_iff]), List.filter_nil]
  · rw [if_neg hk, List.filter_cons_of_neg (by rwa [decide_eq_true_iff]), List.filter_nil]
theorem has_step {l : List K} {id : ByteArray} {i : Nat} {k : K} (h : ¬ Has (l.take i) id) (hi : l[i]? = some k) (hk : k.id ≠ id) : ¬ Has (l.take (i + 1)) id := by
  obtain ⟨h1, h2⟩ := List.getElem?_eq_some_iff.1 hi
  rw [List.take_succ_eq_append_getElem h1, h2]
  rintro ⟨x, hx, e⟩
  rw [List.mem_append] at hx
  rcases hx with hx | hx
  · exact h ⟨x, hx, e⟩
  · simp at hx
    subst hx
    exact hk e
theorem has_none (l : List K) (id : ByteArray) : ¬ Has (l.take 0) id := by
  rintro ⟨x, hx, _⟩
  simp at hx
theorem has_all {l : List K} {id : ByteArray} (h : ¬ Has (l.take l.length) id) : ¬ Has l id := by rwa [List.take_length] at h
/-- The last key of a row, by its place. -/
theorem last_at {l : List K} {i : Nat} {x : K} (hn : l.length = i + 1) (hi : l[i]? = some x) : l.getLast? = some x := by
  rw [List.getLast?_eq_getElem?, hn]; exact hi
theorem K_ext {x y : K} (h1 : x.id = y.id) (h2 : x.secret = y.secret) (h3 : x.made = y.made) (h4 : x.ends = y.ends) : x = y := by
  cases x; cases y
  simp only at h1 h2 h3 h4
  subst h1 h2 h3 h4
  rfl
theorem id_beq (a b : ByteArray) : (a.toList == b.toList) = decide (a = b) := by
  by_cases h : a = b
  · subst h; simp
  · rw [decide_eq_false h, beq_eq_false_iff_ne]
    intro e
    rw [ByteArray.toList_eq, ByteArray.toList_eq] at e
    exact h (ByteArray.ext (Array.toList_inj.1 e))
end Go.Proofs.Ythklgpflaghojaa.Kq
