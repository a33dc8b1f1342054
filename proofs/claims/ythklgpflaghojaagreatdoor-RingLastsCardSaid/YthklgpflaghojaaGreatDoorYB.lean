/-
  YB: TMem YBase YM YKey YSmall YFits, side by side.
-/
import Derived.Test.YthklgpflaghojaaGreatDoorRows
import Derived.Test.YthklgpflaghojaaGreatDoorQM
import Derived.WalkKit
import Derived.WalkSpells
import Derived.WalkLawsBesides
import Derived.Lib.Hide
import Derived.Deep.QuietTactic
import Derived.BigQuiet
import Derived.ArgAppend
import Derived.Laws.BytesArg
import Derived.Laws.MakeOwn
import Derived.Laws.AppendOwnNone
import Derived.Lib.Bytealg
import Derived.StillTailTactics
import Derived.Deep.AppendLies
import Derived.Deep.Cut
import Derived.WalkMore
import Derived.Outline
import Derived.OwnWalk
import Derived.Test.YthklgpflaghojaaGreatDoorWPA
import Derived.Test.YthklgpflaghojaaGreatDoorWPB
import Derived.Test.YthklgpflaghojaaGreatDoorQB
import Derived.Test.YthklgpflaghojaaGreatDoorQS
import Derived.Test.YthklgpflaghojaaGreatDoorQD
import Derived.Test.YthklgpflaghojaaGreatDoorQC
import Derived.Test.YthklgpflaghojaaGreatDoorQK

/-
  Bytes and texts in memory, for the walks over elements.
-/
namespace Go.Proofs.YthklgpflaghojaaGreatDoor
open Go.RowKit
section
variable {w w' : World} {A : Option Addr} {c : Nat} {q : List Nat}
end
section
variable {ops : Array Oper} {rest : List Oper} {o : Oper} {a : Act} {Q : Exit → Act → World → Prop} {w : World}
end
section
variable {w w' : World} {A : Option Addr} {cs : List Value}
end

end Go.Proofs.YthklgpflaghojaaGreatDoor

/-
  What the walks over keys want of bytes, texts and rows.
-/
namespace Go.Proofs.YthklgpflaghojaaGreatDoor.Wq
instance kidOkDec (k : List Nat) : Decidable (KidOk k) := inferInstanceAs (Decidable (_ ∧ _))
end Go.Proofs.YthklgpflaghojaaGreatDoor.Wq
namespace Go.Proofs.YthklgpflaghojaaGreatDoor
open Go.RowKit
section
variable {ops : Array Oper} {rest : List Oper} {o : Oper} {a : Act} {Q : Exit → Act → World → Prop} {w : World}
end

end Go.Proofs.YthklgpflaghojaaGreatDoor

/-
  Rings of keys, plain: which keys are a ring, what is left, what is laid behind it, which key signs and which one is found.
-/
namespace Go.Proofs.YthklgpflaghojaaGreatDoor.Kq

structure K where
  id : ByteArray
  secret : List Nat
  made : Int
  ends : Int
abbrev maxC : Int := 1099511627776
def IdOk (s : ByteArray) : Prop := Wq.KidOk (numsOf s)
def Good (now : Int) (k : K) : Prop := k.made ≤ now ∧ now < k.ends
instance (now : Int) (k : K) : Decidable (Good now k) := inferInstanceAs (Decidable (_ ∧ _))
/-- Whether a key is over. -/
def Gone (now : Int) (k : K) : Prop := k.ends ≤ now
theorem not_gone {now : Int} {k : K} : ¬ Gone now k ↔ now < k.ends := by unfold Gone; omega
def Has (l : List K) (id : ByteArray) : Prop := ∃ k ∈ l, k.id = id
/-- Whether a key may stand behind others. -/
def Fits (l : List K) (k : K) : Prop := ¬ Has l k.id ∧ IdOk k.id ∧ 0 ≤ k.made ∧ ∀ x, l.getLast? = some x → x.made ≤ k.made
/-- Keys in their order, without a bound on how many. -/
def Rt (l : List K) : Prop := (∀ k ∈ l, IdOk k.id ∧ 0 ≤ k.made ∧ k.made < k.ends ∧ k.ends ≤ maxC) ∧ l.Pairwise fun a b => a.id ≠ b.id ∧ a.made ≤ b.made
def Right (l : List K) : Prop := l.length ≤ 8 ∧ Rt l
def drop (now : Int) (l : List K) : List K := l.filter fun k => decide (now < k.ends)
def lived (made life : Int) : Int := if life < maxC - made then made + life else maxC
def newest (k : K) (life : Int) : K := ⟨k.id, k.secret, k.made, lived k.made life⟩
open Classical in
noncomputable def rotate (l : List K) (k : K) (life : Int) : Except Int (List K) :=
  if 1 ≤ life ∧ k.made < maxC ∧ Fits l k then (if (drop k.made l).length < 8 then .ok (drop k.made l ++ [newest k life]) else .error 91) else .error 90
def find (l : List K) (id : ByteArray) (now : Int) : Option K := l.find? fun k => decide (k.id = id ∧ Good now k)
def signing (l : List K) (now : Int) : Option K := l.reverse.find? fun k => decide (Good now k)

theorem Rt.nil : Rt [] := ⟨(fun _ h => nomatch h), List.Pairwise.nil⟩
theorem right_nil : Right [] := ⟨Nat.zero_le _, Rt.nil⟩
theorem Rt.sub {l m : List K} (h : Rt l) (hs : m.Sublist l) : Rt m := ⟨fun k hk => h.1 k (hs.subset hk), h.2.sublist hs⟩
theorem Rt.take {l : List K} (h : Rt l) (i : Nat) : Rt (l.take i) := h.sub (List.take_sublist i l)
theorem drop_rt {l : List K} (h : Rt l) (now : Int) : Rt (drop now l) := h.sub List.filter_sublist
theorem drop_len (now : Int) (l : List K) : (drop now l).length ≤ l.length := List.length_filter_le _ _
theorem mem_drop {l : List K} {now : Int} {k : K} : k ∈ drop now l ↔ k ∈ l ∧ now < k.ends := by
  unfold drop
  rw [List.mem_filter, decide_eq_true_iff]
/-- The last key's time is the greatest. -/
theorem Rt.last {l : List K} (h : Rt l) {x z : K} (hx : x ∈ l) (hz : l.getLast? = some z) : x.made ≤ z.made := by
  obtain ⟨m, rfl⟩ := List.getLast?_eq_some_iff.1 hz
  rw [List.mem_append] at hx
  rcases hx with hx | hx
  · have := (List.pairwise_append.1 h.2).2.2 x hx z (by simp)
    exact this.2
  · simp at hx
    rw [hx]
    exact Int.le_refl _
theorem fits_mem {l : List K} {k : K} (h : Rt l) (hf : Fits l k) : ∀ x ∈ l, x.id ≠ k.id ∧ x.made ≤ k.made := fun x hx => by
  refine ⟨fun e => hf.1 ⟨x, hx, e⟩, ?_⟩
  cases hz : l.getLast? with
  | none =>
    rw [List.getLast?_eq_none_iff] at hz
    subst hz
    cases hx
  | some z => exact Int.le_trans (h.last hx hz) (hf.2.2.2 z hz)
theorem rt_snoc {l : List K} {k : K} (h : Rt l) (hf : Fits l k) (h1 : k.made < k.ends) (h2 : k.ends ≤ maxC) : Rt (l ++ [k]) := by
  refine ⟨fun x hx => ?_, List.pairwise_append.2 ⟨h.2, List.pairwise_singleton _ _, fun a ha b hb => ?_⟩⟩
  · rw [List.mem_append] at hx
    rcases hx with hx | hx
    · exact h.1 x hx
    · simp at hx
      subst hx
      exact ⟨hf.2.1, hf.2.2.1, h1, h2⟩
  · simp at hb
    subst hb
    exact fits_mem h hf a ha
theorem rt_fits {l : List K} {k : K} (h : Rt (l ++ [k])) : Fits l k ∧ k.made < k.ends ∧ k.ends ≤ maxC := by
  have hk := h.1 k (by simp)
  have hp := (List.pairwise_append.1 h.2).2.2
  refine ⟨⟨fun ⟨x, hx, e⟩ => (hp x hx k (by simp)).1 e, hk.1, hk.2.1, fun x hx => ?_⟩, hk.2.2⟩
  obtain ⟨m, rfl⟩ := List.getLast?_eq_some_iff.1 hx
  exact (hp x (by simp) k (by simp)).2
/-- One key more of a ring is looked at. -/
theorem rt_step {l : List K} {i : Nat} {k : K} (hi : l[i]? = some k) : Rt (l.take (i + 1)) ↔ Rt (l.take i) ∧ Fits (l.take i) k ∧ k.made < k.ends ∧ k.ends ≤ maxC := by
  obtain ⟨h1, h2⟩ := List.getElem?_eq_some_iff.1 hi
  rw [List.take_succ_eq_append_getElem h1, h2]
  constructor
  · intro h
    exact ⟨h.sub (List.sublist_append_left _ _), rt_fits h⟩
  · rintro ⟨h, hf, h3, h4⟩
    exact rt_snoc h hf h3 h4
theorem rt_not {l : List K} {i : Nat} {k : K} (hi : l[i]? = some k) (h : ¬ (Fits (l.take i) k ∧ k.made < k.ends ∧ k.ends ≤ maxC)) : ¬ Right l := fun hr =>
  h ((rt_step hi).1 (hr.2.take (i + 1))).2
theorem right_all {l : List K} (h8 : l.length ≤ 8) (h : Rt (l.take l.length)) : Right l := ⟨h8, by rwa [List.take_length] at h⟩
theorem lived_le (made life : Int) (h1 : 1 ≤ life) (h2 : made < maxC) : made < lived made life ∧ lived made life ≤ maxC := by
  unfold lived
  split <;> omega
theorem fits_drop {l : List K} {k : K} (h : Rt l) (hf : Fits l k) (now : Int) : Fits (drop now l) k :=
  ⟨fun ⟨x, hx, e⟩ => hf.1 ⟨x, (mem_drop.1 hx).1, e⟩, hf.2.1, hf.2.2.1, fun x hx => by
    obtain ⟨m, hm⟩ := List.getLast?_eq_some_iff.1 hx
    have : x ∈ drop now l := by rw [hm]; simp
    exact (fits_mem h hf x (mem_drop.1 this).1).2⟩
/-- What rotate answers. -/
theorem rotate_cases (l : List K) (k : K) (life : Int) : (rotate l k life = .ok (drop k.made l ++ [newest k life]) ∧ (1 ≤ life ∧ k.made < maxC ∧ Fits l k) ∧ (drop k.made l).length < 8) ∨
    (rotate l k life = .error 91 ∧ (1 ≤ life ∧ k.made < maxC ∧ Fits l k) ∧ ¬ (drop k.made l).length < 8) ∨ (rotate l k life = .error 90 ∧ ¬ (1 ≤ life ∧ k.made < maxC ∧ Fits l k)) := by
  unfold rotate
  by_cases h : 1 ≤ life ∧ k.made < maxC ∧ Fits l k
  · rw [if_pos h]
    by_cases h2 : (drop k.made l).length < 8
    · rw [if_pos h2]; exact .inl ⟨rfl, h, h2⟩
    · rw [if_neg h2]; exact .inr (.inl ⟨rfl, h, h2⟩)
  · rw [if_neg h]; exact .inr (.inr ⟨rfl, h⟩)
theorem rotate_right {l m : List K} {k : K} {life : Int} (h : Right l) (hr : rotate l k life = .ok m) : Right m := by
  rcases rotate_cases l k life with ⟨e, ⟨h1, h2, hf⟩, h3⟩ | ⟨e, _⟩ | ⟨e, _⟩
  · rw [e] at hr
    injection hr with hr
    subst hr
    have hl := lived_le k.made life h1 h2
    exact ⟨by simp; omega, rt_snoc (k := newest k life) (drop_rt h.2 _) (fits_drop h.2 hf _) hl.1 hl.2⟩
  · rw [e] at hr; cases hr
  · rw [e] at hr; cases hr
theorem rotate_ok {l m : List K} {k : K} {life : Int} (hr : rotate l k life = .ok m) : m = drop k.made l ++ [newest k life] ∧ 1 ≤ life ∧ k.made < maxC ∧ Fits l k := by
  rcases rotate_cases l k life with ⟨e, h, _⟩ | ⟨e, _⟩ | ⟨e, _⟩
  · rw [e] at hr
    injection hr with hr
    exact ⟨hr.symm, h⟩
  · rw [e] at hr; cases hr
  · rw [e] at hr; cases hr
/-- What is kept of a key, however the ring is rotated, as long as no other one has its name. -/
def Lasts (now : Int) (k0 : K) (l : List K) : Prop := (Good now k0 → k0 ∈ l) ∧ ∀ x ∈ l, x.id = k0.id → x = k0
theorem lasts_first (now : Int) (k : K) (life : Int) {m : List K} (hr : rotate [] k life = .ok m) : Lasts now (newest k life) m := by
  obtain ⟨rfl, _⟩ := rotate_ok hr
  refine ⟨fun _ => by simp, fun x hx _ => ?_⟩
  rw [List.mem_append] at hx
  rcases hx with hx | hx
  · have := (mem_drop.1 hx).1
    cases this
  · simpa using hx
theorem lasts_on {now : Int} {k0 : K} {l m : List K} {t : K} {life : Int} (h : Lasts now k0 l) (hr : rotate l t life = .ok m) (hn : t.id ≠ k0.id) (ht : t.made ≤ now) : Lasts now k0 m := by
  obtain ⟨rfl, _⟩ := rotate_ok hr
  refine ⟨fun hg => ?_, fun x hx e => ?_⟩
  · rw [List.mem_append]
    exact .inl (mem_drop.2 ⟨h.1 hg, by have := hg.2; omega⟩)
  · rw [List.mem_append] at hx
    rcases hx with hx | hx
    · exact h.2 x (mem_drop.1 hx).1 e
    · simp at hx
      subst hx
      exact absurd e hn
theorem lasts_find {now : Int} {k0 : K} {l : List K} (h : Lasts now k0 l) : (Good now k0 ∧ find l k0.id now = some k0) ∨ (¬ Good now k0 ∧ find l k0.id now = none) := by
  cases hf : find l k0.id now with
  | some x =>
    unfold find at hf
    have h1 := List.mem_of_find?_eq_some hf
    have h2 := List.find?_some hf
    rw [decide_eq_true_iff] at h2
    obtain rfl := h.2 x h1 h2.1
    exact .inl ⟨h2.2, rfl⟩
  | none =>
    refine .inr ⟨fun hg => ?_, rfl⟩
    unfold find at hf
    rw [List.find?_eq_none] at hf
    have := hf k0 (h.1 hg)
    rw [decide_eq_true_iff] at this
    exact this ⟨rfl, hg⟩
/-- When a key that was laid for a hundred ticks is good. -/
theorem good_newest {k : K} {now : Int} (hM : k.made < maxC) : Good now (newest k 100) ↔ k.made ≤ now ∧ now - k.made < min 100 (maxC - k.made) := by
  unfold Good newest lived
  simp only
  split <;> omega

/-! Looking through keys from the front and from behind. -/
theorem find_step {l : List K} {id : ByteArray} {now : Int} {i : Nat} {k : K} (h : find (l.take i) id now = none) (hi : l[i]? = some k) (hk : ¬ (k.id = id ∧ Good now k)) : find (l.take (i + 1)) id now = none := by
  obtain ⟨h1, h2⟩ := List.getElem?_eq_some_iff.1 hi
  unfold find at h ⊢
  rw [List.take_succ_eq_append_getElem h1, h2, List.find?_append, h, Option.none_or, List.find?_cons_of_neg (by rwa [decide_eq_true_iff]), List.find?_nil]
theorem find_hit {l : List K} {id : ByteArray} {now : Int} {i : Nat} {k : K} (h : find (l.take i) id now = none) (hi : l[i]? = some k) (hk : k.id = id ∧ Good now k) : find l id now = some k := by
  obtain ⟨h1, h2⟩ := List.getElem?_eq_some_iff.1 hi
  have e : l = l.take i ++ k :: l.drop (i + 1) := by
    conv => lhs; rw [← List.take_append_drop i l, List.drop_eq_getElem_cons h1, h2]
  unfold find at h ⊢
  rw [e, List.find?_append, h, Option.none_or, List.find?_cons_of_pos (by rwa [decide_eq_true_iff])]
theorem find_all {l : List K} {id : ByteArray} {now : Int} (h : find (l.take l.length) id now = none) : find l id now = none := by rwa [List.take_length] at h
theorem signing_start (l : List K) (now : Int) : signing (l.drop l.length) now = none := by
  rw [List.drop_length]; rfl
theorem signing_step {l : List K} {now : Int} {i : Nat} {k : K} (h : signing (l.drop (i + 1)) now = none) (hi : l[i]? = some k) (hk : ¬ Good now k) : signing (l.drop i) now = none := by
  obtain ⟨h1, h2⟩ := List.getElem?_eq_some_iff.1 hi
  unfold signing at h ⊢
  rw [List.drop_eq_getElem_cons h1, h2, List.reverse_cons, List.find?_append, h, Option.none_or, List.find?_cons_of_neg (by rwa [decide_eq_true_iff]), List.find?_nil]
theorem signing_hit {l : List K} {now : Int} {i : Nat} {k : K} (h : signing (l.drop (i + 1)) now = none) (hi : l[i]? = some k) (hk : Good now k) : signing l now = some k := by
  obtain ⟨h1, h2⟩ := List.getElem?_eq_some_iff.1 hi
  have e : l = l.take i ++ k :: l.drop (i + 1) := by
    conv => lhs; rw [← List.take_append_drop i l, List.drop_eq_getElem_cons h1, h2]
  unfold signing at h ⊢
  rw [e, List.reverse_append, List.reverse_cons, List.append_assoc, List.find?_append, h, Option.none_or, List.singleton_append, List.find?_cons_of_pos (by rwa [decide_eq_true_iff])]
theorem drop_step {l : List K} {now : Int} {i : Nat} {k : K} (hi : l[i]? = some k) : drop now (l.take (i + 1)) = drop now (l.take i) ++ (if now < k.ends then [k] else []) := by
  obtain ⟨h1, h2⟩ := List.getElem?_eq_some_iff.1 hi
  unfold drop
  rw [List.take_succ_eq_append_getElem h1, h2, List.filter_append]
  by_cases hk : now < k.ends
  · rw [if_pos hk, List.filter_cons_of_pos (by rwa [decide_eq_true_iff]), List.filter_nil]
  · rw [if_neg hk, List.filter_cons_of_neg (by rwa [decide_eq_true_iff]), List.filter_nil]
theorem has_step {l : List K} {id : ByteArray} {i : Nat} {k : K} (h : ¬ Has (l.take i) id) (hi : l[i]? = some k) (hk : k.id ≠ id) : ¬ Has (l.take (i + 1)) id := by
  obtain ⟨h1, h2⟩ := List.getElem?_eq_some_iff.1 hi
  rw [List.take_succ_eq_append_getElem h1, h2]
  rintro ⟨x, hx, e⟩
  rw [List.mem_append] at hx
  rcases hx with hx | hx
  · exact h ⟨x, hx, e⟩
  · simp at hx
    subst hx
    exact hk e
theorem has_none (l : List K) (id : ByteArray) : ¬ Has (l.take 0) id := by
  rintro ⟨x, hx, _⟩
  simp at hx
theorem has_all {l : List K} {id : ByteArray} (h : ¬ Has (l.take l.length) id) : ¬ Has l id := by rwa [List.take_length] at h
/-- The last key of a row, by its place. -/
theorem last_at {l : List K} {i : Nat} {x : K} (hn : l.length = i + 1) (hi : l[i]? = some x) : l.getLast? = some x := by
  rw [List.getLast?_eq_getElem?, hn]; exact hi
theorem id_beq (a b : ByteArray) : (a.toList == b.toList) = decide (a = b) := by
  by_cases h : a = b
  · subst h; simp
  · rw [decide_eq_false h, beq_eq_false_iff_ne]
    intro e
    rw [ByteArray.toList_eq, ByteArray.toList_eq] at e
    exact h (ByteArray.ext (Array.toList_inj.1 e))
end Go.Proofs.YthklgpflaghojaaGreatDoor.Kq

/-
  Keys in memory: what one reads as; a row of keys; a struct of four cells.
-/
namespace Go.Proofs.YthklgpflaghojaaGreatDoor
open Go.RowKit

/-- A key's four cells. -/
abbrev kv (id : ByteArray) (sec : Value) (made ends : Int) : Value := .agg #[.string id, sec, .int .i64 made, .int .i64 ends]
abbrev I64 (n : Int) : Prop := -9223372036854775808 ≤ n ∧ n ≤ 9223372036854775807
/-- What a value reads as, all its blocks such of which ok speaks. -/
def IsK (w : World) (ok : Nat → Prop) (v : Value) (x : Kq.K) : Prop :=
  ∃ A c, v = kv x.id (.slice A x.secret.length c) x.made x.ends ∧ SlIs w ok (.slice A x.secret.length c) x.secret.length (u8s x.secret) ∧ (x.secret.length ≤ 140737488355328 ∧ ∀ y ∈ x.secret, y < 256) ∧ I64 x.made ∧ I64 x.ends
section
variable {w w' : World} {ok ok' : Nat → Prop} {v : Value} {x : Kq.K}
theorem IsK.keep (h : IsK w ok v x) (hk : ∀ b, ok b → b < w.heap.size → ok' b ∧ w'.heap[b]? = w.heap[b]?) (hs : w.heap.size ≤ w'.heap.size) : IsK w' ok' v x := by
  obtain ⟨A, c, h1, h2, h3⟩ := h
  exact ⟨A, c, h1, h2.keep hk hs, h3⟩
theorem IsK.on (h : IsK w ok v x) (hb : Below w.heap.size w w') : IsK w' ok v x := h.keep (fun b hb' hlt => ⟨hb', hb.block b hlt⟩) hb.size
theorem IsK.any (h : IsK w ok v x) : IsK w (fun _ => True) v x := h.keep (fun _ _ _ => ⟨trivial, rfl⟩) (Nat.le_refl _)
theorem IsK.from {B C : Nat} (h : IsK w (B ≤ ·) v x) (hB : C ≤ B) : IsK w (C ≤ ·) v x := h.keep (fun _ hb _ => ⟨Nat.le_trans hB hb, rfl⟩) (Nat.le_refl _)
theorem IsK.drew (h : IsK w ok v x) : IsK w.drew ok v x := IsK.keep (w := w) (w' := w.drew) (ok := ok) h (fun _ hb _ => ⟨hb, rfl⟩) (Nat.le_refl _)
theorem slIs_argIs {A : Option Addr} {c : Nat} {q : List Nat} (h : SlIs w ok (.slice A q.length c) q.length (u8s q)) (hq : ∀ x ∈ q, x < 256) : ArgIs w A c q := by
  obtain ⟨A', c', e, h1, h2, h3⟩ := h
  injection e with e1 e2 e3
  subst e1 e3
  refine ⟨h1, h2, hq, fun hp => ?_⟩
  obtain ⟨b, off, rfl, _, h5, h6⟩ := h3 hp
  exact ⟨b, off, rfl, h5, fun j x hj => ⟨hq x (List.mem_of_getElem? hj), h6 j _ (by simp [u8s, hj])⟩⟩
theorem argIs_slIs {A : Option Addr} {c : Nat} {q : List Nat} (h : ArgIs w A c q) : SlIs w (fun _ => True) (.slice A q.length c) q.length (u8s q) := by
  obtain ⟨h1, h2, _, h4⟩ := h
  refine ⟨A, c, rfl, h1, h2, fun hp => ?_⟩
  obtain ⟨b, off, rfl, h5, h6⟩ := h4 hp
  exact ⟨b, off, rfl, trivial, h5, fun j x hj => by
    simp only [u8s, List.getElem?_map, Option.map_eq_some_iff] at hj
    obtain ⟨y, hy, rfl⟩ := hj
    exact (h6 j y hy).2⟩
/-- The parts of a key. -/
theorem IsK.parts (h : IsK w ok v x) : ∃ A c, v = kv x.id (.slice A x.secret.length c) x.made x.ends ∧ ArgIs w A c x.secret ∧ x.secret.length ≤ 140737488355328 ∧ I64 x.made ∧ I64 x.ends := by
  obtain ⟨A, c, h1, h2, h3, h4, h5⟩ := h
  exact ⟨A, c, h1, slIs_argIs h2 h3.2, h3.1, h4, h5⟩
theorem isK_zero (w : World) (ok : Nat → Prop) : IsK w ok (kv ByteArray.empty (.slice none 0 0) 0 0) ⟨ByteArray.empty, [], 0, 0⟩ :=
  ⟨none, 0, rfl, SlIs.nil w ok, ⟨Nat.zero_le _, fun _ h => nomatch h⟩, ⟨by decide, by decide⟩, by decide, by decide⟩
theorem kcells_len (h : IsK w ok v x) : (jcells v).length = 4 := by
  obtain ⟨A, c, rfl, _⟩ := h; rfl
end
theorem flat4_at : ∀ (vs : List Value), (∀ v ∈ vs, (jcells v).length = 4) → ∀ (i j : Nat) (v : Value), vs[i]? = some v → j < 4 → (vs.flatMap jcells)[i * 4 + j]? = (jcells v)[j]?
  | [], _, i, j, v, h, _ => by simp at h
  | a :: r, hl, 0, j, v, h, hj => by
    simp at h
    subst h
    rw [List.flatMap_cons, List.getElem?_append_left (by have := hl a (by simp); omega)]
    simp
  | a :: r, hl, i + 1, j, v, h, hj => by
    have ha := hl a (by simp)
    rw [List.flatMap_cons, List.getElem?_append_right (by omega), show (i + 1) * 4 + j - (jcells a).length = i * 4 + j from by omega]
    exact flat4_at r (fun v hv => hl v (by simp [hv])) i j v (by simpa using h) hj
/-- A row of keys in memory. -/
def KsIs (w : World) (ok : Nat → Prop) (v : Value) (l : List Kq.K) : Prop :=
  ∃ vs : List Value, SlIs w ok v l.length (vs.flatMap jcells) ∧ vs.length = l.length ∧ l.length * 56 ≤ 140737488355328 ∧ ∀ (i : Nat) v x, vs[i]? = some v → l[i]? = some x → IsK w ok v x
section
variable {w w' : World} {ok ok' : Nat → Prop} {v : Value} {l : List Kq.K}
theorem KsIs.form (h : KsIs w ok v l) : ∃ A c, v = .slice A l.length c := by
  obtain ⟨_, ⟨A, c, rfl, _⟩, _⟩ := h
  exact ⟨A, c, rfl⟩
theorem KsIs.keep (h : KsIs w ok v l) (hk : ∀ b, ok b → b < w.heap.size → ok' b ∧ w'.heap[b]? = w.heap[b]?) (hs : w.heap.size ≤ w'.heap.size) : KsIs w' ok' v l := by
  obtain ⟨vs, h1, h2, h3, h4⟩ := h
  exact ⟨vs, h1.keep hk hs, h2, h3, fun i v x e1 e2 => (h4 i v x e1 e2).keep hk hs⟩
theorem KsIs.on (h : KsIs w ok v l) (hb : Below w.heap.size w w') : KsIs w' ok v l := h.keep (fun b hb' hlt => ⟨hb', hb.block b hlt⟩) hb.size
theorem KsIs.any (h : KsIs w ok v l) : KsIs w (fun _ => True) v l := h.keep (fun _ _ _ => ⟨trivial, rfl⟩) (Nat.le_refl _)
theorem KsIs.drew (h : KsIs w ok v l) : KsIs w.drew ok v l := KsIs.keep (w := w) (w' := w.drew) (ok := ok) h (fun _ hb _ => ⟨hb, rfl⟩) (Nat.le_refl _)
theorem KsIs.len (h : KsIs w ok v l) : l.length * 56 ≤ 140737488355328 := by
  obtain ⟨_, _, _, h3, _⟩ := h
  exact h3
theorem KsIs.nil (w : World) (ok : Nat → Prop) : KsIs w ok (.slice none 0 0) [] := ⟨[], SlIs.nil w ok, rfl, Nat.zero_le _, fun i v x h => by simp at h⟩
/-- The first of the keys. -/
theorem KsIs.take {A : Option Addr} {n c : Nat} (h : KsIs w ok (.slice A n c) l) {k : Nat} (hk : k ≤ l.length) : KsIs w ok (.slice A k c) (l.take k) := by
  obtain ⟨vs, ⟨A', c', e, h1, h2, h3⟩, hvs, hl, hel⟩ := h
  injection e with e1 e2 e3
  subst e1 e3
  have hkl : (l.take k).length = k := by rw [List.length_take]; omega
  have h6 : ∀ v ∈ vs, (jcells v).length = 4 := fun v hm => by
    obtain ⟨j, hj, rfl⟩ := List.mem_iff_getElem.1 hm
    exact kcells_len (hel j _ _ (List.getElem?_eq_getElem hj) (List.getElem?_eq_getElem (by omega)))
  have hpre : vs.flatMap jcells = (vs.take k).flatMap jcells ++ (vs.drop k).flatMap jcells := by rw [← List.flatMap_append, List.take_append_drop]
  refine ⟨vs.take k, ⟨A, c, by rw [hkl], by rw [hkl]; omega, h2, fun h0 => ?_⟩, by rw [hkl, List.length_take]; omega, by rw [hkl]; omega, fun i v x e1 e2 => ?_⟩
  · rw [hkl] at h0
    obtain ⟨b, off, rfl, h4, h5, h7⟩ := h3 (by omega)
    refine ⟨b, off, rfl, h4, h5, fun j x hj => h7 j x ?_⟩
    rw [hpre, List.getElem?_append_left (List.getElem?_eq_some_iff.1 hj).1]
    exact hj
  · rw [List.getElem?_take] at e1 e2
    split at e1
    · rw [if_pos (by assumption)] at e2
      exact hel i v x e1 e2
    · cases e1
/-- The key at a place: its cells, and that it is one. -/
theorem KsIs.elem {A : Option Addr} {n c : Nat} (h : KsIs w ok (.slice A n c) l) {i : Nat} (hi : i < l.length) :
    ∃ b off x A1 c1, A = some ⟨b, off, none⟩ ∧ ok b ∧ b < w.heap.size ∧ l[i]? = some x ∧ IsK w ok (kv x.id (.slice A1 x.secret.length c1) x.made x.ends) x ∧
      w.cell? ⟨b, off + i * 4, none⟩ = some (.string x.id) ∧ w.cell? ⟨b, off + i * 4 + 1, none⟩ = some (.slice A1 x.secret.length c1) ∧ w.cell? ⟨b, off + i * 4 + 2, none⟩ = some (.int .i64 x.made) ∧ w.cell? ⟨b, off + i * 4 + 3, none⟩ = some (.int .i64 x.ends) := by
  obtain ⟨vs, ⟨A', c', e, h1, h2, h3⟩, hvs, hl, hel⟩ := h
  injection e with e1 e2 e3
  subst e1 e3
  obtain ⟨b, off, rfl, hb, hlt, hc⟩ := h3 (by omega)
  have hv : vs[i]? = some (vs[i]'(by omega)) := List.getElem?_eq_getElem (by omega)
  have hx : l[i]? = some l[i] := List.getElem?_eq_getElem hi
  have hJ := hel i _ _ hv hx
  obtain ⟨A1, c1, ev, hrest⟩ := hJ
  have hJ := hel i _ _ hv hx
  have h6 : ∀ v ∈ vs, (jcells v).length = 4 := fun v hm => by
    obtain ⟨j, hj, rfl⟩ := List.mem_iff_getElem.1 hm
    exact kcells_len (hel j _ _ (List.getElem?_eq_getElem hj) (List.getElem?_eq_getElem (by omega)))
  have hcell : ∀ j u, j < 4 → (jcells (vs[i]'(by omega)))[j]? = some u → w.cell? ⟨b, off + (i * 4 + j), none⟩ = some u := fun j u hj hu => hc _ u (by rw [flat4_at vs h6 i j _ hv hj, hu])
  rw [ev] at hJ hcell
  refine ⟨b, off, l[i], A1, c1, rfl, hb, hlt, hx, hJ, hcell 0 _ (by omega) rfl, ?_, ?_, ?_⟩
  all_goals rw [Nat.add_assoc]
  · exact hcell 1 _ (by omega) rfl
  · exact hcell 2 _ (by omega) rfl
  · exact hcell 3 _ (by omega) rfl
theorem KsIs.get {A : Option Addr} {n c : Nat} (h : KsIs w ok (.slice A n c) l) : n = l.length := by
  obtain ⟨_, e⟩ := h.form
  obtain ⟨c', e⟩ := e
  injection e
end
set_option maxRecDepth 100000 in
theorem infoKey : (Tryz.prog.info? 37).map (fun i => (i.zero, i.size, i.bytes)) = some (some (kv ByteArray.empty nilS 0 0), 4, 56) := by kernel_rfl
theorem kv_ones (id : ByteArray) (A : Option Addr) (n c : Nat) (a b : Int) : ∀ u ∈ jcells (kv id (.slice A n c) a b), u.oneCell' = true := by
  intro u hu
  simp [jcells] at hu
  rcases hu with rfl | rfl | rfl | rfl <;> rfl

/-! A struct of four cells in a block of the call's own. -/
section
variable {w w' : World} {g : Nat} {ty : TypeId} {a b c d x0 x1 x2 x3 : Value}
abbrev put4 (w : World) (g : Nat) (a b c d : Value) : World := (((w.setCell ⟨g, 0, none⟩ a).setCell ⟨g, 1, none⟩ b).setCell ⟨g, 2, none⟩ c).setCell ⟨g, 3, none⟩ d
theorem Lies.put4 (h : Lies w g ty [x0, x1, x2, x3]) : Lies (put4 w g a b c d) g ty [a, b, c, d] := by
  have := (((h.put 0 a).put 1 b).put 2 c).put 3 d
  simpa using this
theorem Lies.four (h : Lies w g ty [a, b, c, d]) : (w.cell? ⟨g, 0, none⟩ = some a ∧ w.cell? ⟨g, 1, none⟩ = some b ∧ w.cell? ⟨g, 2, none⟩ = some c ∧ w.cell? ⟨g, 3, none⟩ = some d) ∧
    (w.frozen? ⟨g, 0, none⟩ = false ∧ w.frozen? ⟨g, 1, none⟩ = false ∧ w.frozen? ⟨g, 2, none⟩ = false ∧ w.frozen? ⟨g, 3, none⟩ = false) :=
  ⟨⟨h.cell 0, h.cell 1, h.cell 2, h.cell 3⟩, h.free 0, h.free 1, h.free 2, h.free 3⟩
theorem put4_far {k : Nat} (hk : k ≠ g) : (Go.Proofs.YthklgpflaghojaaGreatDoor.put4 w g a b c d).heap[k]? = w.heap[k]? := by
  rw [Below.heap_setCell _ _ _ _ hk, Below.heap_setCell _ _ _ _ hk, Below.heap_setCell _ _ _ _ hk, Below.heap_setCell _ _ _ _ hk]
theorem put4_size : (Go.Proofs.YthklgpflaghojaaGreatDoor.put4 w g a b c d).heap.size = w.heap.size := by simp [World.setCell]
theorem below_put4 {w0 : World} {B : Nat} (hb : Below B w0 w) (hg : B ≤ g) : Below B w0 (Go.Proofs.YthklgpflaghojaaGreatDoor.put4 w g a b c d) := (((hb.setCell hg _).setCell hg _).setCell hg _).setCell hg _
theorem IsK.put4 {B : Nat} {v : Value} {x : Kq.K} (hJ : IsK w (B ≤ ·) v x) (hg : g < B) : IsK (Go.Proofs.YthklgpflaghojaaGreatDoor.put4 w g a b c d) (B ≤ ·) v x :=
  hJ.keep (fun k hk _ => ⟨hk, put4_far (by have : B ≤ k := hk; omega)⟩) (Nat.le_of_eq put4_size.symm)
end

/-! A row of keys of the call's own. -/
/-- A row of the call's own, laid from base B on; what its keys hold lies in blocks of which P speaks, none of them the row's own. -/
def RowK (P : Nat → Prop) (B n : Nat) (l : List Kq.K) (lv : Value) (w : World) : Prop :=
  B ≤ w.heap.size ∧ l.length = n ∧ ∃ vs : List Value, vs.length = n ∧ w.ownsRow B 37 4 lv n (vs.flatMap jcells) ∧ ∀ (i : Nat) v x, vs[i]? = some v → l[i]? = some x → IsK w (fun b => P b ∧ lv.ownBlock ≠ some b) v x
section
variable {P : Nat → Prop} {B n C : Nat} {l : List Kq.K} {lv : Value} {w w' : World}
theorem RowK.nil (h : B ≤ w.heap.size) : RowK P B 0 [] (.slice none 0 0) w := ⟨h, rfl, [], rfl, World.ownsRow_nil _ _ _ _, fun i v x e => by simp at e⟩
theorem RowK.on (h : RowK P B n l lv w) (hb : Below w.heap.size w w') : RowK P B n l lv w' := by
  obtain ⟨h1, h2, vs, h3, h4, h5⟩ := h
  exact ⟨Nat.le_trans h1 hb.size, h2, vs, h3, own_below h4 hb, fun i v x e1 e2 => (h5 i v x e1 e2).on hb⟩
theorem RowK.drew (h : RowK P B n l lv w) : RowK P B n l lv w.drew := h.on ⟨rfl, rfl, rfl, Nat.le_refl _, fun _ _ => rfl⟩
theorem RowK.list {Q : Nat → Prop} (h : RowK P B n l lv w) (hP : ∀ b, P b → Q b) (hB : ∀ b, B ≤ b → Q b) (hl : n * 56 ≤ 140737488355328) : KsIs w Q lv l := by
  obtain ⟨h1, rfl, vs, h3, h4, h5⟩ := h
  exact ⟨vs, (own_slIs h4).keep (fun b hb _ => ⟨hB b hb, rfl⟩) (Nat.le_refl _), h3, hl, fun i v x e1 e2 => (h5 i v x e1 e2).keep (fun b hb _ => ⟨hP b hb.1, rfl⟩) (Nat.le_refl _)⟩
theorem RowK.len (h : RowK P B n l lv w) : l.length = n := h.2.1
theorem RowK.form (h : RowK P B n l lv w) : ∃ A c, lv = .slice A n c := by
  obtain ⟨_, _, _, _, h4, _⟩ := h
  exact own_slice h4
theorem RowK.ge (h : RowK P B n l lv w) : B ≤ w.heap.size := h.1
/-- One key more: vs are those ahead of it. -/
theorem rowK_more {lv' v : Value} {x : Kq.K} {w1 w2 : World} {vs : List Value} (hB : B ≤ w1.heap.size) (hl : l.length = n) (hvs : vs.length = n)
    (hel : ∀ (i : Nat) v x, vs[i]? = some v → l[i]? = some x → IsK w1 (fun b => P b ∧ lv.ownBlock ≠ some b) v x)
    (hJ : IsK w1 (fun b => P b ∧ lv.ownBlock ≠ some b) v x)
    (ho2 : w2.ownsRow B 37 4 lv' (n + 1) (vs.flatMap jcells ++ jcells v)) (hgr : w1.grownBy w2 lv.ownBlock) (hat : lv'.ownBlock = lv.ownBlock ∨ lv'.ownBlock = some w1.heap.size) :
    RowK P B (n + 1) (l ++ [x]) lv' w2 := by
  refine ⟨Nat.le_trans hB hgr.size, by simp [hl], vs ++ [v], by simp [hvs], by rw [List.flatMap_append]; simpa using ho2, ?_⟩
  have hnew : ∀ b, b < w1.heap.size → lv.ownBlock ≠ some b → lv'.ownBlock ≠ some b := fun b h1 h2 e => by
    rcases hat with hat | hat
    · exact h2 (hat.symm.trans e)
    · rw [hat] at e
      injection e with e
      omega
  have go : ∀ u y, IsK w1 (fun b => P b ∧ lv.ownBlock ≠ some b) u y → IsK w2 (fun b => P b ∧ lv'.ownBlock ≠ some b) u y := fun u y h =>
    h.keep (fun b hb hlt => ⟨⟨hb.1, hnew b hlt hb.2⟩, hgr.block b hlt (fun e => hb.2 e.symm)⟩) hgr.size
  intro i u y hu hy
  by_cases hi : i < n
  · rw [List.getElem?_append_left (by omega)] at hu hy
    exact go u y (hel i u y hu hy)
  · rw [List.getElem?_append_right (by omega)] at hu hy
    have hi0 : i - n = 0 := by
      have := (List.getElem?_eq_some_iff.1 hy).1
      simp at this; omega
    rw [hl, hi0] at hy
    rw [hvs, hi0] at hu
    simp at hu hy
    subst hu hy
    exact go _ _ hJ
/-- The blocks of the row's own lie from its base on, below where the world ends. -/
theorem RowK.lt (h : RowK P B n l lv w) : ∀ k, lv.ownBlock = some k → B ≤ k ∧ k < w.heap.size := by
  obtain ⟨_, _, vs, _, h4, _⟩ := h
  exact fun k e => h4.lt k e
end
end Go.Proofs.YthklgpflaghojaaGreatDoor

/-
  The contracts of the small functions over keys: which is good, which goes, which is copied, which are the same; names of keys.
-/
namespace Go.Proofs.YthklgpflaghojaaGreatDoor
open Go.RowKit

theorem below_new (w : World) (o : Obj) : Below w.heap.size w (w.alloc o) := (Below.refl _ _).alloc (Nat.le_refl _) o

/-- A copy of bytes, in memory of its own. -/
def CopyB (q : List Nat) (w : World) (e : Ending) (w' : World) : Prop := ∃ A c, e = .returned (.slice A q.length c) ∧ SlIs w' (w.heap.size ≤ ·) (.slice A q.length c) q.length (u8s q) ∧ Below w.heap.size w w'
set_option maxHeartbeats 2000000 in
set_option maxRecDepth 100000 in
theorem cloneB_any (A : Option Addr) (c : Nat) (q : List Nat) (w : World) (h : ArgIs w A c q) (hn : q.length ≤ 140737488355328) :
    Calls Tryz.prog 46 #[.slice A q.length c] w (CopyB q w) := by
  have q22 : ∀ (w : World) (a : Option Addr) (n c n' c' : Nat), (binOp .eql 27 (.slice a n c) (.slice none n' c')).run Tryz.prog w = .ok (.bool a.isNone) w := fun w a n c n' c' => Lib.run_eql_slice_nil w _ _ a n c n' c' Tryz.underlying27
  cases A with
  | none =>
    have hq : q = [] := by
      rcases Nat.eq_zero_or_pos q.length with h0 | h0
      · exact List.eq_nil_of_length_eq_zero h0
      · obtain ⟨b, off, e, _⟩ := h.2.2.2 h0
        cases e
    subst hq
    have HE : Hid (CopyB [] w (.returned (.slice none 0 0)) w) := ⟨none, 0, rfl, SlIs.nil w _, Below.refl _ _⟩
    clear h hn
    go_enter Tryz.func46, Tryz.ntmps46
    go_wp2
    go_ret
    exact HE.out
  | some a =>
    obtain ⟨W1, eW1⟩ : ∃ W1, W1 = w.alloc (.cells #[] 5) := ⟨_, rfl⟩
    have hb1 : Below w.heap.size w W1 := by rw [eW1]; exact below_new _ _
    have hown : W1.ownsRow w.heap.size 5 1 (.slice (some ⟨w.heap.size, 0, none⟩) 0 0) 0 [] := by rw [eW1]; exact World.ownsRow_made w #[] 0 (Nat.le_refl _) (Nat.zero_le _) rfl
    have hq1 := h.below hb1 (Nat.le_refl _)
    have HQ := Lib.hid h.2.2.1
    have HO := Lib.hid hown
    have HA := Lib.hid hq1
    have HB := Lib.hid hb1
    have HW := Lib.hid eW1
    clear h hown hq1 hb1 eW1
    go_enter Tryz.func46, Tryz.ntmps46
    repeat ((fail_if_success (with_reducible show wpList _ _ _ (⟨some 7, _, _, _, _, _⟩ :: _) _ _)); first | go_values | go_skip | go_guarded | go_step | go_upon | go_back | go_simp)
    rw [← HW.out]
    with_reducible refine append_arg rfl (.tmp 5) (.tmp 6) rfl w.heap.size (.slice (some ⟨w.heap.size, 0, none⟩) 0 0) 0 [] (some a) c q HO.out HA.out ?s1 ?s2 ?s3 ?s4 ?_
    case s1 => rfl
    case s2 => rfl
    case s3 => omega
    case s4 => exact HB.out.size
    intro v' w2 hown2 hgr
    rw [Nat.zero_add, List.nil_append] at hown2
    obtain ⟨A2, c2, rfl⟩ := own_slice hown2
    have HE : Hid (CopyB q w (.returned (.slice A2 q.length c2)) w2) := ⟨A2, c2, rfl, own_slIs hown2, HB.out.grown hgr HB.out.size (fun k e => by
      simp [Value.ownBlock] at e
      omega)⟩
    clear hown2 hgr
    go_frame
    go_wp2
    go_ret
    exact HE.out

set_option maxHeartbeats 1000000 in
set_option maxRecDepth 100000 in
theorem isGood_any {ok : Nat → Prop} (x : Kq.K) (v : Value) (now : Int) (w : World) (h : IsK w ok v x) :
    Calls Tryz.prog 35 #[v, .int .i64 now] w (Tells (Kq.Good now x) w) := by
  obtain ⟨A, c, rfl, _⟩ := h
  obtain ⟨id, sec, made, ends⟩ := x
  have HB := Lib.hid (below_new w)
  simp only
  by_cases h1 : made ≤ now
  · by_cases h2 : now < ends
    · have HE : Hid (∀ o, Tells (Kq.Good now ⟨id, sec, made, ends⟩) w (.returned (.bool true)) (w.alloc o)) := fun o => Tells.yes ⟨h1, h2⟩ (below_new w o)
      have d1 : decide (made ≤ now) = true := decide_eq_true h1
      have d2 : decide (now < ends) = true := decide_eq_true h2
      go_enter Tryz.func35, Tryz.ntmps35
      go_wp2
      go_ret
      exact HE.out _
    · have HE : Hid (∀ o, Tells (Kq.Good now ⟨id, sec, made, ends⟩) w (.returned (.bool false)) (w.alloc o)) := fun o => Tells.no (fun h => h2 h.2) (below_new w o)
      have d1 : decide (made ≤ now) = true := decide_eq_true h1
      have d2 : decide (now < ends) = false := decide_eq_false h2
      go_enter Tryz.func35, Tryz.ntmps35
      go_wp2
      go_ret
      exact HE.out _
  · have HE : Hid (∀ o, Tells (Kq.Good now ⟨id, sec, made, ends⟩) w (.returned (.bool false)) (w.alloc o)) := fun o => Tells.no (fun h => h1 h.1) (below_new w o)
    have d1 : decide (made ≤ now) = false := decide_eq_false h1
    go_enter Tryz.func35, Tryz.ntmps35
    go_wp2
    go_ret
    exact HE.out _

set_option maxHeartbeats 1000000 in
set_option maxRecDepth 100000 in
/-- The closure over the time: whether a key goes. -/
theorem drop1_any {ok : Nat → Prop} (x : Kq.K) (v : Value) (now : Int) (N : Nat) (w : World) (h : IsK w ok v x) (hN : w.cell? ⟨N, 0, none⟩ = some (.int .i64 now)) :
    Calls Tryz.prog 45 #[v, .pointer (some ⟨N, 0, none⟩)] w (Tells (Kq.Gone now x) w) := by
  obtain ⟨A, c, rfl, _⟩ := h
  obtain ⟨id, sec, made, ends⟩ := x
  simp only
  obtain ⟨W1, eW1⟩ : ∃ W1, W1 = w.alloc (.cells #[.string id, .slice A sec.length c, .int .i64 made, .int .i64 ends] 37) := ⟨_, rfl⟩
  have hb1 : Below w.heap.size w W1 := by rw [eW1]; exact below_new _ _
  have hc1 : W1.cell? ⟨N, 0, none⟩ = some (.int .i64 now) := (hb1.cell (World.block_lt_of_cell? _ _ hN)).trans hN
  have hs : W1.heap.size = w.heap.size + 1 := by rw [eW1]; simp
  rw [eW1] at hc1
  have HB := Lib.hid hb1
  have HW := Lib.hid eW1
  clear hb1 eW1 hN hs
  by_cases h2 : ends ≤ now
  · have HE : Hid (Tells (Kq.Gone now ⟨id, sec, made, ends⟩) w (.returned (.bool true)) W1) := Tells.yes h2 HB.out
    rw [HW.out] at HE
    have d1 : decide (ends ≤ now) = true := decide_eq_true h2
    go_enter Tryz.func45, Tryz.ntmps45
    go_wp2
    go_ret
    exact HE.out
  · have HE : Hid (Tells (Kq.Gone now ⟨id, sec, made, ends⟩) w (.returned (.bool false)) W1) := Tells.no h2 HB.out
    rw [HW.out] at HE
    have d1 : decide (ends ≤ now) = false := decide_eq_false h2
    go_enter Tryz.func45, Tryz.ntmps45
    go_wp2
    go_ret
    exact HE.out

/-- A key's copy, in memory of its own. -/
def CopyEnd (x : Kq.K) (w : World) (e : Ending) (w' : World) : Prop := ∃ A c, e = .returned (kv x.id (.slice A x.secret.length c) x.made x.ends) ∧ IsK w' (w.heap.size ≤ ·) (kv x.id (.slice A x.secret.length c) x.made x.ends) x ∧ Below w.heap.size w w'
set_option maxHeartbeats 2000000 in
set_option maxRecDepth 100000 in
theorem copied_any {ok : Nat → Prop} (x : Kq.K) (v : Value) (w : World) (h : IsK w ok v x) :
    Calls Tryz.prog 23 #[v] w (CopyEnd x w) := by
  obtain ⟨A, c, rfl, hS, hlt, i1, i2⟩ := h
  have hA := slIs_argIs hS hlt.2
  have hl := hlt.1
  obtain ⟨id, sec, made, ends⟩ := x
  simp only at *
  obtain ⟨W1, eW1⟩ : ∃ W1, W1 = (w.alloc (.cells #[.string id, .slice A sec.length c, .int .i64 made, .int .i64 ends] 37)).alloc (.cells #[.string { data := #[] }, .slice none 0 0, .int .i64 0, .int .i64 0] 37) := ⟨_, rfl⟩
  have hb1 : Below w.heap.size w W1 := by rw [eW1]; exact (below_new _ _).alloc (by simp) _
  have hl1 : Lies W1 w.heap.size 37 [.string id, .slice A sec.length c, .int .i64 made, .int .i64 ends] := by rw [eW1]; exact (Lies.new_ rfl).alloc _
  have hl2 : Lies W1 (w.heap.size + 1) 37 [.string { data := #[] }, .slice none 0 0, .int .i64 0, .int .i64 0] := by rw [eW1]; exact Lies.new_ (by simp)
  have hs : w.heap.size + 2 ≤ W1.heap.size := by rw [eW1]; simp
  have hC := cloneB_any A c sec W1 (hA.below hb1 (Nat.le_refl _)) hl
  rw [eW1] at hC
  have HB := Lib.hid hb1
  have HW := Lib.hid eW1
  have HL1 := Lib.hid hl1
  have HL2 := Lib.hid hl2
  have HS := Lib.hid hs
  have HP := Lib.hid (And.intro hlt (And.intro i1 i2))
  clear hb1 eW1 hA hS hl hl1 hl2 hs hlt i1 i2
  go_enter Tryz.func23, Tryz.ntmps23
  go_wp2_with fail
  refine hC.mono ?_
  rintro e w2 hh
  rw [← HW.out] at hh
  obtain ⟨A2, c2, rfl, hS2, hb2⟩ := hh
  clear hC
  have hl1 := HL1.out.below hb2 HL1.out.lt
  have hl2 := HL2.out.below hb2 HL2.out.lt
  have hl1' : Lies (w2.setCell ⟨w.heap.size, 1, none⟩ (.slice A2 sec.length c2)) w.heap.size 37 [.string id, .slice A2 sec.length c2, .int .i64 made, .int .i64 ends] := by have := hl1.put 1 (.slice A2 sec.length c2); simpa using this
  have hl2' : Lies (w2.setCell ⟨w.heap.size, 1, none⟩ (.slice A2 sec.length c2)) (w.heap.size + 1) 37 [.string { data := #[] }, .slice none 0 0, .int .i64 0, .int .i64 0] := (Below.heap_setCell _ _ _ _ (by show w.heap.size + 1 ≠ w.heap.size; omega)).trans hl2
  obtain ⟨W3, eW3⟩ : ∃ W3, W3 = put4 (w2.setCell ⟨w.heap.size, 1, none⟩ (.slice A2 sec.length c2)) (w.heap.size + 1) (.string id) (.slice A2 sec.length c2) (.int .i64 made) (.int .i64 ends) := ⟨_, rfl⟩
  have hl3 : Lies W3 (w.heap.size + 1) 37 [.string id, .slice A2 sec.length c2, .int .i64 made, .int .i64 ends] := by rw [eW3]; exact hl2'.put4
  have hb3 : Below w.heap.size w W3 := by rw [eW3]; exact below_put4 ((HB.out.trans (hb2.mono HB.out.size)).setCell (p := ⟨w.heap.size, 1, none⟩) (Nat.le_refl _) _) (Nat.le_succ _)
  have hS3 : SlIs W3 (w.heap.size ≤ ·) (.slice A2 sec.length c2) sec.length (u8s sec) := hS2.keep (fun b hb _ => ⟨Nat.le_trans HB.out.size hb, by
    have hb' : W1.heap.size ≤ b := hb
    have := HS.out
    rw [eW3, put4_far (by omega), Below.heap_setCell _ _ _ _ (by show b ≠ w.heap.size; omega)]⟩) (by rw [eW3, put4_size]; simp [World.setCell])
  have HE : Hid (CopyEnd ⟨id, sec, made, ends⟩ w (.returned (kv id (.slice A2 sec.length c2) made ends)) W3) := ⟨A2, c2, rfl, ⟨A2, c2, rfl, hS3, HP.out⟩, hb3⟩
  rw [eW3] at HE hl3
  obtain ⟨⟨y0, y1, y2, y3⟩, g0, g1, g2, g3⟩ := hl1.four
  obtain ⟨⟨x0, x1, x2, x3⟩, f0, f1, f2, f3⟩ := hl1'.four
  obtain ⟨⟨z0, z1, z2, z3⟩, k0, k1, k2, k3⟩ := hl2'.four
  obtain ⟨⟨t0, t1, t2, t3⟩, _⟩ := hl3.four
  clear hl1 hl2 hl1' hl2' hl3 hb3 hS3 eW3 hS2 hb2
  go_wp2
  exact bodyPost_ret (v := kv id (.slice A2 sec.length c2) made ends) (by simp [results, Tryz.results23, go_sem, t0, t1, t2, t3]) rfl HE.out
set_option maxHeartbeats 1000000 in
set_option maxRecDepth 100000 in
theorem isId_any (s : ByteArray) (w : World) :
    Calls Tryz.prog 43 #[.string s] w (KidEnd (numsOf s) w) := by
  have Hlen := Lib.hid (numsOf_length s)
  by_cases h0 : s.size = 0
  · obtain rfl : s = ByteArray.empty := by
      apply ByteArray.ext
      exact Array.eq_empty_of_size_eq_zero h0
    have HE : Hid (¬ Wq.KidOk (numsOf ByteArray.empty)) := fun h => absurd h.1 (by decide)
    clear h0
    go_enter Tryz.func43, Tryz.ntmps43
    go_wp2
    go_ret
    exact ⟨rfl, .inr ⟨HE.out, rfl⟩⟩
  have hne : s.toList ≠ [] := fun h => h0 (by
    have := congrArg List.length h
    rw [ByteArray.toList_eq] at this
    simpa using this)
  have hne2 : s.toList.isEmpty = false := by cases h : s.toList with | nil => exact absurd h hne | cons => rfl
  by_cases h64 : 64 < s.size
  · have hd : decide ((64 : Int) < (s.size : Int)) = true := decide_eq_true (by omega)
    have HE : Hid (¬ Wq.KidOk (numsOf s)) := fun h => absurd h.2.1 (by rw [Hlen.out]; omega)
    clear h0
    go_enter Tryz.func43, Tryz.ntmps43
    go_wp2
    go_ret
    exact ⟨rfl, .inr ⟨HE.out, rfl⟩⟩
  have hd : decide ((64 : Int) < (s.size : Int)) = false := decide_eq_false (by omega)
  go_enter Tryz.func43, Tryz.ntmps43
  go_wp2_with fail
  go_loop [13] (fun i => ∃ k : Nat, i = .int .i64 k ∧ k ≤ s.size ∧ Hid (∀ j, j < k → 33 ≤ (numsOf s).getD j 0 ∧ (numsOf s).getD j 0 ≤ 126)) (fun i => s.size - (intOf i).toNat)
  case atStart => exact ⟨0, rfl, Nat.zero_le _, fun j hj => by omega⟩
  case round =>
    obtain ⟨k, rfl, hk, Hno⟩ := hrel
    by_cases hlt : k < s.size
    · have hX := Lib.hid (nums_at s k hlt)
      have HN : Hid (¬ (33 ≤ s[k].toNat ∧ s[k].toNat ≤ 126) → ¬ Wq.KidOk (numsOf s)) := fun hn h => by
        have := h.2.2 _ (getD_mem'' (S := numsOf s) (k := k) (by rw [Hlen.out]; exact hlt))
        rw [hX.out] at this
        exact hn this
      by_cases h1 : s[k].toNat < 33
      · have HE := Lib.hid (HN.out (by omega))
        go_wp2
        go_ret
        exact ⟨rfl, .inr ⟨HE.out, rfl⟩⟩
      · by_cases h2 : 126 < s[k].toNat
        · have HE := Lib.hid (HN.out (by omega))
          go_wp2
          go_ret
          exact ⟨rfl, .inr ⟨HE.out, rfl⟩⟩
        · have HC : Hid (∀ j, j < k + 1 → 33 ≤ (numsOf s).getD j 0 ∧ (numsOf s).getD j 0 ≤ 126) := fun j hj => by
            rcases Nat.lt_or_eq_of_le (Nat.le_of_lt_succ hj) with h | h
            · exact Hno.out j h
            · rw [h, hX.out]; omega
          go_wp2
          go_round
          case rel => exact ⟨k + 1, by go_num, by omega, HC⟩
          case measure => simp [intOf]; omega
    · obtain rfl : k = s.size := by omega
      have hdl : decide ((s.size : Int) < (s.size : Int)) = false := by simp
      have HC : Hid (Wq.KidOk (numsOf s)) := ⟨by rw [Hlen.out]; omega, by rw [Hlen.out]; omega, mem_getD (P := fun c => 33 ≤ c ∧ c ≤ 126) fun j hj => Hno.out j (by rwa [Hlen.out] at hj)⟩
      go_wp2
      go_ret
      exact ⟨rfl, .inl ⟨HC.out, rfl⟩⟩

end Go.Proofs.YthklgpflaghojaaGreatDoor

/-
  The contracts of the document's SameKey and Has, and of fits.
-/
namespace Go.Proofs.YthklgpflaghojaaGreatDoor
open Go.RowKit
set_option maxHeartbeats 2000000 in
set_option maxRecDepth 100000 in
theorem fits_any {ok ok' : Nat → Prop} (l : List Kq.K) (A : Option Addr) (c n : Nat) (x : Kq.K) (v : Value) (w : World) (hL : KsIs w ok (.slice A n c) l) (hn : l.length = n) (h : IsK w ok' v x) :
    Calls Tryz.prog 21 #[.slice A n c, v] w (Tells (Kq.Fits l x) w) := by
  obtain ⟨B, d, rfl, _⟩ := h
  obtain ⟨id, sec, made, ends⟩ := x
  simp only at *
  obtain ⟨W1, eW1⟩ : ∃ W1, W1 = w.alloc (.cells #[.string id, .slice B sec.length d, .int .i64 made, .int .i64 ends] 37) := ⟨_, rfl⟩
  have hb1 : Below w.heap.size w W1 := by rw [eW1]; exact below_new _ _
  have hl1 : Lies W1 w.heap.size 37 [.string id, .slice B sec.length d, .int .i64 made, .int .i64 ends] := by rw [eW1]; exact Lies.new_ rfl
  have hns : n * 56 ≤ 140737488355328 := by rw [← hn]; exact hL.len
  have HL := Lib.hid (hL.on hb1)
  have HN := Lib.hid hn
  have HB := Lib.hid hb1
  have HL1 := Lib.hid hl1
  have HW := Lib.hid eW1
  clear hL hn hb1 hl1 eW1
  go_enter Tryz.func21, Tryz.ntmps21
  go_wp2_with fail
  rw [← HW.out]
  go_loopw [10] (fun i wr => ∃ k : Nat, i = .int .i64 k ∧ k ≤ n ∧ Hid (¬ Kq.Has (l.take k) id) ∧ Below W1.heap.size W1 wr) (fun i _ => n - (intOf i).toNat)
  case atStart => exact ⟨0, rfl, Nat.zero_le _, Kq.has_none l id, Below.refl _ _⟩
  case round =>
    obtain ⟨k, rfl, hk, he, hb⟩ := hrel
    by_cases hlt : k < n
    · obtain ⟨b, off, x, A1, c1, rfl, _, _, hx, _, s0, s1, s2, s3⟩ := (HL.out.on hb).elem (by rw [HN.out]; exact hlt)
      have hid := Kq.id_beq x.id id
      obtain ⟨W2, eW2⟩ : ∃ W2, W2 = wr.alloc (.cells #[.string x.id, .slice A1 x.secret.length c1, .int .i64 x.made, .int .i64 x.ends] 37) := ⟨_, rfl⟩
      have hb2 : Below wr.heap.size wr W2 := by rw [eW2]; exact below_new _ _
      obtain ⟨⟨y0, y1, y2, y3⟩, _⟩ := ((HL1.out.below hb HL1.out.lt).below hb2 (HL1.out.below hb HL1.out.lt).lt).four
      rw [eW2] at y0 y1 y2 y3
      have hb3 := below_more hb hb2
      by_cases h1 : x.id = id
      · rw [decide_eq_true h1] at hid
        have HE : Hid (Tells (Kq.Fits l ⟨id, sec, made, ends⟩) w (.returned (.bool false)) W2) := Tells.no (fun hf => hf.1 ⟨x, List.mem_of_getElem? hx, h1⟩) (below_more HB.out hb3)
        rw [eW2] at HE
        clear h1 hx hb hb2 hb3 eW2
        go_wp2
        go_ret
        exact HE.out
      · rw [decide_eq_false h1] at hid
        have HE : Hid (¬ Kq.Has (l.take (k + 1)) id) := Kq.has_step he.out hx h1
        have HB3 := Lib.hid hb3
        rw [eW2] at HB3
        clear h1 hx hb hb2 hb3 eW2
        go_wp2
        go_roundw
        case rel => exact ⟨k + 1, by go_num, hlt, HE, HB3.out⟩
        case measure => simp [intOf]; omega
    · obtain rfl : k = n := by omega
      have hd2 : decide ((k : Int) < (k : Int)) = false := by simp
      have HE : Hid (¬ Kq.Has l id) := Kq.has_all (by rw [HN.out]; exact he.out)
      obtain ⟨⟨y0, y1, y2, y3⟩, _⟩ := (HL1.out.below hb HL1.out.lt).four
      rcases Nat.eq_zero_or_pos k with h0 | h0
      · subst h0
        have HOLD : Hid (∀ y, l.getLast? = some y → y.made ≤ made) := fun y hy => by
          have : l = [] := List.eq_nil_of_length_eq_zero HN.out
          rw [this] at hy
          cases hy
        go_upto_region 7 with (fail)
        go_quiet (fail)
        go_upto_region 8 with (fail)
        generalize hw7 : World.drewN wr _ = w7
        have hb7 : Below wr.heap.size wr w7 := by rw [← hw7]; exact drewN_below _ _
        have hb8 := below_more HB.out (below_more hb hb7)
        obtain ⟨⟨z0, z1, z2, z3⟩, _⟩ := ((HL1.out.below hb HL1.out.lt).below hb7 (HL1.out.below hb HL1.out.lt).lt).four
        have hI := isId_any id w7
        clear hw7 hb hb7 y0 y1 y2 y3
        go_wp2_with fail
        refine hI.mono ?_
        rintro e w8 ⟨rfl, ⟨hi, rfl⟩ | ⟨hi, rfl⟩⟩
        · clear hI
          by_cases hm : 0 ≤ made
          · have dm : decide (0 ≤ made) = true := decide_eq_true hm
            have HR : Hid (Tells (Kq.Fits l ⟨id, sec, made, ends⟩) w (.returned (.bool true)) w7) := Tells.yes ⟨HE.out, hi, hm, HOLD.out⟩ hb8
            clear hi hb8
            go_wp2
            go_ret
            exact HR.out
          · have dm : decide (0 ≤ made) = false := decide_eq_false hm
            have HR : Hid (Tells (Kq.Fits l ⟨id, sec, made, ends⟩) w (.returned (.bool false)) w7) := Tells.no (fun hf => hm hf.2.2.1) hb8
            clear hi hb8
            go_wp2
            go_ret
            exact HR.out
        · clear hI
          have HR : Hid (Tells (Kq.Fits l ⟨id, sec, made, ends⟩) w (.returned (.bool false)) w7) := Tells.no (fun hf => hi hf.2.1) hb8
          clear hi hb8
          go_wp2
          go_ret
          exact HR.out
      · obtain ⟨m, em⟩ : ∃ m, k = m + 1 := ⟨k - 1, by omega⟩
        have hm1 : (k : Int) - 1 = (m : Int) := by omega
        have hml : m < k := by omega
        obtain ⟨b, off, x, A1, c1, rfl, _, _, hx, _, s0, s1, s2, s3⟩ := (HL.out.on hb).elem (i := m) (by rw [HN.out]; exact hml)
        have hlast := Kq.last_at (by rw [HN.out]; exact em) hx
        have HEM := Lib.hid em
        clear hx em
        have h0k : decide (0 < (k : Int)) = true := decide_eq_true (by omega)
        by_cases hold : made < x.made
        · have HOLD : Hid (¬ Kq.Fits l ⟨id, sec, made, ends⟩) := fun hf => by
            have : x.made ≤ made := hf.2.2.2 x hlast
            omega
          have dold : decide (made < x.made) = true := decide_eq_true hold
          clear hlast
          go_upto_region 7 with (fail)
          go_quiet (fail)
          go_upto_region 8 with (fail)
          generalize hw7 : World.drewN wr _ = w7
          have hb7 : Below wr.heap.size wr w7 := by rw [← hw7]; exact drewN_below _ _
          have hb8 := below_more HB.out (below_more hb hb7)
          obtain ⟨⟨z0, z1, z2, z3⟩, _⟩ := ((HL1.out.below hb HL1.out.lt).below hb7 (HL1.out.below hb HL1.out.lt).lt).four
          have hI := isId_any id w7
          clear hw7 hb hb7 y0 y1 y2 y3
          go_wp2_with fail
          refine hI.mono ?_
          rintro e w8 ⟨rfl, ⟨hi, rfl⟩ | ⟨hi, rfl⟩⟩
          · clear hI
            by_cases hm : 0 ≤ made
            · have dm : decide (0 ≤ made) = true := decide_eq_true hm
              have HR : Hid (Tells (Kq.Fits l ⟨id, sec, made, ends⟩) w (.returned (.bool false)) w7) := Tells.no HOLD.out hb8
              clear hi hb8
              go_wp2
              go_ret
              exact HR.out
            · have dm : decide (0 ≤ made) = false := decide_eq_false hm
              have HR : Hid (Tells (Kq.Fits l ⟨id, sec, made, ends⟩) w (.returned (.bool false)) w7) := Tells.no (fun hf => hm hf.2.2.1) hb8
              clear hi hb8
              go_wp2
              go_ret
              exact HR.out
          · clear hI
            have HR : Hid (Tells (Kq.Fits l ⟨id, sec, made, ends⟩) w (.returned (.bool false)) w7) := Tells.no (fun hf => hi hf.2.1) hb8
            clear hi hb8
            go_wp2
            go_ret
            exact HR.out
        · have HOLD : Hid (∀ y, l.getLast? = some y → y.made ≤ made) := fun y hy => by
            rw [hlast] at hy
            injection hy with hy
            subst hy
            omega
          have dold : decide (made < x.made) = false := decide_eq_false hold
          clear hlast
          go_upto_region 7 with (fail)
          go_quiet (fail)
          go_upto_region 8 with (fail)
          generalize hw7 : World.drewN wr _ = w7
          have hb7 : Below wr.heap.size wr w7 := by rw [← hw7]; exact drewN_below _ _
          have hb8 := below_more HB.out (below_more hb hb7)
          obtain ⟨⟨z0, z1, z2, z3⟩, _⟩ := ((HL1.out.below hb HL1.out.lt).below hb7 (HL1.out.below hb HL1.out.lt).lt).four
          have hI := isId_any id w7
          clear hw7 hb hb7 y0 y1 y2 y3
          go_wp2_with fail
          refine hI.mono ?_
          rintro e w8 ⟨rfl, ⟨hi, rfl⟩ | ⟨hi, rfl⟩⟩
          · clear hI
            by_cases hm : 0 ≤ made
            · have dm : decide (0 ≤ made) = true := decide_eq_true hm
              have HR : Hid (Tells (Kq.Fits l ⟨id, sec, made, ends⟩) w (.returned (.bool true)) w7) := Tells.yes ⟨HE.out, hi, hm, HOLD.out⟩ hb8
              clear hi hb8
              go_wp2
              go_ret
              exact HR.out
            · have dm : decide (0 ≤ made) = false := decide_eq_false hm
              have HR : Hid (Tells (Kq.Fits l ⟨id, sec, made, ends⟩) w (.returned (.bool false)) w7) := Tells.no (fun hf => hm hf.2.2.1) hb8
              clear hi hb8
              go_wp2
              go_ret
              exact HR.out
          · clear hI
            have HR : Hid (Tells (Kq.Fits l ⟨id, sec, made, ends⟩) w (.returned (.bool false)) w7) := Tells.no (fun hf => hi hf.2.1) hb8
            clear hi hb8
            go_wp2
            go_ret
            exact HR.out
end Go.Proofs.YthklgpflaghojaaGreatDoor
