/-
  A region that draws its order, in which all operations but the last ones only read, or call what only adds memory, and the last ones come one behind the other: walked once. (The library has the two halves: Derived.Deep.Quiet, Derived.StillTail.)
-/
import Derived.Test.YtoocejcoaojaiaaDoorSlots
import Derived.StillTail
import Derived.Lib.QuietBelow
import Derived.BigQuiet
namespace Go.Proofs.YtoocejcoaojaiaaDoor
open Go.RowKit Go.Sort

section
variable {P : Program} {C : World → Prop} {Q : Exit → Act → World → Prop}
/-- None of the first n is guarded, and none waits for one behind it. -/
def leadOk (ops : Array Oper) (n : Nat) : Bool := (List.range n).all fun i => match ops[i]? with
  | none => true
  | some o => o.guard.isNone && o.after.all fun e => decide (e.on < i)
theorem leadOk_at {ops : Array Oper} {n i : Nat} {o : Oper} (h : leadOk ops n = true) (hi : i < n) (ho : ops[i]? = some o) : o.guard = none ∧ ∀ e ∈ o.after, e.on < i := by
  have h1 := List.all_eq_true.1 h i (List.mem_range.2 hi)
  rw [ho] at h1
  simp only [Bool.and_eq_true, Array.all_eq_true', decide_eq_true_eq] at h1
  exact ⟨by simpa using h1.1, h1.2⟩
theorem getD_app_lt {xs ys : Array Bool} {i : Nat} {b : Bool} (h : i < xs.size) : (xs ++ ys).getD i b = xs.getD i b := by
  rw [Array.getD_eq_getD_getElem?, Array.getD_eq_getD_getElem?, Array.getElem?_append_left h]
theorem set_app {xs ys : Array Bool} {i : Nat} {b : Bool} (h : i < xs.size) : (xs ++ ys).setIfInBounds i b = xs.setIfInBounds i b ++ ys := by
  apply Array.ext_getElem?
  intro j
  by_cases hj : j < xs.size
  · rw [Array.getElem?_append_left (by simpa using hj)]
    by_cases hij : i = j
    · subst hij
      simp [h, Nat.lt_of_lt_of_le h (Nat.le_add_right _ _)]
    · rw [Array.getElem?_setIfInBounds_ne hij, Array.getElem?_setIfInBounds_ne hij, Array.getElem?_append_left hj]
  · rw [Array.getElem?_append_right (by simpa using Nat.le_of_not_lt hj), Array.getElem?_setIfInBounds_ne (by omega), Array.getElem?_append_right (by omega)]
    simp
theorem all_true {xs : Array Bool} (h : unlisted xs = 0) : xs = Array.replicate xs.size true := by
  apply Array.ext_getElem?
  intro j
  have h1 := all_listed h j
  rw [Array.getD_eq_getD_getElem?] at h1
  by_cases hj : j < xs.size
  · rw [Array.getElem?_eq_getElem hj] at h1 ⊢
    simp only [Option.getD_some] at h1
    simp [h1, hj]
  · rw [Array.getElem?_eq_none (by omega), Array.getElem?_eq_none (by simp; omega)]

theorem wpAny_lead {l : List Oper} {n : Nat} (hn : n < l.length) (hs : Region.sinkB .any l.toArray n = true) (hc : Region.chainB .any l.toArray n = true) (hG : leadOk l.toArray n = true)
    (hS : Region.seqB .any l.toArray (l.length - n) n (Array.replicate n true ++ Array.replicate (l.length - n) false) = true) :
    ∀ (fuel : Nat) (xs : Array Bool) (a : Act) (w : World), C w → xs.size = n → unlisted xs = fuel → HeadInv .any l.toArray n (xs ++ Array.replicate (l.length - n) false) →
      wpAnyQ P .any (l.take n).toArray C (fun a' => ∀ w', C w' → wpList P l.toArray Q (l.drop n) a' w') fuel xs a →
      wpAny P .any l.toArray Q (fuel + (l.length - n)) (xs ++ Array.replicate (l.length - n) false) a w := by
  intro fuel
  induction fuel with
  | zero =>
    intro xs a w hw hx hu inv h
    have hx2 := all_true hu
    rw [hx] at hx2
    rw [hx2, Nat.zero_add]
    have hlen : (l.drop n).length = l.length - n := by simp
    have := wpAny_of_seq (P := P) (md := .any) (Q' := Q) (l.drop n) n (Array.replicate n true ++ Array.replicate (l.length - n) false) a w (fun j => by simp [List.getElem?_drop]) (by rw [hlen]; exact hS) (h.2 w hw)
    rwa [hlen] at this
  | succ fuel ih =>
    intro xs a w hw hx hu inv h
    rw [show fuel + 1 + (l.length - n) = (fuel + (l.length - n)) + 1 by omega]
    obtain ⟨m, hm1, hm2⟩ := some_unlisted (listed := xs) (by omega)
    have hmn : m < n := by
      rw [← hx]
      rcases Nat.lt_or_ge m xs.size with h' | h'
      · exact h'
      · rw [Array.getD_eq_getD_getElem?, Array.getElem?_eq_none h'] at hm1
        cases hm1
    have hml : m < l.length := by omega
    have hunl : (xs ++ Array.replicate (l.length - n) false).getD m true = false := by rw [getD_app_lt (by omega)]; exact hm1
    have hrm : m ∈ Region.ready .any l.toArray (xs ++ Array.replicate (l.length - n) false) := mem_ready.2 ⟨hunl, l[m], by simp [hml], fun e he _ => by
      have := (leadOk_at hG hmn (o := l[m]) (by simp [hml])).2 e he
      rw [getD_app_lt (by omega)]
      exact hm2 e.on this⟩
    refine ⟨fun h0 => (by rw [h0] at hrm; cases hrm), fun i hi => ?_⟩
    have hin : i < n := by
      rcases Nat.lt_or_ge i n with h' | h'
      · exact h'
      · exact absurd hi (tail_waits hs hc (by simpa using hn) inv _ m rfl hmn hunl i h')
    obtain ⟨h1, o, ho, hall⟩ := mem_ready.1 hi
    have hol : (l.take n).toArray[i]? = some o := by
      rw [List.getElem?_toArray] at ho ⊢
      rw [List.getElem?_take, if_pos hin]
      exact ho
    have hir : i ∈ Region.ready .any (l.take n).toArray xs := mem_ready.2 ⟨by rw [getD_app_lt (by omega)] at h1; exact h1, o, hol, fun e he hb => by
      have h2 := hall e he hb
      have h3 := (leadOk_at hG hin ho).2 e he
      rw [getD_app_lt (by omega)] at h2
      exact h2⟩
    have hg := (leadOk_at hG hin ho).1
    have hq := h.2 i hir
    have hq2 : qOp P l.toArray C i (wpAnyQ P .any (l.take n).toArray C (fun a' => ∀ w', C w' → wpList P l.toArray Q (l.drop n) a' w') fuel (xs.setIfInBounds i true)) a := by
      unfold qOp at hq ⊢
      rw [hol] at hq
      rw [ho]
      simp only at hq ⊢
      rw [if_pos (by simp [Region.wanted, hg])] at hq ⊢
      exact hq
    have inv2 := inv.set hi hin
    rw [set_app (by omega)] at inv2 ⊢
    have hxi : xs.getD i true = false := by rw [getD_app_lt (by omega)] at h1; exact h1
    exact wpOp_of_qOp hw (fun a' w' hw' hh => ih _ a' w' hw' (by simpa using hx) (by have := unlisted_set hxi; omega) inv2 hh) hq2

/-- The first n only read, or call what only adds memory; the others come one behind the other. -/
theorem wp_region_quiet_tail {id : Nat} {a : Act} {w : World} {l : List Oper} (n : Nat) (hm : P.follows .mixedOrders = true) (hB : Region.lexB .any (l.take n).toArray = true) (hT : Region.lexTailB .any l.toArray n = true) (hG : leadOk l.toArray n = true)
    (hS : Region.seqB .any l.toArray (l.length - n) n (Array.replicate n true ++ Array.replicate (l.length - n) false) = true)
    (h : wpQuiet P (l.take n).toArray (fun w' => ∃ p : Regrown, w' = grow (redrawn w p.d) p.os) (fun a' => ∀ w', (∃ p : Regrown, w' = grow (redrawn w p.d) p.os) → wpList P l.toArray Q (l.drop n) a' w') (l.take n) a) : (Code.region id l.toArray true).wp P Q a w := by
  simp only [Region.lexTailB, Bool.and_eq_true, decide_eq_true_eq] at hT
  obtain ⟨⟨⟨⟨_, hn⟩, hs⟩, hc⟩, _⟩ := hT
  have hn' : n < l.length := by simpa using hn
  simp only [Region.lexB, Bool.and_eq_true] at hB
  have htl : (l.take n).length = n := by simp; omega
  have H := wpAnyQ_lex (C := fun w' => ∃ p : Regrown, w' = grow (redrawn w p.d) p.os) (md := .any) hB.1 (l.take n) 0 (Array.replicate n false) a (by simp) (by have := hB.2; simpa [htl, Nat.min_eq_left (Nat.le_of_lt hn')] using this) h
  rw [htl] at H
  refine wp_region_any hm ?_
  have e1 : Array.replicate l.toArray.size false = Array.replicate n false ++ Array.replicate (l.length - n) false := by
    apply Array.ext_getElem?
    intro j
    simp only [List.size_toArray, Array.getElem?_append, Array.size_replicate, Array.getElem?_replicate]
    split <;> split <;> first | rfl | (split <;> first | rfl | omega) | omega
  have inv0 : HeadInv .any l.toArray n (Array.replicate n false ++ Array.replicate (l.length - n) false) := by
    rw [← e1]
    exact ⟨by simp, fun j oj _ hl => (by rw [getD_replicate_false] at hl; cases hl), fun t _ ht => getD_in (by simpa using ht) (getD_replicate_false _ _)⟩
  have := wpAny_lead (P := P) (Q := Q) hn' hs hc hG hS n (Array.replicate n false) a w.drew ⟨⟨w.drawn + 1, #[]⟩, by rw [grow_empty]; rfl⟩ (by simp) (by simp [unlisted, Array.toList_replicate]) inv0 H
  rw [show n + (l.length - n) = l.toArray.size by simp; omega] at this
  rw [← e1] at this
  exact this
end
end Go.Proofs.YtoocejcoaojaiaaDoor
