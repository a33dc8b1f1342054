/-
  As SlotsL; what is known of the world may here speak of the slots, too, so that what lies in one of them is told apart from what lies in another.
-/
import Derived.Test.YtnbaajdcakjlmaaDoorM06
namespace Go.Proofs.YtnbaajdcakjlmaaDoor
open Go.RowKit

section
variable {P : Program} {ops : Array Oper} {Q : Exit → Act → World → Prop}

/-- What is known of the slots once these operations have come up: it may depend on which. -/
structure SlotInvA (ops : Array Oper) (a0 : Act) (I : Array Bool → Act → World → Prop) (F : Array Bool → Nat → Value → World → Prop) (listed : Array Bool) (a : Act) (w : World) : Prop where
  world : I listed a w
  defers : a.defers = a0.defers
  size : a.tmps.size = a0.tmps.size
  other : ∀ s, (∀ i o, ops[i]? = some o → listed.getD i true = true → o.dst ≠ some s) → a.tmps[s]? = a0.tmps[s]?
  slot : ∀ i o d, ops[i]? = some o → listed.getD i true = true → o.dst = some d → ∃ v, a.tmps[d]? = some v ∧ F listed i v w
theorem wpAny_slotsA (a0 : Act) (I : Array Bool → Act → World → Prop) (F : Array Bool → Nat → Value → World → Prop)
    (hdst : ∀ (i j : Nat) (o o' : Oper) (d : Tmp), ops[i]? = some o → ops[j]? = some o' → o.dst = some d → o'.dst = some d → i = j)
    (hin : ∀ (i : Nat) (o : Oper) (d : Tmp), ops[i]? = some o → o.dst = some d → d < a0.tmps.size)
    (hafter : ∀ (i : Nat) (o : Oper), ops[i]? = some o → ∀ e ∈ o.after, Region.binds .any e = true → e.on < i)
    (hstep : ∀ (i : Nat) (o : Oper), ops[i]? = some o → ∀ (listed : Array Bool) (a : Act) (w : World), SlotInvA ops a0 I F listed a w → listed.getD i true = false →
      (∀ e ∈ o.after, Region.binds .any e = true → listed.getD e.on false = true) →
      ∀ K' : Act → World → Prop, (∀ v w', I (listed.setIfInBounds i true) (a.put o.dst v) w' → F (listed.setIfInBounds i true) i v w' → (∀ j u, SlotAt ops listed a j u → F listed j u w → F (listed.setIfInBounds i true) j u w') → K' (a.put o.dst v) w') →
        if Region.wanted o (yielded ops a.tmps) = true then Oper.wp P o a w K' Q else K' (a.put o.dst undef) w)
    (hend : ∀ (listed : Array Bool) (a : Act) (w : World), SlotInvA ops a0 I F listed a w → (∀ i, listed.getD i true = true) → Q .normal a w) :
    ∀ (fuel : Nat) (listed : Array Bool) (a : Act) (w : World), listed.size = ops.size → unlisted listed = fuel → SlotInvA ops a0 I F listed a w → wpAny P .any ops Q fuel listed a w := by
  intro fuel
  induction fuel with
  | zero =>
    intro listed a w hs hu hinv
    refine ⟨?_, hend listed a w hinv (all_listed hu)⟩
    apply List.eq_nil_iff_forall_not_mem.2
    intro i hi
    have := (mem_ready.1 hi).1
    rw [all_listed hu] at this
    cases this
  | succ fuel ih =>
    intro listed a w hs hu hinv
    refine ⟨fun h0 => ?_, fun i hi => ?_⟩
    · exfalso
      obtain ⟨i, h1, h2⟩ := some_unlisted (listed := listed) (by omega)
      have hlt : i < ops.size := by
        rw [← hs]
        rcases Nat.lt_or_ge i listed.size with h | h
        · exact h
        · rw [Array.getD_eq_getD_getElem?, Array.getElem?_eq_none h] at h1
          cases h1
      have hm : i ∈ Region.ready .any ops listed := mem_ready.2 ⟨h1, ops[i], Array.getElem?_eq_getElem hlt, fun e he hb => h2 e.on (hafter i _ (Array.getElem?_eq_getElem hlt) e he hb)⟩
      rw [h0] at hm
      cases hm
    · obtain ⟨h1, o, ho, hall⟩ := mem_ready.1 hi
      refine wpOp_step ho fun K' hK' => hstep i o ho listed a w hinv h1 hall K' fun v w' hI hF hst => hK' _ _ ?_
      have hi_lt : i < listed.size := by
        rcases Nat.lt_or_ge i listed.size with h | h
        · exact h
        · rw [Array.getD_eq_getD_getElem?, Array.getElem?_eq_none h] at h1
          cases h1
      have hnew : ∀ j, (listed.setIfInBounds i true).getD j true = true → j = i ∨ listed.getD j true = true := fun j hj => by
        by_cases hji : j = i
        · exact .inl hji
        · refine .inr ?_
          rw [Array.getD_eq_getD_getElem?, Array.getElem?_setIfInBounds_ne (fun e => hji e.symm)] at hj
          rw [Array.getD_eq_getD_getElem?]
          exact hj
      have hold : ∀ j, listed.getD j true = true → (listed.setIfInBounds i true).getD j true = true := fun j hj => by
        by_cases hji : j = i
        · subst hji
          rw [h1] at hj; cases hj
        · rw [Array.getD_eq_getD_getElem?, Array.getElem?_setIfInBounds_ne (fun e => hji e.symm)]
          rw [Array.getD_eq_getD_getElem?] at hj
          exact hj
      have hself : (listed.setIfInBounds i true).getD i true = true := by
        rw [Array.getD_eq_getD_getElem?]
        simp [hi_lt]
      refine ih _ _ _ (by simpa using hs) (by have := unlisted_set h1; omega) ?_
      refine ⟨hI, ?_, ?_, fun s hs' => ?_, fun j oj d hj hlj hd => ?_⟩
      · unfold Act.put
        split
        · exact hinv.defers
        · exact hinv.defers
      · unfold Act.put
        split
        · simpa using hinv.size
        · exact hinv.size
      · have h2 := hinv.other s fun j oj hj hlj => hs' j oj hj (hold j hlj)
        have h3 := hs' i o ho hself
        rw [← h2]
        unfold Act.put
        cases hd : o.dst with
        | none => rfl
        | some d =>
          have : d ≠ s := fun e => h3 (by rw [hd, e])
          simp [Array.getElem?_setIfInBounds_ne this]
      · rcases hnew j hlj with rfl | hlj'
        · obtain rfl : oj = o := by rw [ho] at hj; injection hj with hj; exact hj.symm
          refine ⟨v, ?_, hF⟩
          have hlt := hin _ _ _ hj hd
          rw [hd]
          unfold Act.put
          simp [hinv.size, hlt]
        · obtain ⟨u, hu1, hu2⟩ := hinv.slot j oj d hj hlj' hd
          refine ⟨u, ?_, hst _ _ ⟨oj, d, hj, hlj', hd, hu1⟩ hu2⟩
          rw [← hu1]
          unfold Act.put
          cases hdo : o.dst with
          | none => rfl
          | some d' =>
            have hne : d' ≠ d := fun e => by
              have hji := hdst j i oj o d hj ho hd (by rw [hdo, e])
              rw [hji, h1] at hlj'
              cases hlj'
            simp [Array.getElem?_setIfInBounds_ne hne]
/-- As slotsOk, of what binds alone. -/
def slotsOkA (ops : Array Oper) (n : Nat) : Bool := (List.range ops.size).all fun i => match ops[i]? with
  | none => true
  | some o => (match o.dst with
    | none => true
    | some d => decide (d < n) && (List.range i).all fun j => match ops[j]? with
      | none => true
      | some o' => o'.dst != some d) && o.after.all fun e => !Region.binds .any e || decide (e.on < i)
theorem slotsOkA_at {n : Nat} (h : slotsOkA ops n = true) {i : Nat} {o : Oper} (ho : ops[i]? = some o) :
    (∀ d, o.dst = some d → d < n ∧ ∀ j, j < i → ∀ o', ops[j]? = some o' → o'.dst ≠ some d) ∧ ∀ e ∈ o.after, Region.binds .any e = true → e.on < i := by
  have hlt : i < ops.size := (Array.getElem?_eq_some_iff.1 ho).1
  unfold slotsOkA at h
  have h1 := List.all_eq_true.1 h i (List.mem_range.2 hlt)
  rw [ho] at h1
  simp only [Bool.and_eq_true, Array.all_eq_true', Bool.or_eq_true, decide_eq_true_eq] at h1
  refine ⟨fun d hd => ?_, fun e he hb => (h1.2 e he).resolve_left (fun g => by rw [hb] at g; cases g)⟩
  have h2 := h1.1
  rw [hd] at h2
  simp only [Bool.and_eq_true, decide_eq_true_eq] at h2
  refine ⟨h2.1, fun j hj o' ho' => ?_⟩
  have h3 := List.all_eq_true.1 h2.2 j (List.mem_range.2 hj)
  rw [ho'] at h3
  simpa using h3
theorem wp_region_slotsA {id : Nat} {a0 : Act} {w : World} (hm : P.follows .mixedOrders = true) (I : Array Bool → Act → World → Prop) (F : Array Bool → Nat → Value → World → Prop) (hI : I (Array.replicate ops.size false) a0 w.drew) (hok : slotsOkA ops a0.tmps.size = true)
    (hstep : ∀ (i : Nat) (o : Oper), ops[i]? = some o → ∀ (listed : Array Bool) (a : Act) (w : World), SlotInvA ops a0 I F listed a w → listed.getD i true = false →
      (∀ e ∈ o.after, Region.binds .any e = true → listed.getD e.on false = true) →
      ∀ K' : Act → World → Prop, (∀ v w', I (listed.setIfInBounds i true) (a.put o.dst v) w' → F (listed.setIfInBounds i true) i v w' → (∀ j u, SlotAt ops listed a j u → F listed j u w → F (listed.setIfInBounds i true) j u w') → K' (a.put o.dst v) w') →
        if Region.wanted o (yielded ops a.tmps) = true then Oper.wp P o a w K' Q else K' (a.put o.dst undef) w)
    (hend : ∀ (listed : Array Bool) (a : Act) (w : World), SlotInvA ops a0 I F listed a w → (∀ i, listed.getD i true = true) → Q .normal a w) : (Code.region id ops true).wp P Q a0 w := by
  have hdst : ∀ (i j : Nat) (o o' : Oper) (d : Tmp), ops[i]? = some o → ops[j]? = some o' → o.dst = some d → o'.dst = some d → i = j := fun i j o o' d hi hj h1 h2 => by
    rcases Nat.lt_trichotomy i j with h | h | h
    · exact absurd h1 (((slotsOkA_at hok hj).1 d h2).2 i h o hi)
    · exact h
    · exact absurd h2 (((slotsOkA_at hok hi).1 d h1).2 j h o' hj)
  refine wp_region_any hm (wpAny_slotsA a0 I F hdst (fun i o d ho h => ((slotsOkA_at hok ho).1 d h).1) (fun i o ho => (slotsOkA_at hok ho).2) hstep hend _ _ _ _ (by simp) (by simp [unlisted]) ⟨hI, rfl, rfl, fun s _ => rfl, fun i o d ho hl _ => ?_⟩)
  have hlt : i < ops.size := (Array.getElem?_eq_some_iff.1 ho).1
  rw [Array.getD_eq_getD_getElem?] at hl
  simp [hlt] at hl
/-- What an operation reads that waits for another one. -/
theorem SlotInvA.arg {a0 a : Act} {I : Array Bool → Act → World → Prop} {F : Array Bool → Nat → Value → World → Prop} {listed : Array Bool} {w : World} (h : SlotInvA ops a0 I F listed a w) (j : Nat) (o : Oper) (d : Tmp) (ho : ops[j]? = some o) (hl : listed.getD j false = true) (hd : o.dst = some d) :
    ∃ v, a.tmps[d]? = some v ∧ F listed j v w := h.slot j o d ho (listed_of hl) hd
/-- What an operation reads that no one of the region writes. -/
theorem SlotInvA.old {a0 a : Act} {I : Array Bool → Act → World → Prop} {F : Array Bool → Nat → Value → World → Prop} {listed : Array Bool} {w : World} (h : SlotInvA ops a0 I F listed a w) (s : Tmp) (hs : ∀ o ∈ ops, o.dst ≠ some s) : a.tmps[s]? = a0.tmps[s]? := h.other s fun _ o ho _ => hs o (Array.mem_of_getElem? ho)
end
end Go.Proofs.YtnbaajdcakjlmaaDoor
