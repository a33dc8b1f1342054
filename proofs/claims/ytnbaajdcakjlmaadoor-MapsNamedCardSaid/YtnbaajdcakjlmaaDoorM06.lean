/-
  M06: Slots SlotsL QTail, side by side.
-/
import Derived.Test.YtnbaajdcakjlmaaDoorProg
import Derived.RegionTactic
import Derived.WalkKit
import Derived.StillTail
import Derived.Lib.QuietBelow
import Derived.BigQuiet

/-
  A region that draws its order, walked once: what each operation leaves in its slot is told by a relation to the world that no later operation breaks.
-/
namespace Go.Proofs.YtnbaajdcakjlmaaDoor
open Go.RowKit

section
variable {P : Program} {ops : Array Oper} {Q : Exit → Act → World → Prop}

/-- What is known of the slots once these operations have come up. -/
structure SlotInv (ops : Array Oper) (a0 : Act) (I : World → Prop) (F : Nat → Value → World → Prop) (listed : Array Bool) (a : Act) (w : World) : Prop where
  world : I w
  defers : a.defers = a0.defers
  size : a.tmps.size = a0.tmps.size
  other : ∀ s, (∀ i o, ops[i]? = some o → listed.getD i true = true → o.dst ≠ some s) → a.tmps[s]? = a0.tmps[s]?
  slot : ∀ i o d, ops[i]? = some o → listed.getD i true = true → o.dst = some d → ∃ v, a.tmps[d]? = some v ∧ F i v w
def unlisted (listed : Array Bool) : Nat := listed.toList.count false
theorem unlisted_set {listed : Array Bool} {i : Nat} (h : listed.getD i true = false) : unlisted (listed.setIfInBounds i true) + 1 = unlisted listed := by
  obtain ⟨l⟩ := listed
  unfold unlisted
  have h' : l[i]? = some false := by
    rw [Array.getD_eq_getD_getElem?] at h
    simp only [List.getElem?_toArray] at h
    cases hl : l[i]? with
    | none => rw [hl] at h; cases h
    | some b => rw [hl] at h; cases b <;> simp_all
  simp only [List.setIfInBounds_toArray]
  clear h
  induction l generalizing i with
  | nil => simp at h'
  | cons b l ih =>
    cases i with
    | zero =>
      simp at h'
      subst h'
      simp
    | succ i =>
      have := ih (by simpa using h')
      cases b <;> simp at this ⊢ <;> omega
theorem all_listed {listed : Array Bool} (h : unlisted listed = 0) (i : Nat) : listed.getD i true = true := by
  obtain ⟨l⟩ := listed
  unfold unlisted at h
  rw [List.count_eq_zero] at h
  rw [Array.getD_eq_getD_getElem?]
  simp only [List.getElem?_toArray]
  cases hl : l[i]? with
  | none => rfl
  | some b =>
    cases b
    · exact absurd (List.mem_of_getElem? hl) h
    · rfl
theorem some_unlisted {listed : Array Bool} (h : unlisted listed ≠ 0) : ∃ i, listed.getD i true = false ∧ ∀ j, j < i → listed.getD j false = true := by
  obtain ⟨l⟩ := listed
  unfold unlisted at h
  simp only [Array.getD_eq_getD_getElem?, List.getElem?_toArray]
  induction l with
  | nil => simp at h
  | cons b l ih =>
    cases b
    · exact ⟨0, by simp, fun j hj => absurd hj (Nat.not_lt_zero _)⟩
    · obtain ⟨i, h1, h2⟩ := ih (by simpa [List.count_cons] using h)
      refine ⟨i + 1, by simpa using h1, fun j hj => ?_⟩
      cases j with
      | zero => simp
      | succ j => simpa using h2 j (by omega)

theorem wpAny_slots (a0 : Act) (I : World → Prop) (F : Nat → Value → World → Prop)
    (hdst : ∀ (i j : Nat) (o o' : Oper) (d : Tmp), ops[i]? = some o → ops[j]? = some o' → o.dst = some d → o'.dst = some d → i = j)
    (hin : ∀ (i : Nat) (o : Oper) (d : Tmp), ops[i]? = some o → o.dst = some d → d < a0.tmps.size)
    (hafter : ∀ (i : Nat) (o : Oper), ops[i]? = some o → ∀ e ∈ o.after, e.on < i)
    (hstep : ∀ (i : Nat) (o : Oper), ops[i]? = some o → ∀ (listed : Array Bool) (a : Act) (w : World), SlotInv ops a0 I F listed a w → listed.getD i true = false →
      (∀ e ∈ o.after, Region.binds .any e = true → listed.getD e.on false = true) →
      ∀ K' : Act → World → Prop, (∀ v w', I w' → F i v w' → (∀ j u, F j u w → F j u w') → K' (a.put o.dst v) w') →
        if Region.wanted o (yielded ops a.tmps) = true then Oper.wp P o a w K' Q else K' (a.put o.dst undef) w)
    (hend : ∀ (listed : Array Bool) (a : Act) (w : World), SlotInv ops a0 I F listed a w → (∀ i, listed.getD i true = true) → Q .normal a w) :
    ∀ (fuel : Nat) (listed : Array Bool) (a : Act) (w : World), listed.size = ops.size → unlisted listed = fuel → SlotInv ops a0 I F listed a w → wpAny P .any ops Q fuel listed a w := by
  intro fuel
  induction fuel with
  | zero =>
    intro listed a w hs hu hinv
    refine ⟨?_, hend listed a w hinv (all_listed hu)⟩
    apply List.eq_nil_iff_forall_not_mem.2
    intro i hi
    have := (mem_ready.1 hi).1
    rw [all_listed hu] at this
    cases this
  | succ fuel ih =>
    intro listed a w hs hu hinv
    refine ⟨fun h0 => ?_, fun i hi => ?_⟩
    · exfalso
      obtain ⟨i, h1, h2⟩ := some_unlisted (listed := listed) (by omega)
      have hlt : i < ops.size := by
        rw [← hs]
        rcases Nat.lt_or_ge i listed.size with h | h
        · exact h
        · rw [Array.getD_eq_getD_getElem?, Array.getElem?_eq_none h] at h1
          cases h1
      have hm : i ∈ Region.ready .any ops listed := mem_ready.2 ⟨h1, ops[i], Array.getElem?_eq_getElem hlt, fun e he _ => h2 e.on (hafter i _ (Array.getElem?_eq_getElem hlt) e he)⟩
      rw [h0] at hm
      cases hm
    · obtain ⟨h1, o, ho, hall⟩ := mem_ready.1 hi
      refine wpOp_step ho fun K' hK' => hstep i o ho listed a w hinv h1 hall K' fun v w' hI hF hst => hK' _ _ ?_
      have hi_lt : i < listed.size := by
        rcases Nat.lt_or_ge i listed.size with h | h
        · exact h
        · rw [Array.getD_eq_getD_getElem?, Array.getElem?_eq_none h] at h1
          cases h1
      have hnew : ∀ j, (listed.setIfInBounds i true).getD j true = true → j = i ∨ listed.getD j true = true := fun j hj => by
        by_cases hji : j = i
        · exact .inl hji
        · refine .inr ?_
          rw [Array.getD_eq_getD_getElem?, Array.getElem?_setIfInBounds_ne (fun e => hji e.symm)] at hj
          rw [Array.getD_eq_getD_getElem?]
          exact hj
      have hold : ∀ j, listed.getD j true = true → (listed.setIfInBounds i true).getD j true = true := fun j hj => by
        by_cases hji : j = i
        · subst hji
          rw [h1] at hj; cases hj
        · rw [Array.getD_eq_getD_getElem?, Array.getElem?_setIfInBounds_ne (fun e => hji e.symm)]
          rw [Array.getD_eq_getD_getElem?] at hj
          exact hj
      have hself : (listed.setIfInBounds i true).getD i true = true := by
        rw [Array.getD_eq_getD_getElem?]
        simp [hi_lt]
      refine ih _ _ _ (by simpa using hs) (by have := unlisted_set h1; omega) ?_
      refine ⟨hI, ?_, ?_, fun s hs' => ?_, fun j oj d hj hlj hd => ?_⟩
      · unfold Act.put
        split
        · exact hinv.defers
        · exact hinv.defers
      · unfold Act.put
        split
        · simpa using hinv.size
        · exact hinv.size
      · have h2 := hinv.other s fun j oj hj hlj => hs' j oj hj (hold j hlj)
        have h3 := hs' i o ho hself
        rw [← h2]
        unfold Act.put
        cases hd : o.dst with
        | none => rfl
        | some d =>
          have : d ≠ s := fun e => h3 (by rw [hd, e])
          simp [Array.getElem?_setIfInBounds_ne this]
      · rcases hnew j hlj with rfl | hlj'
        · obtain rfl : oj = o := by rw [ho] at hj; injection hj with hj; exact hj.symm
          refine ⟨v, ?_, hF⟩
          have hlt := hin _ _ _ hj hd
          rw [hd]
          unfold Act.put
          simp [hinv.size, hlt]
        · obtain ⟨u, hu1, hu2⟩ := hinv.slot j oj d hj hlj' hd
          refine ⟨u, ?_, hst _ _ hu2⟩
          rw [← hu1]
          unfold Act.put
          cases hdo : o.dst with
          | none => rfl
          | some d' =>
            have hne : d' ≠ d := fun e => by
              have hji := hdst j i oj o d hj ho hd (by rw [hdo, e])
              rw [hji, h1] at hlj'
              cases hlj'
            simp [Array.getElem?_setIfInBounds_ne hne]
/-- No slot is written twice, each lies in the frame, and each operation waits only for ones ahead of it. -/
def slotsOk (ops : Array Oper) (n : Nat) : Bool := (List.range ops.size).all fun i => match ops[i]? with
  | none => true
  | some o => (match o.dst with
    | none => true
    | some d => decide (d < n) && (List.range i).all fun j => match ops[j]? with
      | none => true
      | some o' => o'.dst != some d) && o.after.all fun e => decide (e.on < i)
theorem slotsOk_at {n : Nat} (h : slotsOk ops n = true) {i : Nat} {o : Oper} (ho : ops[i]? = some o) :
    (∀ d, o.dst = some d → d < n ∧ ∀ j, j < i → ∀ o', ops[j]? = some o' → o'.dst ≠ some d) ∧ ∀ e ∈ o.after, e.on < i := by
  have hlt : i < ops.size := (Array.getElem?_eq_some_iff.1 ho).1
  unfold slotsOk at h
  have h1 := List.all_eq_true.1 h i (List.mem_range.2 hlt)
  rw [ho] at h1
  simp only [Bool.and_eq_true, Array.all_eq_true', decide_eq_true_eq] at h1
  refine ⟨fun d hd => ?_, h1.2⟩
  have h2 := h1.1
  rw [hd] at h2
  simp only [Bool.and_eq_true, decide_eq_true_eq] at h2
  refine ⟨h2.1, fun j hj o' ho' => ?_⟩
  have h3 := List.all_eq_true.1 h2.2 j (List.mem_range.2 hj)
  rw [ho'] at h3
  simpa using h3
theorem wp_region_slots {id : Nat} {a0 : Act} {w : World} (hm : P.follows .mixedOrders = true) (I : World → Prop) (F : Nat → Value → World → Prop) (hI : I w.drew) (hok : slotsOk ops a0.tmps.size = true)
    (hstep : ∀ (i : Nat) (o : Oper), ops[i]? = some o → ∀ (listed : Array Bool) (a : Act) (w : World), SlotInv ops a0 I F listed a w → listed.getD i true = false →
      (∀ e ∈ o.after, Region.binds .any e = true → listed.getD e.on false = true) →
      ∀ K' : Act → World → Prop, (∀ v w', I w' → F i v w' → (∀ j u, F j u w → F j u w') → K' (a.put o.dst v) w') →
        if Region.wanted o (yielded ops a.tmps) = true then Oper.wp P o a w K' Q else K' (a.put o.dst undef) w)
    (hend : ∀ (listed : Array Bool) (a : Act) (w : World), SlotInv ops a0 I F listed a w → (∀ i, listed.getD i true = true) → Q .normal a w) : (Code.region id ops true).wp P Q a0 w := by
  have hdst : ∀ (i j : Nat) (o o' : Oper) (d : Tmp), ops[i]? = some o → ops[j]? = some o' → o.dst = some d → o'.dst = some d → i = j := fun i j o o' d hi hj h1 h2 => by
    rcases Nat.lt_trichotomy i j with h | h | h
    · exact absurd h1 (((slotsOk_at hok hj).1 d h2).2 i h o hi)
    · exact h
    · exact absurd h2 (((slotsOk_at hok hi).1 d h1).2 j h o' hj)
  refine wp_region_any hm (wpAny_slots a0 I F hdst (fun i o d ho h => ((slotsOk_at hok ho).1 d h).1) (fun i o ho => (slotsOk_at hok ho).2) hstep hend _ _ _ _ (by simp) (by simp [unlisted]) ⟨hI, rfl, rfl, fun s _ => rfl, fun i o d ho hl _ => ?_⟩)
  have hlt : i < ops.size := (Array.getElem?_eq_some_iff.1 ho).1
  rw [Array.getD_eq_getD_getElem?] at hl
  simp [hlt] at hl
theorem oper_at {i : Nat} {o o' : Oper} (h : ops[i]? = some o) (h' : ops[i]? = some o') : o' = o := by rw [h] at h'; injection h' with h'; exact h'.symm
theorem listed_of {listed : Array Bool} {i : Nat} (h : listed.getD i false = true) : listed.getD i true = true := by
  rw [Array.getD_eq_getD_getElem?] at h ⊢
  cases hl : listed[i]? with
  | none => rfl
  | some b => rw [hl] at h; exact h
/-- What an operation reads that waits for another one. -/
theorem SlotInv.arg {a0 a : Act} {I : World → Prop} {F : Nat → Value → World → Prop} {listed : Array Bool} {w : World} (h : SlotInv ops a0 I F listed a w) (j : Nat) (o : Oper) (d : Tmp) (ho : ops[j]? = some o) (hl : listed.getD j false = true) (hd : o.dst = some d) :
    ∃ v, a.tmps[d]? = some v ∧ F j v w := h.slot j o d ho (listed_of hl) hd
/-- What an operation reads that no one of the region writes. -/
theorem SlotInv.old {a0 a : Act} {I : World → Prop} {F : Nat → Value → World → Prop} {listed : Array Bool} {w : World} (h : SlotInv ops a0 I F listed a w) (s : Tmp) (hs : ∀ o ∈ ops, o.dst ≠ some s) : a.tmps[s]? = a0.tmps[s]? := h.other s fun _ o ho _ => hs o (Array.mem_of_getElem? ho)
/-- An operation without a guard that yields a value. -/
theorem slot_value {o : Oper} {a : Act} {w w' : World} {v : Value} {K' : Act → World → Prop} {E : Prop} (hg : o.guard = none) (hr : (execOp a.eval o).run P w = .ok (.value v) w') (h : K' (a.put o.dst v) w') :
    if Region.wanted o (yielded ops a.tmps) = true then Oper.wp P o a w K' Q else E := by
  rw [if_pos (by simp [Region.wanted, hg])]
  unfold Oper.wp
  rw [hr]
  exact h
/-- An operation without a guard that calls a function of the program. -/
theorem slot_call {o : Oper} {a : Act} {w : World} {f : FuncId} {args : Array Value} {K' : Act → World → Prop} {E : Prop} {R : Ending → World → Prop} (hg : o.guard = none) (hr : (execOp a.eval o).run P w = .ok (.enter f args) w) (hc : Calls P f args w R)
    (h : ∀ e w', R e w' → ∃ v, e = .returned v ∧ K' (a.put o.dst v) w') :
    if Region.wanted o (yielded ops a.tmps) = true then Oper.wp P o a w K' Q else E := by
  rw [if_pos (by simp [Region.wanted, hg])]
  unfold Oper.wp
  rw [hr, Oper.upon_enter]
  refine hc.mono ?_
  intro e w' he
  obtain ⟨v, rfl, hk⟩ := h e w' he
  exact hk
end
end Go.Proofs.YtnbaajdcakjlmaaDoor

/-
  A region that draws its order, walked once, as by Slots; what is known of a slot may here depend on what has come up, so that an operation may use up what another one has left.
-/
namespace Go.Proofs.YtnbaajdcakjlmaaDoor
open Go.RowKit

theorem getD_set {L : Array Bool} {i j : Nat} (h : i ≠ j) : (L.setIfInBounds i true).getD j true = L.getD j true := by
  rw [Array.getD_eq_getD_getElem?, Array.getD_eq_getD_getElem?, Array.getElem?_setIfInBounds_ne h]
theorem getD_set_self (L : Array Bool) (i : Nat) : (L.setIfInBounds i true).getD i true = true := by
  rw [Array.getD_eq_getD_getElem?]
  by_cases h : i < L.size <;> simp [h]
theorem getD_mono {L : Array Bool} {i j : Nat} (h : L.getD j true = true) : (L.setIfInBounds i true).getD j true = true := by
  by_cases e : i = j
  · rw [e]; exact getD_set_self _ _
  · rw [getD_set e]; exact h
section
variable {P : Program} {ops : Array Oper} {Q : Exit → Act → World → Prop}

/-- What is known of the slots once these operations have come up: it may depend on which. -/
structure SlotInvL (ops : Array Oper) (a0 : Act) (I : Array Bool → World → Prop) (F : Array Bool → Nat → Value → World → Prop) (listed : Array Bool) (a : Act) (w : World) : Prop where
  world : I listed w
  defers : a.defers = a0.defers
  size : a.tmps.size = a0.tmps.size
  other : ∀ s, (∀ i o, ops[i]? = some o → listed.getD i true = true → o.dst ≠ some s) → a.tmps[s]? = a0.tmps[s]?
  slot : ∀ i o d, ops[i]? = some o → listed.getD i true = true → o.dst = some d → ∃ v, a.tmps[d]? = some v ∧ F listed i v w
/-- What lies in the slot of an operation that has come up. -/
def SlotAt (ops : Array Oper) (listed : Array Bool) (a : Act) (j : Nat) (u : Value) : Prop := ∃ o d, ops[j]? = some o ∧ listed.getD j true = true ∧ o.dst = some d ∧ a.tmps[d]? = some u

theorem wpAny_slotsL (a0 : Act) (I : Array Bool → World → Prop) (F : Array Bool → Nat → Value → World → Prop)
    (hdst : ∀ (i j : Nat) (o o' : Oper) (d : Tmp), ops[i]? = some o → ops[j]? = some o' → o.dst = some d → o'.dst = some d → i = j)
    (hin : ∀ (i : Nat) (o : Oper) (d : Tmp), ops[i]? = some o → o.dst = some d → d < a0.tmps.size)
    (hafter : ∀ (i : Nat) (o : Oper), ops[i]? = some o → ∀ e ∈ o.after, e.on < i)
    (hstep : ∀ (i : Nat) (o : Oper), ops[i]? = some o → ∀ (listed : Array Bool) (a : Act) (w : World), SlotInvL ops a0 I F listed a w → listed.getD i true = false →
      (∀ e ∈ o.after, Region.binds .any e = true → listed.getD e.on false = true) →
      ∀ K' : Act → World → Prop, (∀ v w', I (listed.setIfInBounds i true) w' → F (listed.setIfInBounds i true) i v w' → (∀ j u, SlotAt ops listed a j u → F listed j u w → F (listed.setIfInBounds i true) j u w') → K' (a.put o.dst v) w') →
        if Region.wanted o (yielded ops a.tmps) = true then Oper.wp P o a w K' Q else K' (a.put o.dst undef) w)
    (hend : ∀ (listed : Array Bool) (a : Act) (w : World), SlotInvL ops a0 I F listed a w → (∀ i, listed.getD i true = true) → Q .normal a w) :
    ∀ (fuel : Nat) (listed : Array Bool) (a : Act) (w : World), listed.size = ops.size → unlisted listed = fuel → SlotInvL ops a0 I F listed a w → wpAny P .any ops Q fuel listed a w := by
  intro fuel
  induction fuel with
  | zero =>
    intro listed a w hs hu hinv
    refine ⟨?_, hend listed a w hinv (all_listed hu)⟩
    apply List.eq_nil_iff_forall_not_mem.2
    intro i hi
    have := (mem_ready.1 hi).1
    rw [all_listed hu] at this
    cases this
  | succ fuel ih =>
    intro listed a w hs hu hinv
    refine ⟨fun h0 => ?_, fun i hi => ?_⟩
    · exfalso
      obtain ⟨i, h1, h2⟩ := some_unlisted (listed := listed) (by omega)
      have hlt : i < ops.size := by
        rw [← hs]
        rcases Nat.lt_or_ge i listed.size with h | h
        · exact h
        · rw [Array.getD_eq_getD_getElem?, Array.getElem?_eq_none h] at h1
          cases h1
      have hm : i ∈ Region.ready .any ops listed := mem_ready.2 ⟨h1, ops[i], Array.getElem?_eq_getElem hlt, fun e he _ => h2 e.on (hafter i _ (Array.getElem?_eq_getElem hlt) e he)⟩
      rw [h0] at hm
      cases hm
    · obtain ⟨h1, o, ho, hall⟩ := mem_ready.1 hi
      refine wpOp_step ho fun K' hK' => hstep i o ho listed a w hinv h1 hall K' fun v w' hI hF hst => hK' _ _ ?_
      have hi_lt : i < listed.size := by
        rcases Nat.lt_or_ge i listed.size with h | h
        · exact h
        · rw [Array.getD_eq_getD_getElem?, Array.getElem?_eq_none h] at h1
          cases h1
      have hnew : ∀ j, (listed.setIfInBounds i true).getD j true = true → j = i ∨ listed.getD j true = true := fun j hj => by
        by_cases hji : j = i
        · exact .inl hji
        · refine .inr ?_
          rw [Array.getD_eq_getD_getElem?, Array.getElem?_setIfInBounds_ne (fun e => hji e.symm)] at hj
          rw [Array.getD_eq_getD_getElem?]
          exact hj
      have hold : ∀ j, listed.getD j true = true → (listed.setIfInBounds i true).getD j true = true := fun j hj => by
        by_cases hji : j = i
        · subst hji
          rw [h1] at hj; cases hj
        · rw [Array.getD_eq_getD_getElem?, Array.getElem?_setIfInBounds_ne (fun e => hji e.symm)]
          rw [Array.getD_eq_getD_getElem?] at hj
          exact hj
      have hself : (listed.setIfInBounds i true).getD i true = true := by
        rw [Array.getD_eq_getD_getElem?]
        simp [hi_lt]
      refine ih _ _ _ (by simpa using hs) (by have := unlisted_set h1; omega) ?_
      refine ⟨hI, ?_, ?_, fun s hs' => ?_, fun j oj d hj hlj hd => ?_⟩
      · unfold Act.put
        split
        · exact hinv.defers
        · exact hinv.defers
      · unfold Act.put
        split
        · simpa using hinv.size
        · exact hinv.size
      · have h2 := hinv.other s fun j oj hj hlj => hs' j oj hj (hold j hlj)
        have h3 := hs' i o ho hself
        rw [← h2]
        unfold Act.put
        cases hd : o.dst with
        | none => rfl
        | some d =>
          have : d ≠ s := fun e => h3 (by rw [hd, e])
          simp [Array.getElem?_setIfInBounds_ne this]
      · rcases hnew j hlj with rfl | hlj'
        · obtain rfl : oj = o := by rw [ho] at hj; injection hj with hj; exact hj.symm
          refine ⟨v, ?_, hF⟩
          have hlt := hin _ _ _ hj hd
          rw [hd]
          unfold Act.put
          simp [hinv.size, hlt]
        · obtain ⟨u, hu1, hu2⟩ := hinv.slot j oj d hj hlj' hd
          refine ⟨u, ?_, hst _ _ ⟨oj, d, hj, hlj', hd, hu1⟩ hu2⟩
          rw [← hu1]
          unfold Act.put
          cases hdo : o.dst with
          | none => rfl
          | some d' =>
            have hne : d' ≠ d := fun e => by
              have hji := hdst j i oj o d hj ho hd (by rw [hdo, e])
              rw [hji, h1] at hlj'
              cases hlj'
            simp [Array.getElem?_setIfInBounds_ne hne]
theorem wp_region_slotsL {id : Nat} {a0 : Act} {w : World} (hm : P.follows .mixedOrders = true) (I : Array Bool → World → Prop) (F : Array Bool → Nat → Value → World → Prop) (hI : I (Array.replicate ops.size false) w.drew) (hok : slotsOk ops a0.tmps.size = true)
    (hstep : ∀ (i : Nat) (o : Oper), ops[i]? = some o → ∀ (listed : Array Bool) (a : Act) (w : World), SlotInvL ops a0 I F listed a w → listed.getD i true = false →
      (∀ e ∈ o.after, Region.binds .any e = true → listed.getD e.on false = true) →
      ∀ K' : Act → World → Prop, (∀ v w', I (listed.setIfInBounds i true) w' → F (listed.setIfInBounds i true) i v w' → (∀ j u, SlotAt ops listed a j u → F listed j u w → F (listed.setIfInBounds i true) j u w') → K' (a.put o.dst v) w') →
        if Region.wanted o (yielded ops a.tmps) = true then Oper.wp P o a w K' Q else K' (a.put o.dst undef) w)
    (hend : ∀ (listed : Array Bool) (a : Act) (w : World), SlotInvL ops a0 I F listed a w → (∀ i, listed.getD i true = true) → Q .normal a w) : (Code.region id ops true).wp P Q a0 w := by
  have hdst : ∀ (i j : Nat) (o o' : Oper) (d : Tmp), ops[i]? = some o → ops[j]? = some o' → o.dst = some d → o'.dst = some d → i = j := fun i j o o' d hi hj h1 h2 => by
    rcases Nat.lt_trichotomy i j with h | h | h
    · exact absurd h1 (((slotsOk_at hok hj).1 d h2).2 i h o hi)
    · exact h
    · exact absurd h2 (((slotsOk_at hok hi).1 d h1).2 j h o' hj)
  refine wp_region_any hm (wpAny_slotsL a0 I F hdst (fun i o d ho h => ((slotsOk_at hok ho).1 d h).1) (fun i o ho => (slotsOk_at hok ho).2) hstep hend _ _ _ _ (by simp) (by simp [unlisted]) ⟨hI, rfl, rfl, fun s _ => rfl, fun i o d ho hl _ => ?_⟩)
  have hlt : i < ops.size := (Array.getElem?_eq_some_iff.1 ho).1
  rw [Array.getD_eq_getD_getElem?] at hl
  simp [hlt] at hl
/-- What an operation reads that waits for another one. -/
theorem SlotInvL.arg {a0 a : Act} {I : Array Bool → World → Prop} {F : Array Bool → Nat → Value → World → Prop} {listed : Array Bool} {w : World} (h : SlotInvL ops a0 I F listed a w) (j : Nat) (o : Oper) (d : Tmp) (ho : ops[j]? = some o) (hl : listed.getD j false = true) (hd : o.dst = some d) :
    ∃ v, a.tmps[d]? = some v ∧ F listed j v w := h.slot j o d ho (listed_of hl) hd
/-- What an operation reads that no one of the region writes. -/
theorem SlotInvL.old {a0 a : Act} {I : Array Bool → World → Prop} {F : Array Bool → Nat → Value → World → Prop} {listed : Array Bool} {w : World} (h : SlotInvL ops a0 I F listed a w) (s : Tmp) (hs : ∀ o ∈ ops, o.dst ≠ some s) : a.tmps[s]? = a0.tmps[s]? := h.other s fun _ o ho _ => hs o (Array.mem_of_getElem? ho)
/-- An operation without a guard that yields nothing. -/
theorem slot_skip {o : Oper} {a : Act} {w w' : World} {K' : Act → World → Prop} {E : Prop} (hg : o.guard = none) (hr : (execOp a.eval o).run P w = .ok .skip w') (h : K' (a.put o.dst undef) w') :
    if Region.wanted o (yielded ops a.tmps) = true then Oper.wp P o a w K' Q else E := by
  rw [if_pos (by simp [Region.wanted, hg])]
  unfold Oper.wp
  rw [hr]
  exact h
end
end Go.Proofs.YtnbaajdcakjlmaaDoor

/-
  A region that draws its order, in which all operations but the last ones only read, or call what only adds memory, and the last ones come one behind the other: walked once. (The library has the two halves: Derived.Deep.Quiet, Derived.StillTail.)
-/
namespace Go.Proofs.YtnbaajdcakjlmaaDoor
open Go.RowKit Go.Sort

section
variable {P : Program} {C : World → Prop} {Q : Exit → Act → World → Prop}
/-- None of the first n is guarded, and none waits for one behind it. -/
def leadOk (ops : Array Oper) (n : Nat) : Bool := (List.range n).all fun i => match ops[i]? with
  | none => true
  | some o => o.guard.isNone && o.after.all fun e => decide (e.on < i)
theorem leadOk_at {ops : Array Oper} {n i : Nat} {o : Oper} (h : leadOk ops n = true) (hi : i < n) (ho : ops[i]? = some o) : o.guard = none ∧ ∀ e ∈ o.after, e.on < i := by
  have h1 := List.all_eq_true.1 h i (List.mem_range.2 hi)
  rw [ho] at h1
  simp only [Bool.and_eq_true, Array.all_eq_true', decide_eq_true_eq] at h1
  exact ⟨by simpa using h1.1, h1.2⟩
theorem getD_app_lt {xs ys : Array Bool} {i : Nat} {b : Bool} (h : i < xs.size) : (xs ++ ys).getD i b = xs.getD i b := by
  rw [Array.getD_eq_getD_getElem?, Array.getD_eq_getD_getElem?, Array.getElem?_append_left h]
theorem set_app {xs ys : Array Bool} {i : Nat} {b : Bool} (h : i < xs.size) : (xs ++ ys).setIfInBounds i b = xs.setIfInBounds i b ++ ys := by
  apply Array.ext_getElem?
  intro j
  by_cases hj : j < xs.size
  · rw [Array.getElem?_append_left (by simpa using hj)]
    by_cases hij : i = j
    · subst hij
      simp [h, Nat.lt_of_lt_of_le h (Nat.le_add_right _ _)]
    · rw [Array.getElem?_setIfInBounds_ne hij, Array.getElem?_setIfInBounds_ne hij, Array.getElem?_append_left hj]
  · rw [Array.getElem?_append_right (by simpa using Nat.le_of_not_lt hj), Array.getElem?_setIfInBounds_ne (by omega), Array.getElem?_append_right (by omega)]
    simp
theorem all_true {xs : Array Bool} (h : unlisted xs = 0) : xs = Array.replicate xs.size true := by
  apply Array.ext_getElem?
  intro j
  have h1 := all_listed h j
  rw [Array.getD_eq_getD_getElem?] at h1
  by_cases hj : j < xs.size
  · rw [Array.getElem?_eq_getElem hj] at h1 ⊢
    simp only [Option.getD_some] at h1
    simp [h1, hj]
  · rw [Array.getElem?_eq_none (by omega), Array.getElem?_eq_none (by simp; omega)]

theorem wpAny_lead {l : List Oper} {n : Nat} (hn : n < l.length) (hs : Region.sinkB .any l.toArray n = true) (hc : Region.chainB .any l.toArray n = true) (hG : leadOk l.toArray n = true)
    (hS : Region.seqB .any l.toArray (l.length - n) n (Array.replicate n true ++ Array.replicate (l.length - n) false) = true) :
    ∀ (fuel : Nat) (xs : Array Bool) (a : Act) (w : World), C w → xs.size = n → unlisted xs = fuel → HeadInv .any l.toArray n (xs ++ Array.replicate (l.length - n) false) →
      wpAnyQ P .any (l.take n).toArray C (fun a' => ∀ w', C w' → wpList P l.toArray Q (l.drop n) a' w') fuel xs a →
      wpAny P .any l.toArray Q (fuel + (l.length - n)) (xs ++ Array.replicate (l.length - n) false) a w := by
  intro fuel
  induction fuel with
  | zero =>
    intro xs a w hw hx hu inv h
    have hx2 := all_true hu
    rw [hx] at hx2
    rw [hx2, Nat.zero_add]
    have hlen : (l.drop n).length = l.length - n := by simp
    have := wpAny_of_seq (P := P) (md := .any) (Q' := Q) (l.drop n) n (Array.replicate n true ++ Array.replicate (l.length - n) false) a w (fun j => by simp [List.getElem?_drop]) (by rw [hlen]; exact hS) (h.2 w hw)
    rwa [hlen] at this
  | succ fuel ih =>
    intro xs a w hw hx hu inv h
    rw [show fuel + 1 + (l.length - n) = (fuel + (l.length - n)) + 1 by omega]
    obtain ⟨m, hm1, hm2⟩ := some_unlisted (listed := xs) (by omega)
    have hmn : m < n := by
      rw [← hx]
      rcases Nat.lt_or_ge m xs.size with h' | h'
      · exact h'
      · rw [Array.getD_eq_getD_getElem?, Array.getElem?_eq_none h'] at hm1
        cases hm1
    have hml : m < l.length := by omega
    have hunl : (xs ++ Array.replicate (l.length - n) false).getD m true = false := by rw [getD_app_lt (by omega)]; exact hm1
    have hrm : m ∈ Region.ready .any l.toArray (xs ++ Array.replicate (l.length - n) false) := mem_ready.2 ⟨hunl, l[m], by simp [hml], fun e he _ => by
      have := (leadOk_at hG hmn (o := l[m]) (by simp [hml])).2 e he
      rw [getD_app_lt (by omega)]
      exact hm2 e.on this⟩
    refine ⟨fun h0 => (by rw [h0] at hrm; cases hrm), fun i hi => ?_⟩
    have hin : i < n := by
      rcases Nat.lt_or_ge i n with h' | h'
      · exact h'
      · exact absurd hi (tail_waits hs hc (by simpa using hn) inv _ m rfl hmn hunl i h')
    obtain ⟨h1, o, ho, hall⟩ := mem_ready.1 hi
    have hol : (l.take n).toArray[i]? = some o := by
      rw [List.getElem?_toArray] at ho ⊢
      rw [List.getElem?_take, if_pos hin]
      exact ho
    have hir : i ∈ Region.ready .any (l.take n).toArray xs := mem_ready.2 ⟨by rw [getD_app_lt (by omega)] at h1; exact h1, o, hol, fun e he hb => by
      have h2 := hall e he hb
      have h3 := (leadOk_at hG hin ho).2 e he
      rw [getD_app_lt (by omega)] at h2
      exact h2⟩
    have hg := (leadOk_at hG hin ho).1
    have hq := h.2 i hir
    have hq2 : qOp P l.toArray C i (wpAnyQ P .any (l.take n).toArray C (fun a' => ∀ w', C w' → wpList P l.toArray Q (l.drop n) a' w') fuel (xs.setIfInBounds i true)) a := by
      unfold qOp at hq ⊢
      rw [hol] at hq
      rw [ho]
      simp only at hq ⊢
      rw [if_pos (by simp [Region.wanted, hg])] at hq ⊢
      exact hq
    have inv2 := inv.set hi hin
    rw [set_app (by omega)] at inv2 ⊢
    have hxi : xs.getD i true = false := by rw [getD_app_lt (by omega)] at h1; exact h1
    exact wpOp_of_qOp hw (fun a' w' hw' hh => ih _ a' w' hw' (by simpa using hx) (by have := unlisted_set hxi; omega) inv2 hh) hq2

/-- The first n only read, or call what only adds memory; the others come one behind the other. -/
theorem wp_region_quiet_tail {id : Nat} {a : Act} {w : World} {l : List Oper} (n : Nat) (hm : P.follows .mixedOrders = true) (hB : Region.lexB .any (l.take n).toArray = true) (hT : Region.lexTailB .any l.toArray n = true) (hG : leadOk l.toArray n = true)
    (hS : Region.seqB .any l.toArray (l.length - n) n (Array.replicate n true ++ Array.replicate (l.length - n) false) = true)
    (h : wpQuiet P (l.take n).toArray (fun w' => ∃ p : Regrown, w' = grow (redrawn w p.d) p.os) (fun a' => ∀ w', (∃ p : Regrown, w' = grow (redrawn w p.d) p.os) → wpList P l.toArray Q (l.drop n) a' w') (l.take n) a) : (Code.region id l.toArray true).wp P Q a w := by
  simp only [Region.lexTailB, Bool.and_eq_true, decide_eq_true_eq] at hT
  obtain ⟨⟨⟨⟨_, hn⟩, hs⟩, hc⟩, _⟩ := hT
  have hn' : n < l.length := by simpa using hn
  simp only [Region.lexB, Bool.and_eq_true] at hB
  have htl : (l.take n).length = n := by simp; omega
  have H := wpAnyQ_lex (C := fun w' => ∃ p : Regrown, w' = grow (redrawn w p.d) p.os) (md := .any) hB.1 (l.take n) 0 (Array.replicate n false) a (by simp) (by have := hB.2; simpa [htl, Nat.min_eq_left (Nat.le_of_lt hn')] using this) h
  rw [htl] at H
  refine wp_region_any hm ?_
  have e1 : Array.replicate l.toArray.size false = Array.replicate n false ++ Array.replicate (l.length - n) false := by
    apply Array.ext_getElem?
    intro j
    simp only [List.size_toArray, Array.getElem?_append, Array.size_replicate, Array.getElem?_replicate]
    split <;> split <;> first | rfl | (split <;> first | rfl | omega) | omega
  have inv0 : HeadInv .any l.toArray n (Array.replicate n false ++ Array.replicate (l.length - n) false) := by
    rw [← e1]
    exact ⟨by simp, fun j oj _ hl => (by rw [getD_replicate_false] at hl; cases hl), fun t _ ht => getD_in (by simpa using ht) (getD_replicate_false _ _)⟩
  have := wpAny_lead (P := P) (Q := Q) hn' hs hc hG hS n (Array.replicate n false) a w.drew ⟨⟨w.drawn + 1, #[]⟩, by rw [grow_empty]; rfl⟩ (by simp) (by simp [unlisted, Array.toList_replicate]) inv0 H
  rw [show n + (l.length - n) = l.toArray.size by simp; omega] at this
  rw [← e1] at this
  exact this
end
end Go.Proofs.YtnbaajdcakjlmaaDoor
