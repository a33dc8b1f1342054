/-
  The document's amiss.
-/
import Derived.Test.YtcpfkhodailbfaaTVal
import Derived.Deep.RegionLaw
namespace Go.Proofs.Ytcpfkhodailbfaa
open Go.RowKit

/-- That it is told what is amiss, where so many levels are left. -/
def AmissOk (lv : Nat) : Prop := ∀ (ok : Nat → Prop) (v : Value) (t : Bq.T) (w : World), IsT w ok v t →
  Calls Try.prog 27 #[v, .int .i64 ((16 - lv : Nat) : Int)] w fun e w' => e = .returned (.int .i64 (Bq.amiss lv t : Nat)) ∧ Below w.heap.size w w'
theorem amiss_form (lv : Nat) (t : Bq.T) : Bq.amiss lv t = if t.tag % 32 = 31 ∨ (t.tag / 32 % 2 = 0 ∧ t.list ≠ []) ∨ (t.tag / 32 % 2 = 1 ∧ t.bytes ≠ []) then 60 else if t.tag / 32 % 2 = 0 then 0 else match lv with
    | 0 => 61
    | lv + 1 => Bq.first (Bq.amiss lv) t.list := by
  rw [Bq.amiss.eq_def]
  cases lv <;> rfl
theorem first_step {f : Bq.T → Nat} {l : List Bq.T} {k : Nat} {x : Bq.T} (hx : l[k]? = some x) : (f x ≠ 0 → Bq.first f (l.drop k) = f x) ∧ (f x = 0 → Bq.first f (l.drop k) = Bq.first f (l.drop (k + 1))) := by
  obtain ⟨h1, h2⟩ := List.getElem?_eq_some_iff.1 hx
  rw [List.drop_eq_getElem_cons h1, h2, Bq.first]
  exact ⟨fun h => if_pos h, fun h => if_neg (fun e => e h)⟩

set_option maxHeartbeats 1000000 in
set_option maxRecDepth 100000 in
theorem refAmiss_step (lv : Nat) (hlv : lv ≤ 16) (ih : ∀ m, lv = m + 1 → AmissOk m) : AmissOk lv := by
  intro ok v t w hJ
  obtain ⟨bv, lst, rfl, hta, hB, hbt, hL⟩ := hJ.parts
  obtain ⟨A0, c0, rfl⟩ := hL.form
  obtain ⟨A9, c9, rfl⟩ := hB.form
  obtain ⟨RES, eRES⟩ : ∃ RES, Bq.amiss lv t = RES := ⟨_, rfl⟩
  rw [eRES]
  rw [amiss_form] at eRES
  obtain ⟨D, eD⟩ : ∃ D : Int, ((16 - lv : Nat) : Int) = D := ⟨_, rfl⟩
  rw [eD]
  have hD1 : 0 ≤ D := by omega
  have hD2 : D ≤ 16 := by omega
  have HB0 : Hid (∀ o, Below w.heap.size w (w.alloc o)) := fun o => (Below.refl _ _).alloc (Nat.le_refl _) o
  have hll := hL.len
  obtain ⟨M, eM⟩ : ∃ M, t.list.length = M := ⟨_, rfl⟩
  obtain ⟨N, eN⟩ : ∃ N, t.bytes.length = N := ⟨_, rfl⟩
  obtain ⟨a, ea⟩ : ∃ a, t.tag = a := ⟨_, rfl⟩
  rw [eM] at hll
  rw [eM, eN, ea]
  rw [ea] at hta eRES
  have hl0 : t.list = [] ↔ M = 0 := by rw [← eM, List.length_eq_zero_iff]
  have hn0 : t.bytes = [] ↔ N = 0 := by rw [← eN, List.length_eq_zero_iff]
  by_cases h31 : a % 32 = 31
  · have d31 : ((a : Int) % 32 == 31) = true := by rw [beq_iff_eq]; omega
    have hR : RES = 60 := by rw [← eRES, if_pos (.inl h31)]
    have HR := Lib.hid hR
    clear eRES h31 hR hL hB hbt hl0 hn0 eM eN ea hJ ih eD
    go_enter Try.func27, Try.ntmps27
    go_wp2
    go_ret
    exact ⟨by rw [HR.out]; rfl, HB0.out _⟩
  have d31 : ((a : Int) % 32 == 31) = false := by rw [beq_eq_false_iff_ne]; omega
  by_cases hbad : (a / 32 % 2 = 0 ∧ 0 < M) ∨ (a / 32 % 2 = 1 ∧ 0 < N)
  · have hR : RES = 60 := by
      rw [← eRES, if_pos]
      rcases hbad with ⟨h1, h2⟩ | ⟨h1, h2⟩
      · exact .inr (.inl ⟨h1, fun e => by have := hl0.1 e; omega⟩)
      · exact .inr (.inr ⟨h1, fun e => by have := hn0.1 e; omega⟩)
    have HR := Lib.hid hR
    have hcase : (((a : Int) / 32 % 2 == 1) = false ∧ 0 < M) ∨ (((a : Int) / 32 % 2 == 1) = true ∧ 0 < N) := by
      rcases hbad with ⟨h1, h2⟩ | ⟨h1, h2⟩
      · exact .inl ⟨by rw [beq_eq_false_iff_ne]; omega, h2⟩
      · exact .inr ⟨by rw [beq_iff_eq]; omega, h2⟩
    clear eRES h31 hR hL hB hbt hl0 hn0 eM eN ea hJ ih eD hbad
    rcases hcase with ⟨d1, d2⟩ | ⟨d1, d2⟩
    · have d3 : decide ((0 : Int) < (M : Int)) = true := decide_eq_true (by omega)
      go_enter Try.func27, Try.ntmps27
      go_wp2
      go_ret
      exact ⟨by rw [HR.out]; rfl, HB0.out _⟩
    · have d3 : decide ((0 : Int) < (N : Int)) = true := decide_eq_true (by omega)
      go_enter Try.func27, Try.ntmps27
      go_wp2
      go_ret
      exact ⟨by rw [HR.out]; rfl, HB0.out _⟩
  rw [if_neg (by
    rintro (h | ⟨h1, h2⟩ | ⟨h1, h2⟩)
    · exact h31 h
    · exact hbad (.inl ⟨h1, by have : ¬ M = 0 := fun e => h2 (hl0.2 e); omega⟩)
    · exact hbad (.inr ⟨h1, by have : ¬ N = 0 := fun e => h2 (hn0.2 e); omega⟩))] at eRES
  by_cases hdeep : a / 32 % 2 = 1 ∧ lv = 0
  · obtain ⟨h1, rfl⟩ := hdeep
    have hR : RES = 61 := by rw [← eRES, if_neg (by omega)]
    have HR := Lib.hid hR
    have hN0 : N = 0 := Classical.byContradiction fun h => hbad (.inr ⟨h1, by omega⟩)
    have d1 : ((a : Int) / 32 % 2 == 1) = true := by rw [beq_iff_eq]; omega
    have d2 : (D == 16) = true := by rw [beq_iff_eq]; omega
    subst hN0
    clear eRES h31 hR hL hB hbt hl0 hn0 eM eN ea hJ ih eD hbad h1
    go_enter Try.func27, Try.ntmps27
    go_wp2
    go_ret
    exact ⟨by rw [HR.out]; rfl, HB0.out _⟩
  -- the loop
  obtain ⟨f, hf, hcall⟩ : ∃ f : Bq.T → Nat, RES = Bq.first f t.list ∧ (∀ (ok : Nat → Prop) (v : Value) (x : Bq.T) (w : World), x ∈ t.list → IsT w ok v x → Calls Try.prog 27 #[v, .int .i64 (D + 1)] w fun e w' => e = .returned (.int .i64 (f x : Nat)) ∧ Below w.heap.size w w') := by
    by_cases h1 : a / 32 % 2 = 0
    · have hl : t.list = [] := Classical.byContradiction fun h => hbad (.inl ⟨h1, by have : ¬ M = 0 := fun e => h (hl0.2 e); omega⟩)
      refine ⟨fun _ => 0, ?_, fun ok v x w hx => ?_⟩
      · rw [← eRES, if_pos h1, hl]; rfl
      · rw [hl] at hx; cases hx
    · cases lv with
      | zero => exact absurd ⟨by omega, rfl⟩ hdeep
      | succ m =>
        refine ⟨Bq.amiss m, ?_, fun ok v x w _ h => ?_⟩
        · rw [← eRES, if_neg h1]
        · have := ih m rfl ok v x w h
          rw [show ((16 - m : Nat) : Int) = D + 1 from by omega] at this
          exact this
  have hcase : (((a : Int) / 32 % 2 == 1) = false ∧ M = 0 ∧ ¬ 0 < M) ∨ (((a : Int) / 32 % 2 == 1) = true ∧ N = 0 ∧ (D == 16) = false) := by
    by_cases h1 : a / 32 % 2 = 0
    · have h2 : ¬ 0 < M := fun h => hbad (.inl ⟨h1, h⟩)
      exact .inl ⟨by rw [beq_eq_false_iff_ne]; omega, by omega, h2⟩
    · have h2 : ¬ 0 < N := fun h => hbad (.inr ⟨by omega, h⟩)
      have h3 : ¬ lv = 0 := fun h => hdeep ⟨by omega, h⟩
      exact .inr ⟨by rw [beq_iff_eq]; omega, by omega, by rw [beq_eq_false_iff_ne]; omega⟩
  obtain ⟨W0, eW0⟩ : ∃ W0, W0 = w.alloc (.cells #[.int .u8 (a : Int), .slice A9 N c9, .slice A0 M c0] 25) := ⟨_, rfl⟩
  have hb0 : Below w.heap.size w W0 := by rw [eW0]; exact HB0.out _
  have HL0 : Hid (Lies W0 w.heap.size 25 [.int .u8 (a : Int), .slice A9 N c9, .slice A0 M c0]) := by unfold Hid; rw [eW0]; exact Lies.new_ rfl
  have HL := Lib.hid (hL.on hb0)
  have HBW := Lib.hid hb0
  have HM := Lib.hid eM
  have HF := Lib.hid hf
  have HC := Lib.hid hcall
  have HE := Lib.hid eW0
  rw [eM] at HL
  clear eRES h31 hL hB hbt hl0 hn0 eM eN ea hJ ih eD hbad hdeep hf hcall eW0 hb0 HB0 hlv
  rcases hcase with ⟨d1, d2, d4⟩ | ⟨d1, d2, d4⟩
  all_goals
    subst d2
    go_enter Try.func27, Try.ntmps27
    go_wp2_with fail
    go_loopw [6] (fun i wr => ∃ k : Nat, i = .int .i64 k ∧ k ≤ t.list.length ∧ Hid (Bq.first f t.list = Bq.first f (t.list.drop k)) ∧ Below W0.heap.size W0 wr) (fun i _ => t.list.length - (intOf i).toNat)
    case atStart => exact ⟨0, rfl, Nat.zero_le _, Lib.hid rfl, by rw [HE.out]; exact Below.refl _ _⟩
    case round =>
      obtain ⟨k, rfl, hk, he, hb⟩ := hrel
      rw [HM.out] at hk
      obtain ⟨⟨z0, z1, z2⟩, _⟩ := (HL0.out.below hb HL0.out.lt).three
      first
        | (by_cases hlt : k < M
           · obtain ⟨b, off, x, E1, e1, E2, e2, rfl, _, hblt, hx, hJx, s0, s1, s2⟩ := (HL.out.on hb).elem (by rw [HM.out]; exact hlt)
             have hC := HC.out ok _ x wr (List.mem_of_getElem? hx) hJx
             obtain ⟨n1, n2⟩ := first_step (f := f) hx
             have HN1 := Lib.hid n1
             have HN2 := Lib.hid n2
             obtain ⟨F, eF⟩ : ∃ F, f x = F := ⟨_, rfl⟩
             rw [eF] at hC HN1 HN2
             clear hx hJx n1 n2 eF
             go_wp2_with fail
             refine hC.mono ?_
             rintro e w1 ⟨rfl, hb1⟩
             have hb2 := hb.trans (hb1.mono hb.size)
             clear hC hb1
             by_cases h0 : F = 0
             · subst h0
               have HQ : Hid (Bq.first f t.list = Bq.first f (t.list.drop (k + 1))) := by unfold Hid; rw [he.out]; exact HN2.out rfl
               go_wp2
               go_roundw
               case rel => exact ⟨k + 1, by go_num, by rw [HM.out]; omega, HQ, hb2⟩
               case measure => simp [intOf]; have := HM.out; omega
             · have hd : ((F : Int) != 0) = true := by rw [bne_iff_ne]; omega
               have HQ : Hid (RES = F) := by unfold Hid; rw [HF.out, he.out]; exact HN1.out h0
               clear h0
               go_wp2
               go_ret
               exact ⟨by rw [HQ.out]; rfl, below_more HBW.out hb2⟩
           · obtain rfl : k = M := by omega
             have hd3 : decide ((k : Int) < (k : Int)) = false := by simp
             have HQ : Hid (RES = 0) := by unfold Hid; rw [HF.out, he.out, List.drop_eq_nil_of_le (by rw [HM.out]; exact Nat.le_refl _)]; rfl
             go_wp2
             go_ret
             exact ⟨by rw [HQ.out]; rfl, below_more HBW.out hb⟩)
        | (obtain rfl : k = 0 := by omega
           have HQ : Hid (RES = 0) := by unfold Hid; rw [HF.out, he.out, List.drop_eq_nil_of_le (by rw [HM.out]; exact Nat.le_refl _)]; rfl
           go_wp2
           go_ret
           exact ⟨by rw [HQ.out]; rfl, below_more HBW.out hb⟩)
theorem refAmiss_all : ∀ lv, lv ≤ 16 → AmissOk lv
  | 0, h => refAmiss_step 0 h fun m e => by omega
  | n + 1, h => refAmiss_step (n + 1) h fun m e => by
    have : n = m := by omega
    subst this
    exact refAmiss_all n (by omega)
end Go.Proofs.Ytcpfkhodailbfaa
