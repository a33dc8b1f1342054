/-
  The document's Print: node, at every depth.
-/
import Derived.Test.YthhlmalpelgpeaaGreatDoorZZNi
import Derived.Test.YthhlmalpelgpeaaGreatDoorZZNs
import Derived.Test.YthhlmalpelgpeaaGreatDoorZZNh
import Derived.Test.YthhlmalpelgpeaaGreatDoorZZNg
namespace Go.Proofs.YthhlmalpelgpeaaGreatDoor
open Go.RowKit

theorem called_apart {op : Int} (h : Zq.called op ≠ []) : Zq.between op = [] := by
  unfold Zq.called at h
  by_cases h6 : op = 6
  · subst h6; decide
  by_cases h7 : op = 7
  · subst h7; decide
  by_cases h8 : op = 8
  · subst h8; decide
  by_cases h9 : op = 9
  · subst h9; decide
  by_cases h17 : op = 17
  · subst h17; decide
  rw [if_neg h6, if_neg h7, if_neg h8, if_neg h9, if_neg h17] at h
  exact absurd rfl h
theorem ahead_yes {i : Nat} {x : Int} (h : (decide (0 ≤ x) && decide (x < (i : Int))) = true) : ∃ a : Nat, x = (a : Int) ∧ a < i ∧ Zq.ahead i x = some a := by
  simp only [Bool.and_eq_true, decide_eq_true_eq] at h
  exact ⟨x.toNat, by omega, by omega, by unfold Zq.ahead; rw [if_pos h]⟩
theorem ahead_no {i : Nat} {x : Int} (h : (decide (0 ≤ x) && decide (x < (i : Int))) = false) : Zq.ahead i x = none := by
  unfold Zq.ahead
  rw [if_neg]
  intro g
  rw [decide_eq_true g.1, decide_eq_true g.2] at h
  cases h
theorem betw_some {op : Int} (h : Zq.between op ≠ []) : betw op = 32 :: Zq.between op ++ [32] := by unfold betw; rw [if_neg h]
theorem decimal_lt (n : Int) : ∀ x ∈ Jq.decimal n, x < 256 := by
  intro x hx
  unfold Jq.decimal at hx
  split at hx
  · rcases List.mem_cons.1 hx with rfl | h
    · decide
    · exact digits_byte _ x h
  · exact digits_byte _ x hx
set_option maxHeartbeats 1000000 in
theorem node_all {l : List Zq.Nd} (hl : NumOk l) : ∀ d : Nat, d ≤ 64 → NodeD l d
  | 0, _ => by
    intro ok i q A A2 c n c2 m w hi hq hn hN hm
    rw [show (64 : Int) - ((0 : Nat) : Int) = 64 from rfl]
    by_cases h4 : n ≤ 4096
    · exact (node_deep i q A c n _ w h4 hq hn).mono fun e w' h => h.same (by rw [Zq.node])
    · exact node_stop i 64 q A c n _ w (by omega) hq hn
  | d + 1, hd => by
    have hnd := node_all hl d (by omega)
    intro ok i q A A2 c n c2 m w hi hq hn hN hm
    by_cases h4 : 4096 < n
    · exact node_stop i _ q A c n _ w h4 hq hn
    have h4' : n ≤ 4096 := by omega
    obtain ⟨⟨op, xi, xa, xb, xt⟩, hx⟩ : ∃ x, l[i]? = some x := ⟨l[i]'(by omega), List.getElem?_eq_getElem _⟩
    have hlx := hl _ (List.mem_of_getElem? hx)
    have hD : 0 ≤ 64 - ((d + 1 : Nat) : Int) ∧ 64 - ((d + 1 : Nat) : Int) ≤ 63 := by omega
    have hDd : 64 - ((d + 1 : Nat) : Int) + 1 = 64 - (d : Int) := by omega
    generalize hDD : 64 - ((d + 1 : Nat) : Int) = D at hD hDd ⊢
    by_cases h1 : op = 1
    · subst h1
      exact (node_text i xi xa xb xt D q A A2 c n c2 m w hx hD h4' hq hn hN hm).mono fun e w' h => h.same (by rw [Zq.node, hx]; dsimp only; rw [if_pos rfl])
    by_cases h2 : op = 2
    · subst h2
      exact (node_int i xi xa xb xt D q A A2 c n c2 m w hx hD h4' hq hn hN hm hlx (decimal_lt _)).mono fun e w' h => h.same (by rw [Zq.node, hx]; dsimp only; rw [if_neg h1, if_pos rfl])
    by_cases h3 : op = 3
    · subst h3
      exact (node_claim i xi xa xb xt D q A A2 c n c2 m w hx hD h4' hq hn hN hm).mono fun e w' h => h.same (by rw [Zq.node, hx]; dsimp only; rw [if_neg h1, if_neg h2, if_pos rfl])
    by_cases h44 : op = 4
    · subst h44
      exact (node_has i xi xa xb xt D q A A2 c n c2 m w hx hD h4' hq hn hN hm).mono fun e w' h => h.same (by rw [Zq.node, hx]; dsimp only; rw [if_neg h1, if_neg h2, if_neg h3, if_pos rfl])
    have hop : op ≠ 1 ∧ op ≠ 2 ∧ op ≠ 3 ∧ op ≠ 4 := ⟨h1, h2, h3, h44⟩
    obtain ⟨KA, hKA⟩ : ∃ KA, (decide (0 ≤ xa) && decide (xa < (i : Int))) = KA := ⟨_, rfl⟩
    obtain ⟨KB, hKB⟩ : ∃ KB, (decide (0 ≤ xb) && decide (xb < (i : Int))) = KB := ⟨_, rfl⟩
    have shut := fun (h : Shut op KA KB) => node_shut i op xi xa xb xt D q A A2 c n c2 m w hx hD h4' hq hn hN hm KA KB hKA hKB hop h
    have hsome : ∀ {x : Int} {K : Bool}, (decide (0 ≤ x) && decide (x < (i : Int))) = K → K = true → ∃ a : Nat, x = (a : Int) ∧ a < i ∧ Zq.ahead i x = some a := fun h e => ahead_yes (h.trans e)
    have hnone : ∀ {x : Int} {K : Bool}, (decide (0 ≤ x) && decide (x < (i : Int))) = K → K = false → Zq.ahead i x = none := fun h e => ahead_no (h.trans e)
    by_cases h13 : op = 13
    · subst h13
      by_cases hk : KA = true
      · obtain ⟨a, e1, e2, e3⟩ := hsome hKA hk
        subst hk
        exact (node_not i xi xa xb xt D q A A2 c n c2 m w hx hD h4' hq hn hN hm KB hKA hKB hnd a e1 e2 hDd).mono fun e w' h => h.same (by rw [Zq.node, hx]; dsimp only; rw [if_neg h1, if_neg h2, if_neg h3, if_neg h44, if_pos rfl, e3]; rfl)
      · have hk' : KA = false := by simpa using hk
        have e3 := hnone hKA hk'
        exact (shut (.inl ⟨rfl, hk'⟩)).mono fun e w' h => h.same (by rw [Zq.node, hx]; dsimp only; rw [if_neg h1, if_neg h2, if_neg h3, if_neg h44, if_pos rfl, e3])
    by_cases h17 : op = 17
    · subst h17
      by_cases hk : (KA && KB) = true
      · obtain ⟨ka, kb⟩ : KA = true ∧ KB = true := by simpa using hk
        obtain ⟨a, e1, e2, e3⟩ := hsome hKA ka
        obtain ⟨b2, f1, f2, f3⟩ := hsome hKB kb
        subst ka kb
        exact (node_starts i xi xa xb xt D q A A2 c n c2 m w hx hD h4' hq hn hN hm hKA hKB hnd a e1 e2 b2 f1 f2 hDd).mono fun e w' h => h.same (by rw [Zq.node, hx]; dsimp only; rw [if_neg h1, if_neg h2, if_neg h3, if_neg h44, if_neg h13, if_pos rfl, e3, f3])
      · have hk' : (KA && KB) = false := by simpa using hk
        refine (shut (.inr (.inl ⟨rfl, hk'⟩))).mono fun e w' h => h.same ?_
        rw [Zq.node, hx]; dsimp only; rw [if_neg h1, if_neg h2, if_neg h3, if_neg h44, if_neg h13, if_pos rfl]
        cases KA with
        | false => rw [hnone hKA rfl]
        | true =>
          have kb : KB = false := by simpa using hk'
          rw [hnone hKB kb]
          cases Zq.ahead i xa <;> rfl
    by_cases hcl : Zq.called op = []
    · by_cases hsg : Zq.between op = []
      · refine (shut (.inr (.inr ⟨⟨h13, h17⟩, .inr ⟨hcl, .inl (by unfold betw; rw [if_pos hsg])⟩⟩))).mono fun e w' h => h.same ?_
        rw [Zq.node, hx]; dsimp only
        rw [if_neg h1, if_neg h2, if_neg h3, if_neg h44, if_neg h13, if_neg h17, if_neg (show ¬ (Zq.called op ≠ []) from fun g => g hcl), if_neg (show ¬ (Zq.between op ≠ []) from fun g => g hsg)]
      · by_cases hk : (KA && KB) = true
        · obtain ⟨ka, kb⟩ : KA = true ∧ KB = true := by simpa using hk
          obtain ⟨a, e1, e2, e3⟩ := hsome hKA ka
          obtain ⟨b2, f1, f2, f3⟩ := hsome hKB kb
          subst ka kb
          have hL : (Zq.binds op = 4 ∧ (if Zq.binds op = 4 then 5 else Zq.binds op) = 5) ∨ (Zq.binds op ≠ 4 ∧ (if Zq.binds op = 4 then 5 else Zq.binds op) = Zq.binds op) := by
            by_cases hb : Zq.binds op = 4
            · exact .inl ⟨hb, if_pos hb⟩
            · exact .inr ⟨hb, if_neg hb⟩
          refine (node_op i op xi xa xb xt D q A A2 c n c2 m w hx hD h4' hq hn hN hm hKA hKB hop hnd a e1 e2 b2 f1 f2 hDd h13 h17 hcl (by rw [betw_some hsg]; simp) _ _ rfl hL).mono fun e w' h => h.same ?_
          rw [betw_some hsg]
          rw [Zq.node, hx]; dsimp only
          rw [if_neg h1, if_neg h2, if_neg h3, if_neg h44, if_neg h13, if_neg h17, if_neg (show ¬ (Zq.called op ≠ []) from fun g => g hcl), if_pos (show Zq.between op ≠ [] from hsg), e3, f3]
          simp [opndP, List.append_assoc]
        · have hk' : (KA && KB) = false := by simpa using hk
          refine (shut (.inr (.inr ⟨⟨h13, h17⟩, .inr ⟨hcl, .inr hk'⟩⟩))).mono fun e w' h => h.same ?_
          rw [Zq.node, hx]; dsimp only
          rw [if_neg h1, if_neg h2, if_neg h3, if_neg h44, if_neg h13, if_neg h17, if_neg (show ¬ (Zq.called op ≠ []) from fun g => g hcl), if_pos (show Zq.between op ≠ [] from hsg)]
          cases KA with
          | false => rw [hnone hKA rfl]
          | true =>
            have kb : KB = false := by simpa using hk'
            rw [hnone hKB kb]
            cases Zq.ahead i xa <;> rfl
    · have hsg := called_apart hcl
      by_cases hk : KA = true
      · obtain ⟨a, e1, e2, e3⟩ := hsome hKA hk
        subst hk
        refine (node_fn i op xi xa xb xt D q A A2 c n c2 m w hx hD h4' hq hn hN hm KB hKA hKB hop hnd a e1 e2 hDd h13 h17 hcl).mono fun e w' h => h.same ?_
        rw [Zq.node, hx]; dsimp only
        rw [if_neg h1, if_neg h2, if_neg h3, if_neg h44, if_neg h13, if_neg h17, if_pos hcl, e3]
      · have hk' : KA = false := by simpa using hk
        refine (shut (.inr (.inr ⟨⟨h13, h17⟩, .inl ⟨hcl, by unfold betw; rw [if_pos hsg], hk'⟩⟩))).mono fun e w' h => h.same ?_
        rw [Zq.node, hx]; dsimp only
        rw [if_neg h1, if_neg h2, if_neg h3, if_neg h44, if_neg h13, if_neg h17, if_pos hcl, hnone hKA hk']
theorem node_top {l : List Zq.Nd} (hl : NumOk l) {ok : Nat → Prop} (i : Nat) (q : List Nat) (A A2 : Option Addr) (c n c2 m : Nat) (w : World) (hi : i < m) (hq : ArgIs w A c q) (hn : q.length = n) (hN : NsE w ok (.slice A2 m c2) l) (hm : l.length = m) :
    Calls Tryz.prog 28 #[.slice A n c, .slice A2 m c2, .int .i64 (i : Int), .int .i64 0] w (BsEnd q (Zq.node l 64 i) w) := node_all hl 64 (Nat.le_refl _) ok i q A A2 c n c2 m w hi hq hn hN hm
end Go.Proofs.YthhlmalpelgpeaaGreatDoor
