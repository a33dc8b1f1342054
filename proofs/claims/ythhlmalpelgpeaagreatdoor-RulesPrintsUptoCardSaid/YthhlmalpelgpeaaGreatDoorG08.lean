/-
  G08: ZRl, side by side.
-/
import Derived.Test.YthhlmalpelgpeaaGreatDoorG07
import Derived.OwnWalk

/-
  The reader of rules: all of them.
-/
namespace Go.Proofs.YthhlmalpelgpeaaGreatDoor
open Go.RowKit

/-! Rules in memory, in a row of the call's own. -/
abbrev rcell (u : List Nat × Value × Value) : List Value := [.string (strOf u.1), u.2.1, u.2.2]
def rcells3 (us : List (List Nat × Value × Value)) : List Value := us.flatMap rcell
theorem rcells3_append (a b : List (List Nat × Value × Value)) : rcells3 (a ++ b) = rcells3 a ++ rcells3 b := by simp [rcells3]
set_option maxRecDepth 100000 in
theorem infoRule : (Tryz.prog.info? 35).map (fun i => (i.zero, i.size, i.bytes)) = some (some (.agg #[.string ByteArray.empty, .slice none 0 0, .slice none 0 0]), 3, 64) := by kernel_rfl
/-- Nodes in memory, in a block of which ok speaks and that is not the reader's. -/
def NsP (w : World) (R S : Nat) (ok : Nat → Prop) (v : Value) (ns : List Zq.Nd) : Prop :=
  ∃ A c, v = .slice A ns.length c ∧ ns.length ≤ c ∧ c ≤ 9223372036854775807 ∧ (0 < ns.length → ∃ b, A = some ⟨b, 0, none⟩ ∧ ok b ∧ b < w.heap.size ∧ b ≠ R ∧ b ≠ S ∧ ∀ j x, (ncells ns)[j]? = some x → w.cell? ⟨b, j, none⟩ = some x)
theorem NdsIs.toP {w : World} {R S B : Nat} {v : Value} {ns : List Zq.Nd} (h : NdsIs w R S B v ns) : NsP w R S (B ≤ ·) v ns := h
theorem NsP.keep {w w' : World} {R S : Nat} {ok ok' : Nat → Prop} {v : Value} {ns : List Zq.Nd} (h : NsP w R S ok v ns) (hs : w.heap.size ≤ w'.heap.size) (hk : ∀ b, ok b → b < w.heap.size → b ≠ R → b ≠ S → ok' b ∧ w'.heap[b]? = w.heap[b]?) : NsP w' R S ok' v ns := by
  obtain ⟨A, c, rfl, h1, h2, h3⟩ := h
  refine ⟨A, c, rfl, h1, h2, fun h => ?_⟩
  obtain ⟨b, rfl, k1, k2, k3, k4, k5⟩ := h3 h
  obtain ⟨g1, g2⟩ := hk b k1 k2 k3 k4
  exact ⟨b, rfl, g1, Nat.lt_of_lt_of_le k2 hs, k3, k4, fun j x e => (World.cell?_of_block (a := ⟨b, j, none⟩) g2).trans (k5 j x e)⟩
/-- A rule in memory: its name, its two rows of nodes. -/
def RlP (w : World) (R S : Nat) (ok : Nat → Prop) (u : List Nat × Value × Value) (r : Zq.Rl) : Prop :=
  u.1 = r.name ∧ NsP w R S ok u.2.1 r.expr ∧ NsP w R S ok u.2.2 r.cond ∧ r.expr.length ≤ 48 ∧ r.cond.length ≤ 48
theorem RlP.keep {w w' : World} {R S : Nat} {ok ok' : Nat → Prop} {u : List Nat × Value × Value} {r : Zq.Rl} (h : RlP w R S ok u r) (hs : w.heap.size ≤ w'.heap.size) (hk : ∀ b, ok b → b < w.heap.size → b ≠ R → b ≠ S → ok' b ∧ w'.heap[b]? = w.heap[b]?) : RlP w' R S ok' u r := by
  obtain ⟨h1, h2, h3, h4⟩ := h
  exact ⟨h1, h2.keep hs hk, h3.keep hs hk, h4⟩
/-- A row of the call's own, laid from B on: its rules, whose nodes lie from B on too, not in the row's own block. -/
def RowR (R S B : Nat) (rs : List Zq.Rl) (lv : Value) (w : World) : Prop :=
  B ≤ w.heap.size ∧ ∃ us : List (List Nat × Value × Value), us.length = rs.length ∧ w.ownsRow B 35 3 lv rs.length (rcells3 us) ∧
    ∀ (i : Nat) u r, us[i]? = some u → rs[i]? = some r → RlP w R S (fun b => B ≤ b ∧ lv.ownBlock ≠ some b) u r
section
variable {R S B C : Nat} {rs : List Zq.Rl} {lv : Value} {w w' : World}
theorem RowR.nil (h : B ≤ w.heap.size) : RowR R S B [] (.slice none 0 0) w := ⟨h, [], rfl, World.ownsRow_nil _ _ _ _, fun i u r e => by simp at e⟩
theorem own_fr {base : Nat} {e : TypeId} {size n : Nat} {v : Value} {xs : List Value} (h : w.ownsRow base e size v n xs) (hf : Fr w R S w') (hR : R < base) (hS : S < base) : w'.ownsRow base e size v n xs := by
  refine ⟨h.1, ?_⟩
  rcases h.2 with hn | ⟨g, cap, cur, e1, e2, e3, e4⟩
  · exact .inl hn
  · exact .inr ⟨g, cap, cur, e1, e2, (hf.block g (Array.getElem?_eq_some_iff.1 e3).1 (by omega) (by omega)).trans e3, e4⟩
theorem RowR.fr (h : RowR R S B rs lv w) (hf : Fr w R S w') (hR : R < B) (hS : S < B) : RowR R S B rs lv w' := by
  obtain ⟨h1, us, h2, h3, h4⟩ := h
  exact ⟨Nat.le_trans h1 hf.size, us, h2, own_fr h3 hf hR hS, fun i u r e1 e2 => (h4 i u r e1 e2).keep hf.size (fun b hb k1 k2 k3 => ⟨hb, hf.block b k1 k2 k3⟩)⟩
theorem RowR.more (h : RowR R S B rs lv w) (hb : Below w.heap.size w w') : RowR R S B rs lv w' := by
  obtain ⟨h1, us, h2, h3, h4⟩ := h
  exact ⟨Nat.le_trans h1 hb.size, us, h2, own_below h3 hb, fun i u r e1 e2 => (h4 i u r e1 e2).keep hb.size (fun b hk k1 _ _ => ⟨hk, hb.block b k1⟩)⟩
theorem RowR.form (h : RowR R S B rs lv w) : ∃ A c, lv = .slice A rs.length c := by
  obtain ⟨_, _, _, h3, _⟩ := h
  exact own_slice h3
theorem RowR.lt (h : RowR R S B rs lv w) : ∀ b, lv.ownBlock = some b → B ≤ b ∧ b < w.heap.size := by
  obtain ⟨_, _, _, h3, _⟩ := h
  exact fun b e => h3.lt b e
/-- A rule more. -/
theorem rowR_more {w1 w2 : World} {lv' ev wv : Value} {r : Zq.Rl} {us : List (List Nat × Value × Value)} (hB : B ≤ w1.heap.size) (hus : us.length = rs.length)
    (hel : ∀ (i : Nat) u r, us[i]? = some u → rs[i]? = some r → RlP w1 R S (fun b => B ≤ b ∧ lv.ownBlock ≠ some b) u r)
    (hC : B ≤ C) (hlv : ∀ b, lv.ownBlock = some b → b < C) (hr : RlP w1 R S (C ≤ ·) (r.name, ev, wv) r)
    (ho2 : w2.ownsRow B 35 3 lv' (rs.length + 1) (rcells3 us ++ rcell (r.name, ev, wv))) (hgr : w1.grownBy w2 lv.ownBlock) (hat : lv'.ownBlock = lv.ownBlock ∨ lv'.ownBlock = some w1.heap.size) :
    RowR R S B (rs ++ [r]) lv' w2 := by
  refine ⟨Nat.le_trans hB hgr.size, us ++ [(r.name, ev, wv)], by simp [hus], by rw [rcells3_append]; simpa [rcells3] using ho2, ?_⟩
  have hnew : ∀ b, b < w1.heap.size → lv.ownBlock ≠ some b → lv'.ownBlock ≠ some b := fun b h1 h2 e => by
    rcases hat with hat | hat
    · exact h2 (hat.symm.trans e)
    · rw [hat] at e
      injection e with e
      omega
  intro i u x hu hx
  by_cases hi : i < rs.length
  · rw [List.getElem?_append_left (by omega)] at hu hx
    exact (hel i u x hu hx).keep hgr.size (fun b hb k1 _ _ => ⟨⟨hb.1, hnew b k1 hb.2⟩, hgr.block b k1 (fun e => hb.2 e.symm)⟩)
  · rw [List.getElem?_append_right (by omega)] at hu hx
    have hi0 : i - rs.length = 0 := by
      have := (List.getElem?_eq_some_iff.1 hx).1
      simp at this; omega
    rw [hi0] at hx
    rw [hus, hi0] at hu
    simp at hu hx
    subst hu hx
    refine hr.keep hgr.size (fun b hb k1 _ _ => ?_)
    have hb' : C ≤ b := hb
    have hne : lv.ownBlock ≠ some b := fun e => by have := hlv b e; omega
    exact ⟨⟨Nat.le_trans hC hb', hnew b k1 hne⟩, hgr.block b k1 (fun e => hne e.symm)⟩
end
section
variable {W0 w w' : World} {R S B : Nat} {l : List Nat} {o : Option Nat}
theorem Ro.grown (h : Ro W0 R S B l w) (hg : w.grownBy w' o) (ho : ∀ g, o = some g → g < B ∧ W0.heap.size ≤ g ∧ g ≠ R ∧ g ≠ S ∧ g < w.heap.size) : Ro W0 R S B l w' := by
  cases o with
  | none => exact h.more ⟨hg.os, hg.tape, hg.output, hg.size, fun k hk => hg.block k hk (by simp)⟩
  | some g =>
    obtain ⟨k1, k2, k3, k4, k5⟩ := ho g rfl
    exact h.rewrite hg k1 k2 k3 k4 k5
theorem Rb.grown (h : Rb W0 R S B w) (hg : w.grownBy w' o) (ho : ∀ g, o = some g → g < B ∧ W0.heap.size ≤ g ∧ g ≠ R ∧ g ≠ S ∧ g < w.heap.size) : Rb W0 R S B w' := by
  cases o with
  | none => exact h.more ⟨hg.os, hg.tape, hg.output, hg.size, fun k hk => hg.block k hk (by simp)⟩
  | some g =>
    obtain ⟨k1, k2, k3, k4, k5⟩ := ho g rfl
    exact h.rewrite hg k1 k2 k3 k4 k5
end
/-- How rules ends: B is where the world ended ahead of it. -/
def RulesEnd (W0 : World) (R S B : Nat) (res : Except Nat (List Zq.Rl)) (e : Ending) (w' : World) : Prop :=
  (∃ rs lv q, res = .ok rs ∧ e = .returned lv ∧ RowR R S B rs lv w' ∧ rs.length ≤ 16 ∧ Ro W0 R S 0 q w') ∨ ((∃ er, res = .error er) ∧ (∃ A n c, e = .returned (.slice A n c)) ∧ Rb W0 R S 0 w')
theorem over_some {l q : List Nat} {x : Zq.Tok} (h : Zq.next l = some (x, q)) : Zq.overP l = .ok (decide (x = .fin)) := by
  unfold Zq.overP
  simp only [h]
theorem over_none {l : List Nat} (h : Zq.next l = none) : Zq.overP l = .error 111 := by
  unfold Zq.overP
  simp only [h]
theorem fin_iff {l q : List Nat} {x : Zq.Tok} (h : Zq.next l = some (x, q)) : x = .fin ↔ Zq.kOf x = 2 := by
  constructor
  · rintro rfl; rfl
  · intro hk
    rcases Zq.next_form h with rfl | ⟨t, rfl⟩ | ⟨n, rfl, _⟩ | ⟨t, rfl, rfl | ⟨c, hc, rfl⟩⟩ | ⟨c, r, rfl, hc, _⟩
    · rfl
    · rw [Zq.kOf_text] at hk; cases hk
    · rw [Zq.kOf_num] at hk; cases hk
    · exact absurd hk (by decide)
    · exact absurd hk (by
        have : ∀ c ∈ Zq.signs, Zq.kOf (.sign [c]) ≠ 2 := by decide
        exact this c hc)
    · have := Zq.kOf_word (r := r) hc; omega
/-- All rules, step by step. -/
theorem rules_step (n : Nat) (rs : List Zq.Rl) (l : List Nat) : Zq.rulesP (n + 1) rs l = match Zq.overP l with
    | .error e => .error e
    | .ok true => .ok rs
    | .ok false => match Zq.ruleP rs.length l with
      | .error e => .error e
      | .ok (r, l2) => match Zq.overP l2 with
        | .error e => .error e
        | .ok true => .ok (rs ++ [r])
        | .ok false => match Zq.past [59] l2 with
          | .error e => .error e
          | .ok l3 => Zq.rulesP n (rs ++ [r]) l3 := rfl
end Go.Proofs.YthhlmalpelgpeaaGreatDoor
