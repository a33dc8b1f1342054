/-
  G06: ZF, side by side.
-/
import Derived.Test.YthhlmalpelgpeaaGreatDoorG23

/-
  The reader of rules: an expression, a rule, all rules.
-/
namespace Go.Proofs.YthhlmalpelgpeaaGreatDoor
open Go.RowKit

/-! A reader between expressions: its context is any, of which the expression's world is at least so great. -/
def Ro (W0 : World) (R S B : Nat) (l : List Nat) (w : World) : Prop := ∃ W ns, W.w0 = W0 ∧ (∀ b, W.pr b = none) ∧ B ≤ W.w.heap.size ∧ Rok W R S l 0 ns w
def Ra (W0 : World) (R S B : Nat) (x : Zq.Tok) (q : List Nat) (w : World) : Prop := ∃ W ns, W.w0 = W0 ∧ (∀ b, W.pr b = none) ∧ B ≤ W.w.heap.size ∧ Rex W R S x q 0 ns w
def Rb (W0 : World) (R S B : Nat) (w : World) : Prop := ∃ W m, W.w0 = W0 ∧ (∀ b, W.pr b = none) ∧ B ≤ W.w.heap.size ∧ m ≤ 300 ∧ Rf W R S m w
section
variable {W0 w w' : World} {R S B C g : Nat} {l q : List Nat} {x : Zq.Tok}
theorem Ro.down (h : Ro W0 R S B l w) (hC : C ≤ B) : Ro W0 R S C l w := by
  obtain ⟨W, ns, h1, h2, h3, h4⟩ := h
  exact ⟨W, ns, h1, h2, Nat.le_trans hC h3, h4⟩
theorem Rb.down (h : Rb W0 R S B w) (hC : C ≤ B) : Rb W0 R S C w := by
  obtain ⟨W, m, h1, h2, h3, h4⟩ := h
  exact ⟨W, m, h1, h2, Nat.le_trans hC h3, h4⟩
theorem Ra.ok (h : Ra W0 R S B x q w) (hx : Zq.next l = some (x, q)) : Ro W0 R S B l w := by
  obtain ⟨W, ns, h1, h2, h3, h4⟩ := h
  exact ⟨W, ns, h1, h2, h3, h4.ok hx⟩
theorem Ro.more (h : Ro W0 R S B l w) (hb : Below w.heap.size w w') : Ro W0 R S B l w' := by
  obtain ⟨W, ns, h1, h2, h3, h4⟩ := h
  exact ⟨W, ns, h1, h2, h3, h4.more hb⟩
theorem Ra.more (h : Ra W0 R S B x q w) (hb : Below w.heap.size w w') : Ra W0 R S B x q w' := by
  obtain ⟨W, ns, h1, h2, h3, h4⟩ := h
  exact ⟨W, ns, h1, h2, h3, h4.more hb⟩
theorem Rb.more (h : Rb W0 R S B w) (hb : Below w.heap.size w w') : Rb W0 R S B w' := by
  obtain ⟨W, m, h1, h2, h3, h4, h5⟩ := h
  exact ⟨W, m, h1, h2, h3, h4, h5.more hb⟩
/-- The context, one block of it being another one. -/
def Cx.put (W : Cx) (g : Nat) (o : Obj) : Cx := ⟨W.w0, { W.w with heap := W.w.heap.setIfInBounds g o }, W.pr⟩
theorem Rd0.rewrite {W : Cx} {k n d f : Int} {t s : ByteArray} {nv : Value} {ns : List Zq.Nd} (h : Rd0 W R S k t n nv d f s ns w) (hpr : ∀ b, W.pr b = none) (hg : w.grownBy w' (some g)) (hW : g < W.w.heap.size) (h0 : W.w0.heap.size ≤ g) (hR : g ≠ R) (hS : g ≠ S) {o : Obj} (ho : w'.heap[g]? = some o) : Rd0 (W.put g o) R S k t n nv d f s ns w' := by
  have hsz : (W.put g o).w.heap.size = W.w.heap.size := by simp [Cx.put]
  refine ⟨⟨h.held.1, h.held.2.1.grown hg h.held.2.1.size (fun b e => by injection e with e; subst e; exact h0), h.held.2.2⟩, h.lies.grown hg (fun e => hR (by injection e with e; exact e.symm)), h.text.grown hg (fun e => hS (by injection e with e; exact e.symm)), h.ne, by rw [hsz]; exact h.ltR, by rw [hsz]; exact h.ltS, ?_, ?_, h.small, fun b o' e => by have := hpr b; simp [Cx.put, this] at e⟩
  · refine ⟨hg.os.trans h.fr.os, hg.tape.trans h.fr.tape, hg.output.trans h.fr.output, by rw [hsz]; exact Nat.le_trans h.fr.size hg.size, fun b hb h1 h2 => ?_⟩
    rw [hsz] at hb
    by_cases hbg : b = g
    · subst hbg
      rw [ho]
      simp [Cx.put, hW]
    · rw [hg.block b (Nat.lt_of_lt_of_le hb h.fr.size) (fun e => hbg (by injection e)), h.fr.block b hb h1 h2]
      simp [Cx.put, Ne.symm hbg]
  · rw [hsz]
    refine ⟨h.own.1, ?_⟩
    rcases h.own.2 with hn | ⟨b, cap, cur, e1, e2, e3, e4⟩
    · exact .inl hn
    · exact .inr ⟨b, cap, cur, e1, e2, (hg.block b (Array.getElem?_eq_some_iff.1 e3).1 (fun e => by injection e with e; omega)).trans e3, e4⟩
theorem Ro.rewrite (h : Ro W0 R S B l w) (hg : w.grownBy w' (some g)) (hB : g < B) (h0 : W0.heap.size ≤ g) (hR : g ≠ R) (hS : g ≠ S) (hlt : g < w.heap.size) : Ro W0 R S B l w' := by
  obtain ⟨W, ns, rfl, h2, h3, k, t, n, nv, s, e1, e2, e3, h4⟩ := h
  obtain ⟨o, ho⟩ : ∃ o, w'.heap[g]? = some o := ⟨_, Array.getElem?_eq_getElem (Nat.lt_of_lt_of_le hlt hg.size)⟩
  exact ⟨W.put g o, ns, rfl, h2, by simpa [Cx.put] using h3, k, t, n, nv, s, e1, e2, e3, h4.rewrite h2 hg (by omega) h0 hR hS ho⟩
theorem Rb.rewrite (h : Rb W0 R S B w) (hg : w.grownBy w' (some g)) (hB : g < B) (h0 : W0.heap.size ≤ g) (hR : g ≠ R) (hS : g ≠ S) (hlt : g < w.heap.size) : Rb W0 R S B w' := by
  obtain ⟨W, m, rfl, h2, h3, h5, k, t, n, nv, d, f, s, ns, e1, e2, h4⟩ := h
  obtain ⟨o, ho⟩ : ∃ o, w'.heap[g]? = some o := ⟨_, Array.getElem?_eq_getElem (Nat.lt_of_lt_of_le hlt hg.size)⟩
  exact ⟨W.put g o, m, rfl, h2, by simpa [Cx.put] using h3, h5, k, t, n, nv, d, f, s, ns, e1, e2, h4.rewrite h2 hg (by omega) h0 hR hS ho⟩
theorem Ro.lt (h : Ro W0 R S B l w) : R < w.heap.size ∧ S < w.heap.size ∧ W0.heap.size ≤ R ∧ W0.heap.size ≤ S ∧ W0.heap.size ≤ w.heap.size := by
  obtain ⟨W, ns, rfl, h2, h3, k, t, n, nv, s, e1, e2, e3, h4⟩ := h
  exact ⟨h4.lies.lt, h4.text.lt, h4.held.2.2.1, h4.held.2.2.2, h4.held.2.1.size⟩
theorem Rb.lt (h : Rb W0 R S B w) : R < w.heap.size ∧ S < w.heap.size ∧ W0.heap.size ≤ R ∧ W0.heap.size ≤ S ∧ W0.heap.size ≤ w.heap.size := by
  obtain ⟨W, m, rfl, h2, h3, h5, k, t, n, nv, d, f, s, ns, e1, e2, h4⟩ := h
  exact ⟨h4.lies.lt, h4.text.lt, h4.held.2.2.1, h4.held.2.2.2, h4.held.2.1.size⟩
theorem Ra.lt (h : Ra W0 R S B x q w) : R < w.heap.size ∧ S < w.heap.size ∧ W0.heap.size ≤ R ∧ W0.heap.size ≤ S ∧ W0.heap.size ≤ w.heap.size := by
  obtain ⟨W, ns, rfl, h2, h3, nv, s, e1, e2, e3, h4⟩ := h
  exact ⟨h4.lies.lt, h4.text.lt, h4.held.2.2.1, h4.held.2.2.2, h4.held.2.1.size⟩

/-! The small steps, between expressions. -/
theorem next_ro (hAdv : AdvOk) (h : Ro W0 R S B l w) : Calls Tryz.prog 35 #[rp R] w fun e w' => Fr w R S w' ∧ ((∃ x q, Zq.next l = some (x, q) ∧ e = .returned (.int .i64 (Zq.kOf x : Nat)) ∧ Ra W0 R S B x q w') ∨ (Zq.next l = none ∧ e = .returned (.int .i64 1) ∧ Rb W0 R S B w')) := by
  obtain ⟨W, ns, h1, h2, h3, h4⟩ := h
  have h48 := h4.le.2
  refine (next_any hAdv h4).mono fun e w' ⟨k1, k2⟩ => ⟨k1, ?_⟩
  rcases k2 with ⟨x, q, k2, k3, k4⟩ | ⟨k2, k3, k4⟩
  · exact .inl ⟨x, q, k2, k3, W, ns, h1, h2, h3, k4⟩
  · exact .inr ⟨k2, k3, W, _, h1, h2, h3, by omega, k4⟩
theorem next_ra (hx : Zq.next l = some (x, q)) (h : Ra W0 R S B x q w) : Calls Tryz.prog 35 #[rp R] w fun e w' => e = .returned (.int .i64 (Zq.kOf x : Nat)) ∧ w = w' := by
  obtain ⟨W, ns, h1, h2, h3, h4⟩ := h
  exact next_rex hx h4
theorem next_rb (h : Rb W0 R S B w) : Calls Tryz.prog 35 #[rp R] w fun e w' => e = .returned (.int .i64 1) ∧ w = w' := by
  obtain ⟨W, m, h1, h2, h3, h4, h5⟩ := h
  exact next_rf h5
theorem takes_ro (hAdv : AdvOk) (kd : Nat) (hk : 2 ≤ kd) (h : Ro W0 R S B l w) : Calls Tryz.prog 39 #[rp R, .int .i64 (kd : Int)] w fun e w' =>
    Fr w R S w' ∧ ((∃ x q, Zq.next l = some (x, q) ∧ Zq.kOf x = kd ∧ e = .returned (.bool true) ∧ Ro W0 R S B q w') ∨ (∃ x q, Zq.next l = some (x, q) ∧ Zq.kOf x ≠ kd ∧ e = .returned (.bool false) ∧ Ra W0 R S B x q w') ∨ (Zq.next l = none ∧ e = .returned (.bool false) ∧ Rb W0 R S B w')) := by
  obtain ⟨W, ns, h1, h2, h3, h4⟩ := h
  have h48 := h4.le.2
  refine (takes_any hAdv kd hk h4).mono fun e w' ⟨k1, k2⟩ => ⟨k1, ?_⟩
  rcases k2 with ⟨x, q, k2, k3, k4, k5⟩ | ⟨x, q, k2, k3, k4, k5⟩ | ⟨k2, k3, k4⟩
  · exact .inl ⟨x, q, k2, k3, k4, W, ns, h1, h2, h3, k5⟩
  · exact .inr (.inl ⟨x, q, k2, k3, k4, W, ns, h1, h2, h3, k5⟩)
  · exact .inr (.inr ⟨k2, k3, W, _, h1, h2, h3, by omega, k4⟩)
theorem takes_rb (kd : Nat) (hk : 2 ≤ kd) (h : Rb W0 R S B w) : Calls Tryz.prog 39 #[rp R, .int .i64 (kd : Int)] w fun e w' => e = .returned (.bool false) ∧ w = w' := by
  obtain ⟨W, m, h1, h2, h3, h4, h5⟩ := h
  exact takes_rf kd hk h5
theorem must_ro (hAdv : AdvOk) (kd : Nat) (hk : 2 ≤ kd) (h : Ro W0 R S B l w) : Calls Tryz.prog 40 #[rp R, .int .i64 (kd : Int)] w fun e w' =>
    e = .returned (.tuple #[]) ∧ Fr w R S w' ∧ ((∃ q, Here kd l q ∧ Ro W0 R S B q w') ∨ ((∀ q, ¬ Here kd l q) ∧ Rb W0 R S B w')) := by
  obtain ⟨W, ns, h1, h2, h3, h4⟩ := h
  have h48 := h4.le.2
  refine (must_any hAdv kd hk h4).mono fun e w' ⟨k0, k1, k2⟩ => ⟨k0, k1, ?_⟩
  rcases k2 with ⟨q, k2, k3⟩ | ⟨k2, k3⟩
  · exact .inl ⟨q, k2, W, ns, h1, h2, h3, k3⟩
  · exact .inr ⟨k2, W, _, h1, h2, h3, by omega, k3⟩
theorem must_rb (kd : Nat) (hk : 2 ≤ kd) (h : Rb W0 R S B w) : Calls Tryz.prog 40 #[rp R, .int .i64 (kd : Int)] w fun e w' => e = .returned (.tuple #[]) ∧ Fr w R S w' ∧ Rb W0 R S B w' := by
  obtain ⟨W, m, h1, h2, h3, h4, h5⟩ := h
  exact (must_rf kd hk h5).mono fun e w' ⟨k1, k2, k3⟩ => ⟨k1, k3, W, m, h1, h2, h3, h4, k2⟩
theorem fail_ra {c : Int} (hc : c ≠ 0) (h : Ra W0 R S B x q w) : Calls Tryz.prog 37 #[rp R, .int .i64 c] w fun e w' => e = .returned (.tuple #[]) ∧ Fr w R S w' ∧ Rb W0 R S B w' := by
  obtain ⟨W, ns, h1, h2, h3, h4⟩ := h
  have h48 := h4.le.2
  exact (fail_rex hc h4).mono fun e w' ⟨k1, k2, k3⟩ => ⟨k1, k3, W, _, h1, h2, h3, by omega, k2⟩
theorem Ra.cell2 (h : Ra W0 R S B x q w) : w.cell? ⟨R, 2, none⟩ = some (.string (strOf (Zq.kText x))) := by
  obtain ⟨W, ns, h1, h2, h3, nv, s, _, _, _, h4⟩ := h
  exact h4.cells.2.2.1
theorem Rb.cell2 (h : Rb W0 R S B w) : ∃ t, w.cell? ⟨R, 2, none⟩ = some (.string t) := by
  obtain ⟨W, m, rfl, h2, h3, h5, k, t, n, nv, d, f, s, ns, e1, e2, h4⟩ := h
  exact ⟨t, h4.cells.2.2.1⟩
theorem Rb.cell6 (h : Rb W0 R S B w) : ∃ f, f ≠ 0 ∧ w.cell? ⟨R, 6, none⟩ = some (.int .i64 f) := by
  obtain ⟨W, m, rfl, h2, h3, h5, k, t, n, nv, d, f, s, ns, e1, e2, h4⟩ := h
  exact ⟨f, e1, h4.cells.2.2.2.2.2.2⟩
theorem Ro.cell6 (h : Ro W0 R S B l w) : w.cell? ⟨R, 6, none⟩ = some (.int .i64 0) := by
  obtain ⟨W, ns, rfl, h2, h3, k, t, n, nv, s, e1, e2, e3, h4⟩ := h
  exact h4.cells.2.2.2.2.2.2
end

/-! An expression. -/
/-- A slice of nodes in memory, in blocks from B on that are not the reader's. -/
def NdsIs (w : World) (R S B : Nat) (v : Value) (ns : List Zq.Nd) : Prop :=
  ∃ A c, v = .slice A ns.length c ∧ ns.length ≤ c ∧ c ≤ 9223372036854775807 ∧ (0 < ns.length → ∃ b, A = some ⟨b, 0, none⟩ ∧ B ≤ b ∧ b < w.heap.size ∧ b ≠ R ∧ b ≠ S ∧ ∀ j x, (ncells ns)[j]? = some x → w.cell? ⟨b, j, none⟩ = some x)
section
variable {W0 w w' : World} {R S B C : Nat} {l q : List Nat} {v : Value} {ns : List Zq.Nd}
theorem NdsIs.nil (w : World) (R S B : Nat) : NdsIs w R S B (.slice none 0 0) [] := ⟨none, 0, rfl, Nat.le_refl _, by omega, fun h => absurd h (Nat.lt_irrefl _)⟩
theorem NdsIs.keep (h : NdsIs w R S B v ns) (hC : C ≤ B) (hs : w.heap.size ≤ w'.heap.size) (hk : ∀ b, B ≤ b → b < w.heap.size → b ≠ R → b ≠ S → w'.heap[b]? = w.heap[b]?) : NdsIs w' R S C v ns := by
  obtain ⟨A, c, rfl, h1, h2, h3⟩ := h
  refine ⟨A, c, rfl, h1, h2, fun h => ?_⟩
  obtain ⟨b, rfl, k1, k2, k3, k4, k5⟩ := h3 h
  exact ⟨b, rfl, Nat.le_trans hC k1, Nat.lt_of_lt_of_le k2 hs, k3, k4, fun j x e => (World.cell?_of_block (a := ⟨b, j, none⟩) (hk b k1 k2 k3 k4)).trans (k5 j x e)⟩
theorem NdsIs.fr (h : NdsIs w R S B v ns) (hf : Fr w R S w') : NdsIs w' R S B v ns := h.keep (Nat.le_refl _) hf.size (fun b _ h1 h2 h3 => hf.block b h1 h2 h3)
theorem NdsIs.more (h : NdsIs w R S B v ns) (hb : Below w.heap.size w w') : NdsIs w' R S B v ns := h.keep (Nat.le_refl _) hb.size (fun b _ h1 _ _ => hb.block b h1)
theorem NdsIs.form (h : NdsIs w R S B v ns) : ∃ A c, v = .slice A ns.length c := by
  obtain ⟨A, c, h, _⟩ := h
  exact ⟨A, c, h⟩
/-- How expression ends. -/
def ExprEnd (W0 : World) (R S : Nat) (l : List Nat) (w : World) (e : Ending) (w' : World) : Prop :=
  Fr w R S w' ∧ ((∃ ns q v, Zq.exprP l = .ok (ns, q) ∧ e = .returned v ∧ NdsIs w' R S w.heap.size v ns ∧ ns.length ≤ 48 ∧ Ro W0 R S w.heap.size q w') ∨
    ((∃ er, Zq.exprP l = .error er) ∧ (∃ A n c, e = .returned (.slice A n c)) ∧ Rb W0 R S w.heap.size w'))
/-- The nodes are none: a reader at an expression's beginning. -/
theorem start_ok (h : Ro W0 R S B l w) (W1 : World) (e1 : W1 = w.setCell ⟨R, 4, none⟩ (.slice none 0 0)) : Rok ⟨W0, W1, fun _ => none⟩ R S l (16 - 16) [] W1 ∧ Fr w R S W1 ∧ W1.heap.size = w.heap.size := by
  have hsz : W1.heap.size = w.heap.size := by rw [e1]; simp [World.setCell]
  have hg : w.grownBy W1 (some R) := by rw [e1]; exact gbz_set _ _ _ _
  have hfr : Fr w R S W1 := (Fr.refl _ _ _).grown hg (fun k e => .inl (by injection e with e; exact e.symm))
  obtain ⟨W, ns, rfl, h2, h3, k, t, n, nv, s, a1, a2, a3, h4⟩ := h
  refine ⟨⟨k, t, n, .slice none 0 0, s, a1, by decide, by decide, ⟨h4.held.1, h4.held.2.1.grown hg h4.held.2.1.size (fun b e => by injection e with e; subst e; exact h4.held.2.2.1), h4.held.2.2⟩, ?_, ?_, h4.ne, ?_, ?_, Fr.refl _ _ _, World.ownsRow_nil _ _ _ _, h4.small, fun b o e => by cases e⟩, hfr, hsz⟩
  · rw [e1]
    have := h4.lies.put 4 (.slice none 0 0)
    exact this
  · rw [e1]; exact h4.text.far (fun e => h4.ne (by simpa using e.symm)) _
  · show R < W1.heap.size; rw [hsz]; exact h4.lies.lt
  · show S < W1.heap.size; rw [hsz]; exact h4.text.lt
theorem start_bad (h : Rb W0 R S B w) (W1 : World) (e1 : W1 = w.setCell ⟨R, 4, none⟩ (.slice none 0 0)) : Rf ⟨W0, W1, fun _ => none⟩ R S 0 W1 ∧ Fr w R S W1 ∧ W1.heap.size = w.heap.size := by
  have hsz : W1.heap.size = w.heap.size := by rw [e1]; simp [World.setCell]
  have hg : w.grownBy W1 (some R) := by rw [e1]; exact gbz_set _ _ _ _
  have hfr : Fr w R S W1 := (Fr.refl _ _ _).grown hg (fun k e => .inl (by injection e with e; exact e.symm))
  obtain ⟨W, m, rfl, h2, h3, h5, k, t, n, nv, d, f, s, ns, a1, a2, h4⟩ := h
  refine ⟨⟨k, t, n, .slice none 0 0, d, f, s, [], a1, Nat.le_refl _, ⟨h4.held.1, h4.held.2.1.grown hg h4.held.2.1.size (fun b e => by injection e with e; subst e; exact h4.held.2.2.1), h4.held.2.2⟩, ?_, ?_, h4.ne, ?_, ?_, Fr.refl _ _ _, World.ownsRow_nil _ _ _ _, h4.small, fun b o e => by cases e⟩, hfr, hsz⟩
  · rw [e1]
    have := h4.lies.put 4 (.slice none 0 0)
    exact this
  · rw [e1]; exact h4.text.far (fun e => h4.ne (by simpa using e.symm)) _
  · show R < W1.heap.size; rw [hsz]; exact h4.lies.lt
  · show S < W1.heap.size; rw [hsz]; exact h4.text.lt
theorem Ro.cell4 (h : Ro W0 R S B l w) : (∃ A n c, w.cell? ⟨R, 4, none⟩ = some (.slice A n c)) ∧ w.frozen? ⟨R, 4, none⟩ = false := by
  obtain ⟨W, ns, rfl, h2, h3, k, t, n, nv, s, a1, a2, a3, h4⟩ := h
  obtain ⟨A, c, rfl⟩ := own_slice h4.own
  exact ⟨⟨A, _, c, h4.cells.2.2.2.2.1⟩, h4.frees.2.2.2.2.1⟩
theorem Rb.cell4 (h : Rb W0 R S B w) : (∃ A n c, w.cell? ⟨R, 4, none⟩ = some (.slice A n c)) ∧ w.frozen? ⟨R, 4, none⟩ = false := by
  obtain ⟨W, m, rfl, h2, h3, h5, k, t, n, nv, d, f, s, ns, a1, a2, h4⟩ := h
  obtain ⟨A, c, rfl⟩ := own_slice h4.own
  exact ⟨⟨A, _, c, h4.cells.2.2.2.2.1⟩, h4.frees.2.2.2.2.1⟩
theorem Rok.nodes {W : Cx} {d : Nat} (h : Rok W R S l d ns w) : ∃ nv, w.cell? ⟨R, 4, none⟩ = some nv ∧ NdsIs w R S W.w.heap.size nv ns := by
  obtain ⟨k, t, n, nv, s, h1, h2, h3, h4⟩ := h
  refine ⟨nv, h4.cells.2.2.2.2.1, ?_⟩
  have hR := h4.ltR
  have hS := h4.ltS
  rcases h4.own.2 with ⟨rfl, h0⟩ | ⟨g, cap, cur, rfl, e2, e3, e4, e5, e6, e7⟩
  · have : ns = [] := List.eq_nil_of_length_eq_zero h0
    subst this
    exact NdsIs.nil _ _ _ _
  · unfold maxLen at e5
    refine ⟨_, cap, rfl, e4, by omega, fun _ => ⟨g, rfl, e2, (Array.getElem?_eq_some_iff.1 e3).1, by omega, by omega, fun j x hj => ?_⟩⟩
    rw [cell_of_row w g j cur _ _ e3, ← Array.getElem?_toList]
    rw [← e7, List.getElem?_take] at hj
    split at hj
    · exact hj
    · cases hj
set_option maxHeartbeats 2000000 in
set_option maxRecDepth 100000 in
theorem expression_any (hAdv : AdvOk) (h : Ro W0 R S B l w) :
    Calls Tryz.prog 64 #[rp R] w (ExprEnd W0 R S l w) := by
  obtain ⟨⟨A4, n4, c4', c4⟩, f4⟩ := h.cell4
  obtain ⟨W1, eW1⟩ : ∃ W1, W1 = w.setCell ⟨R, 4, none⟩ (.slice none 0 0) := ⟨_, rfl⟩
  obtain ⟨g1, g2, g3⟩ := start_ok h W1 eW1
  have hC := (levels_ok hAdv 16 (by decide)).1 ⟨W0, W1, fun _ => none⟩ R S l [] W1 g1
  have HFR := Lib.hid g2
  have HSZ := Lib.hid g3
  have hE : Zq.exprP l = match Zq.row 16 6 (l, []) with
    | .error e => .error e
    | .ok (_, s) => .ok (s.2, s.1) := rfl
  have HE0 := Lib.hid hE
  rw [eW1] at hC
  obtain ⟨W1', eW1'⟩ : ∃ X, X = w.setCell ⟨R, 4, none⟩ (.slice none 0 0) := ⟨_, rfl⟩
  have HW : Hid (W1 = w.setCell ⟨R, 4, none⟩ (.slice none 0 0)) := eW1
  clear h g1 g2 g3 eW1 hE eW1'
  go_enter Tryz.func64, Tryz.ntmps64
  go_wp2_with fail
  refine hC.mono ?_
  rw [← HW.out]
  intro e w2 hh
  clear hC c4 f4
  rcases hh with ⟨a, l2, ns2, hres, rfl, h2, _, _⟩ | ⟨er, hres, ⟨a, rfl⟩, h2⟩
  · obtain ⟨nv, c4, hnd⟩ := h2.nodes
    have HE : Hid (ExprEnd W0 R S l w (.returned nv) w2) := by
      have h2' := h2
      obtain ⟨_, _, _, _, _, _, _, _, hRd⟩ := h2'
      refine ⟨HFR.out.trans hRd.fr, .inl ⟨ns2, l2, nv, by rw [HE0.out, hres], rfl, ?_, h2.le.2, _, ns2, rfl, fun _ => rfl, ?_, h2⟩⟩
      · rw [← HSZ.out]; exact hnd
      · show w.heap.size ≤ W1.heap.size; rw [HSZ.out]; exact Nat.le_refl _
    clear h2 hres hnd
    go_wp2
    go_ret
    exact HE.out
  · obtain ⟨k, t, n, nv, d, f, s, ns, a1, a2, h4⟩ := h2
    obtain ⟨A, c, rfl⟩ := own_slice h4.own
    obtain ⟨_, _, _, _, c4, _, _⟩ := h4.cells
    have HE : Hid (ExprEnd W0 R S l w (.returned (.slice A ns.length c)) w2) := by
      refine ⟨HFR.out.trans h4.fr, .inr ⟨⟨er, by rw [HE0.out, hres]⟩, ⟨A, _, c, rfl⟩, _, _, rfl, fun _ => rfl, ?_, ?_, k, t, n, _, d, f, s, ns, a1, a2, h4⟩⟩
      · show w.heap.size ≤ W1.heap.size; rw [HSZ.out]; exact Nat.le_refl _
      · decide
    clear h4 hres a1 a2
    go_wp2
    go_ret
    exact HE.out
set_option maxHeartbeats 2000000 in
set_option maxRecDepth 100000 in
theorem expression_rb (h : Rb W0 R S B w) :
    Calls Tryz.prog 64 #[rp R] w fun e w' => Fr w R S w' ∧ (∃ A n c, e = .returned (.slice A n c)) ∧ Rb W0 R S w.heap.size w' := by
  obtain ⟨⟨A4, n4, c4', c4⟩, f4⟩ := h.cell4
  obtain ⟨W1, eW1⟩ : ∃ W1, W1 = w.setCell ⟨R, 4, none⟩ (.slice none 0 0) := ⟨_, rfl⟩
  obtain ⟨g1, g2, g3⟩ := start_bad h W1 eW1
  have hC := or_rf g1
  have HFR := Lib.hid g2
  have HSZ := Lib.hid g3
  have HW := Lib.hid eW1
  rw [eW1] at hC
  clear h g1 g2 g3 eW1
  go_enter Tryz.func64, Tryz.ntmps64
  go_wp2_with fail
  refine hC.mono ?_
  rw [← HW.out]
  rintro e w2 ⟨⟨a, rfl⟩, h2⟩
  clear hC c4 f4
  obtain ⟨k, t, n, nv, d, f, s, ns, a1, a2, h4⟩ := h2
  obtain ⟨A, c, rfl⟩ := own_slice h4.own
  obtain ⟨_, _, _, _, c4, _, _⟩ := h4.cells
  have HE : Hid (Fr w R S w2 ∧ (∃ A' n' c', Ending.returned (.slice A ns.length c) = .returned (.slice A' n' c')) ∧ Rb W0 R S w.heap.size w2) := by
    refine ⟨HFR.out.trans h4.fr, ⟨A, _, c, rfl⟩, _, _, rfl, fun _ => rfl, ?_, ?_, k, t, n, _, d, f, s, ns, a1, a2, h4⟩
    · show w.heap.size ≤ W1.heap.size; rw [HSZ.out]; exact Nat.le_refl _
    · decide
  clear h4 a1 a2
  go_wp2
  go_ret
  exact HE.out
end
end Go.Proofs.YthhlmalpelgpeaaGreatDoor
