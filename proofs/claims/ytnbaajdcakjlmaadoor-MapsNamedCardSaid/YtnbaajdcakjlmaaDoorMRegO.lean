/-
  A region that draws its order: rules of two rows behind each other, Run of them, and what it answers.
-/
import Derived.Test.YtnbaajdcakjlmaaDoorMO
import Derived.Test.YtnbaajdcakjlmaaDoorSlotsA
namespace Go.Proofs.YtnbaajdcakjlmaaDoor
open Go.RowKit

theorem RsOwn.ne {B Z : Nat} {v : Value} {rs : List Zq.Rl} {W : World} {cs : List Value} (h : RsOwn B v rs W) (hl : Lies W Z 27 cs) : v.ownBlock ≠ some Z := by
  obtain ⟨us, _, h2, _⟩ := h
  rcases h2.2 with ⟨rfl, _⟩ | ⟨g, cap, cur, rfl, _, hg, _⟩
  · intro e; cases e
  · intro e
    injection e with e
    have e : g = Z := e
    subst e
    unfold Lies at hl
    rw [hg] at hl
    injection hl with hl
    injection hl with _ h3 _
    exact absurd h3 (by decide)
theorem put_other {a : Act} {d s : Tmp} {v : Value} (h : d ≠ s) : (a.put (some d) v).tmps[s]? = a.tmps[s]? := by
  unfold Act.put
  simp [Array.getElem?_setIfInBounds_ne h]
theorem put_none {a : Act} {s : Tmp} {v : Value} : (a.put none v).tmps[s]? = a.tmps[s]? := rfl
theorem put_self {a : Act} {d : Tmp} {v : Value} (h : d < a.tmps.size) : (a.put (some d) v).tmps[d]? = some v := by
  unfold Act.put
  simp [h]
/-- What Run has answered, told apart from the variable it is to be kept in. -/
def OnceT (y : Jq.J) (ef : Int) (B : Nat) (L : Array Bool) (a : Act) (W : World) : Prop :=
  ∃ Y1 ya Y2 yb, a.tmps[40]? = some (.tuple #[jv y.kind y.bool y.int (strOf y.text) (.slice Y1 y.names.length ya) (.slice Y2 y.list.length yb), .int .i64 ef]) ∧ IsJ W (fun b => B ≤ b ∧ a.tmps[9]? ≠ some (.pointer (some ⟨b, 0, none⟩))) (jv y.kind y.bool y.int (strOf y.text) (.slice Y1 y.names.length ya) (.slice Y2 y.list.length yb)) y ∧
    (L.getD 7 true = true → a.tmps[33]? = some (.tuple #[jv y.kind y.bool y.int (strOf y.text) (.slice Y1 y.names.length ya) (.slice Y2 y.list.length yb), .int .i64 ef])) ∧ (L.getD 8 true = true → a.tmps[41]? = some (jv y.kind y.bool y.int (strOf y.text) (.slice Y1 y.names.length ya) (.slice Y2 y.list.length yb))) ∧
    (L.getD 11 true = true → ∃ Z, a.tmps[9]? = some (.pointer (some ⟨Z, 0, none⟩)) ∧ Lies W Z 27 [.int .i64 y.kind, .bool y.bool, .int .i64 y.int, .string (strOf y.text), .slice Y1 y.names.length ya, .slice Y2 y.list.length yb])
def OnceI (y : Jq.J) (ef : Int) (B : Nat) (W0 : World) (L : Array Bool) (a : Act) (W : World) : Prop :=
  Below B W0 W ∧ (L.getD 4 true = true → L.getD 2 true = true) ∧ (L.getD 6 true = true → L.getD 4 true = true) ∧ (L.getD 7 true = true → L.getD 6 true = true) ∧ (L.getD 8 true = true → L.getD 7 true = true) ∧ (L.getD 11 true = true → L.getD 8 true = true ∧ L.getD 10 true = true) ∧ (L.getD 6 true = true → OnceT y ef B L a W)
/-- What lies in the slots. -/
def OnceF (B : Nat) (r1 r2 vv : Value) (rs1 rs2 : List Zq.Rl) (y : Jq.J) (ef : Int) (L : Array Bool) : Nat → Value → World → Prop
  | 0, v, W => L.getD 2 true = true ∨ RsOwn B v [] W
  | 1, v, _ => v = r1
  | 2, v, W => L.getD 4 true = true ∨ RsOwn B v rs1 W
  | 3, v, _ => v = r2
  | 4, v, W => L.getD 6 true = true ∨ RsOwn B v (rs1 ++ rs2) W
  | 5, v, _ => v = vv
  | 6, v, _ => ∃ Y1 ya Y2 yb, v = .tuple #[jv y.kind y.bool y.int (strOf y.text) (.slice Y1 y.names.length ya) (.slice Y2 y.list.length yb), .int .i64 ef]
  | 7, v, _ => ∃ Y1 ya Y2 yb, v = .tuple #[jv y.kind y.bool y.int (strOf y.text) (.slice Y1 y.names.length ya) (.slice Y2 y.list.length yb), .int .i64 ef]
  | 8, v, _ => ∃ Y1 ya Y2 yb, v = jv y.kind y.bool y.int (strOf y.text) (.slice Y1 y.names.length ya) (.slice Y2 y.list.length yb)
  | 9, v, _ => v = .int .i64 ef
  | 10, v, W => ∃ Z, v = .pointer (some ⟨Z, 0, none⟩) ∧ B ≤ Z ∧ Z < W.heap.size ∧ (L.getD 11 true = false → Lies W Z 27 zero6)
  | 12, v, _ => v = .int .i64 ef
  | _, _, _ => True
theorem getD_of {L : Array Bool} {i j : Nat} (h : i ≠ j) {b : Bool} (e : (L.setIfInBounds i true).getD j true = b) : L.getD j true = b := by rw [getD_set h] at e; exact e
theorem OnceF.on {B : Nat} {r1 r2 vv : Value} {rs1 rs2 : List Zq.Rl} {y : Jq.J} {ef : Int} {i : Nat} {L : Array Bool} {w w' : World} (hi : i ≠ 11) (hb : Below w.heap.size w w') :
    ∀ j u, OnceF B r1 r2 vv rs1 rs2 y ef L j u w → OnceF B r1 r2 vv rs1 rs2 y ef (L.setIfInBounds i true) j u w' := by
  intro j u h
  match j, h with
  | 0, h => exact h.elim (fun h => .inl (getD_mono h)) (fun h => .inr (h.on hb))
  | 1, h => exact h
  | 2, h => exact h.elim (fun h => .inl (getD_mono h)) (fun h => .inr (h.on hb))
  | 3, h => exact h
  | 4, h => exact h.elim (fun h => .inl (getD_mono h)) (fun h => .inr (h.on hb))
  | 5, h => exact h
  | 6, h => exact h
  | 7, h => exact h
  | 8, h => exact h
  | 9, h => exact h
  | 10, ⟨Z, h1, h2, h3, h4⟩ => exact ⟨Z, h1, h2, Nat.lt_of_lt_of_le h3 hb.size, fun e => (h4 (getD_of hi e)).below hb h3⟩
  | 11, _ => exact trivial
  | 12, h => exact h
  | j + 13, _ => exact trivial
/-- Behind an append: the row that was used up is not asked of any more. -/
theorem OnceF.app {B : Nat} {r1 r2 vv ov : Value} {rs1 rs2 qs : List Zq.Rl} {y : Jq.J} {ef : Int} {i : Nat} {L : Array Bool} {w w' : World} (hi : i ≠ 11) (hown : RsOwn B ov qs w) (hg : w.grownBy w' ov.ownBlock) (h0 : (L.setIfInBounds i true).getD 2 true = true) :
    ∀ j u, (j = 2 → (L.setIfInBounds i true).getD 4 true = true) → j ≠ 4 → OnceF B r1 r2 vv rs1 rs2 y ef L j u w → OnceF B r1 r2 vv rs1 rs2 y ef (L.setIfInBounds i true) j u w' := by
  intro j u h2 h4 h
  match j, h with
  | 0, h => exact .inl h0
  | 1, h => exact h
  | 2, h => exact .inl (h2 rfl)
  | 3, h => exact h
  | 4, h => exact absurd rfl h4
  | 5, h => exact h
  | 6, h => exact h
  | 7, h => exact h
  | 8, h => exact h
  | 9, h => exact h
  | 10, ⟨Z, k1, k2, k3, k4⟩ => exact ⟨Z, k1, k2, Nat.lt_of_lt_of_le k3 hg.size, fun e => (k4 (getD_of hi e)).grown hg (fun e' => hown.ne (k4 (getD_of hi e)) e'.symm)⟩
  | 11, _ => exact trivial
  | 12, h => exact h
  | j + 13, _ => exact trivial
/-- The tie behind a step that touches neither the answer nor its variable. -/
theorem OnceT.on {y : Jq.J} {ef : Int} {B i : Nat} {L : Array Bool} {a a' : Act} {w w' : World} (h : OnceT y ef B L a w) (hb : Below w.heap.size w w') (h7 : i ≠ 7) (h8 : i ≠ 8) (h11 : i ≠ 11) (e40 : a'.tmps[40]? = a.tmps[40]?) (e9 : a'.tmps[9]? = a.tmps[9]?) (e33 : a'.tmps[33]? = a.tmps[33]?) (e41 : a'.tmps[41]? = a.tmps[41]?) : OnceT y ef B (L.setIfInBounds i true) a' w' := by
  obtain ⟨Y1, ya, Y2, yb, k1, k2, k3, k4, k5⟩ := h
  refine ⟨Y1, ya, Y2, yb, by rw [e40]; exact k1, by rw [e9]; exact k2.on hb, fun e => by rw [e33]; exact k3 (getD_of h7 e), fun e => by rw [e41]; exact k4 (getD_of h8 e), fun e => ?_⟩
  obtain ⟨Z, g1, g2⟩ := k5 (getD_of h11 e)
  exact ⟨Z, by rw [e9]; exact g1, g2.below hb g2.lt⟩
/-- The invariant behind such a step. -/
theorem OnceI.pure {y : Jq.J} {ef : Int} {B i : Nat} {W0 : World} {L : Array Bool} {a a' : Act} {w w' : World} (h : OnceI y ef B W0 L a w) (hb : Below w.heap.size w w') (hB : B ≤ w.heap.size) (hi : i ≠ 4 ∧ i ≠ 6 ∧ i ≠ 7 ∧ i ≠ 8 ∧ i ≠ 11) (e40 : a'.tmps[40]? = a.tmps[40]?) (e9 : a'.tmps[9]? = a.tmps[9]?) (e33 : a'.tmps[33]? = a.tmps[33]?) (e41 : a'.tmps[41]? = a.tmps[41]?) : OnceI y ef B W0 (L.setIfInBounds i true) a' w' := by
  obtain ⟨h1, h2, h3, h4, h5, h6, h7⟩ := h
  obtain ⟨i4, i6, i7, i8, i11⟩ := hi
  exact ⟨h1.trans (hb.mono hB), fun e => getD_mono (h2 (getD_of i4 e)), fun e => getD_mono (h3 (getD_of i6 e)), fun e => getD_mono (h4 (getD_of i7 e)), fun e => getD_mono (h5 (getD_of i8 e)), fun e => ⟨getD_mono (h6 (getD_of i11 e)).1, getD_mono (h6 (getD_of i11 e)).2⟩, fun e => (h7 (getD_of i6 e)).on hb i7 i8 i11 e40 e9 e33 e41⟩
end Go.Proofs.YtnbaajdcakjlmaaDoor
