/-
  A region that draws its order: an object made of another one's names and values with one more ahead.
-/
import Derived.Test.YtnbaajdcakjlmaaDoorMRegN
namespace Go.Proofs.YtnbaajdcakjlmaaDoor
open Go.RowKit

/-- What the rows' blocks are told apart from: the variable that is to hold the object. -/
def NamT (L : Array Bool) (a : Act) : Prop :=
  L.getD 11 true = true → ∀ Z, a.tmps[12]? = some (.pointer (some ⟨Z, 0, none⟩)) →
    (L.getD 6 true = true → L.getD 9 true = false → ∀ v, a.tmps[71]? = some v → v.ownBlock ≠ some Z) ∧
    (L.getD 9 true = true → ∀ v, a.tmps[74]? = some v → v.ownBlock ≠ some Z) ∧
    (L.getD 10 true = true → ∀ nv lv, a.tmps[75]? = some (jv 5 false 0 ByteArray.empty nv lv) → lv.ownBlock ≠ some Z)
def NamI (B : Nat) (W0 : World) (L : Array Bool) (a : Act) (W : World) : Prop :=
  Below B W0 W ∧ (L.getD 4 true = true → L.getD 1 true = true) ∧ (L.getD 9 true = true → L.getD 6 true = true) ∧ (L.getD 10 true = true → L.getD 4 true = true ∧ L.getD 9 true = true) ∧ (L.getD 12 true = true → L.getD 10 true = true ∧ L.getD 11 true = true) ∧ NamT L a
/-- The two rows of the object. -/
def NamR (B K M : Nat) (ns : List (List Nat)) (cs : List Value) (nv lv : Value) (W : World) : Prop :=
  W.ownsRow B 9 1 nv (K + 1) (tcells ns) ∧ W.ownsRow B 27 6 lv (M + 1) cs
theorem NamR.on {B K M : Nat} {ns : List (List Nat)} {cs : List Value} {nv lv : Value} {W W' : World} (h : NamR B K M ns cs nv lv W) (hb : Below W.heap.size W W') : NamR B K M ns cs nv lv W' := ⟨own_below h.1 hb, own_below h.2 hb⟩
/-- What lies in the slots. -/
def NamF (B P : Nat) (v1 v2 : Value) (z : List Nat) (ns : List (List Nat)) (K M : Nat) (xc ys : List Value) (L : Array Bool) : Nat → Value → World → Prop
  | 0, v, _ => v = .string (strOf z)
  | 1, v, W => L.getD 4 true = true ∨ W.ownsRow B 9 1 v 1 (tcells [z])
  | 2, v, _ => v = .pointer (some ⟨P, 4, none⟩)
  | 3, v, _ => v = v1
  | 4, v, W => ∃ A c, v = .slice A (K + 1) c ∧ W.ownsRow B 9 1 v (K + 1) (tcells (z :: ns))
  | 5, v, _ => v = .agg xc.toArray
  | 6, v, W => L.getD 9 true = true ∨ W.ownsRow B 27 6 v 1 xc
  | 7, v, _ => v = .pointer (some ⟨P, 5, none⟩)
  | 8, v, _ => v = v2
  | 9, v, W => ∃ A c, v = .slice A (M + 1) c ∧ W.ownsRow B 27 6 v (M + 1) (xc ++ ys)
  | 10, v, W => ∃ A c A' c', v = jv 5 false 0 ByteArray.empty (.slice A (K + 1) c) (.slice A' (M + 1) c') ∧ NamR B K M (z :: ns) (xc ++ ys) (.slice A (K + 1) c) (.slice A' (M + 1) c') W
  | 11, v, W => ∃ Z, v = .pointer (some ⟨Z, 0, none⟩) ∧ B ≤ Z ∧ Z < W.heap.size ∧ (L.getD 12 true = false → Lies W Z 27 zero6) ∧ (L.getD 12 true = true → ∃ A c A' c', Lies W Z 27 [.int .i64 5, .bool false, .int .i64 0, .string ByteArray.empty, .slice A (K + 1) c, .slice A' (M + 1) c'] ∧ NamR B K M (z :: ns) (xc ++ ys) (.slice A (K + 1) c) (.slice A' (M + 1) c') W)
  | _, _, _ => True
section
variable {B P K M i : Nat} {v1 v2 : Value} {z : List Nat} {ns : List (List Nat)} {xc ys : List Value} {L : Array Bool} {w w' : World} {a a' : Act}
theorem NamF.on (hi : i ≠ 12) (hb : Below w.heap.size w w') : ∀ j u, NamF B P v1 v2 z ns K M xc ys L j u w → NamF B P v1 v2 z ns K M xc ys (L.setIfInBounds i true) j u w' := by
  intro j u h
  match j, h with
  | 0, h => exact h
  | 1, h => exact h.elim (fun h => .inl (getD_mono h)) (fun h => .inr (own_below h hb))
  | 2, h => exact h
  | 3, h => exact h
  | 4, ⟨A, c, e, h⟩ => exact ⟨A, c, e, own_below h hb⟩
  | 5, h => exact h
  | 6, h => exact h.elim (fun h => .inl (getD_mono h)) (fun h => .inr (own_below h hb))
  | 7, h => exact h
  | 8, h => exact h
  | 9, ⟨A, c, e, h⟩ => exact ⟨A, c, e, own_below h hb⟩
  | 10, ⟨A, c, A', c', e, h⟩ => exact ⟨A, c, A', c', e, h.on hb⟩
  | 11, ⟨Z, h1, h2, h3, h4, h5⟩ => exact ⟨Z, h1, h2, Nat.lt_of_lt_of_le h3 hb.size, fun e => (h4 (getD_of hi e)).below hb h3, fun e => by
      obtain ⟨A, c, A', c', g1, g2⟩ := h5 (getD_of hi e)
      exact ⟨A, c, A', c', g1.below hb h3, g2.on hb⟩⟩
  | j + 12, _ => exact trivial
theorem NamT.pure (h : NamT L a) (hi : i ≠ 6 ∧ i ≠ 9 ∧ i ≠ 10 ∧ i ≠ 11) (e12 : a'.tmps[12]? = a.tmps[12]?) (e71 : a'.tmps[71]? = a.tmps[71]?) (e74 : a'.tmps[74]? = a.tmps[74]?) (e75 : a'.tmps[75]? = a.tmps[75]?) : NamT (L.setIfInBounds i true) a' := by
  obtain ⟨i6, i9, i10, i11⟩ := hi
  intro h11 Z hZ
  rw [e12] at hZ
  obtain ⟨k1, k2, k3⟩ := h (getD_of i11 h11) Z hZ
  refine ⟨fun g6 g9 v hv => k1 (getD_of i6 g6) (getD_of i9 g9) v (by rw [← e71]; exact hv), fun g9 v hv => k2 (getD_of i9 g9) v (by rw [← e74]; exact hv), fun g10 nv lv hv => k3 (getD_of i10 g10) nv lv (by rw [← e75]; exact hv)⟩
theorem NamI.pure {W0 : World} (h : NamI B W0 L a w) (hb : Below w.heap.size w w') (hB : B ≤ w.heap.size) (hi : i ≠ 4 ∧ i ≠ 6 ∧ i ≠ 9 ∧ i ≠ 10 ∧ i ≠ 11 ∧ i ≠ 12) (e12 : a'.tmps[12]? = a.tmps[12]?) (e71 : a'.tmps[71]? = a.tmps[71]?) (e74 : a'.tmps[74]? = a.tmps[74]?) (e75 : a'.tmps[75]? = a.tmps[75]?) : NamI B W0 (L.setIfInBounds i true) a' w' := by
  obtain ⟨h1, h2, h3, h4, h5, h6⟩ := h
  obtain ⟨i4, i6, i9, i10, i11, i12⟩ := hi
  exact ⟨h1.trans (hb.mono hB), fun e => getD_mono (h2 (getD_of i4 e)), fun e => getD_mono (h3 (getD_of i9 e)), fun e => ⟨getD_mono (h4 (getD_of i10 e)).1, getD_mono (h4 (getD_of i10 e)).2⟩, fun e => ⟨getD_mono (h5 (getD_of i12 e)).1, getD_mono (h5 (getD_of i12 e)).2⟩, h6.pure ⟨i6, i9, i10, i11⟩ e12 e71 e74 e75⟩
end
theorem texts_append {w : World} {B n m c : Nat} {ok : Nat → Prop} {v : Value} {A : Option Addr} {ns ms : List (List Nat)} (ty : TypeId) (hown : w.ownsRow B 9 1 v n (tcells ns)) (hS : SlIs w ok (.slice A m c) m (tcells ms)) (hm : ms.length = m) (h : n + m ≤ 1000) (hB : B ≤ w.heap.size) :
    ∃ A' c' w', (Builtin.append_ #[24, 24] ty #[v, .slice A m c]).run Tryd.prog w = .ok (.slice A' (n + m) c') w' ∧ w'.ownsRow B 9 1 (.slice A' (n + m) c') (n + m) (tcells (ns ++ ms)) ∧ w.grownBy w' v.ownBlock := by
  obtain ⟨i, hi, h1, h2, h3⟩ := info_parts infoText
  obtain ⟨v', w', k1, k2, k3, _⟩ := run_append_sl 24 ty 9 i _ Tryd.underlying24 hi h1 h2 h3 rfl (by decide) hown hS (by rw [tcells_length, hm, Nat.mul_one]) (tones _) (by unfold maxLen; omega) (by omega) hB
  obtain ⟨A', c', rfl⟩ := own_slice k2
  rw [show tcells ns ++ tcells ms = tcells (ns ++ ms) from by simp [tcells]] at k2
  exact ⟨A', c', w', k1, k2, k3⟩
theorem jsons_append {w : World} {B n m c : Nat} {ok : Nat → Prop} {v : Value} {A : Option Addr} {cs : List Value} {vs : List Value} {l : List Jq.J} (ty : TypeId) (hown : w.ownsRow B 27 6 v n cs) (hS : SlIs w ok (.slice A m c) m (vs.flatMap jcells)) (hv : vs.length = l.length) (hl : l.length = m)
    (he : ∀ (i : Nat) v x, vs[i]? = some v → l[i]? = some x → IsJ w ok v x) (h : n + m ≤ 1000) (hB : B ≤ w.heap.size) :
    ∃ A' c' w', (Builtin.append_ #[25, 25] ty #[v, .slice A m c]).run Tryd.prog w = .ok (.slice A' (n + m) c') w' ∧ w'.ownsRow B 27 6 (.slice A' (n + m) c') (n + m) (cs ++ vs.flatMap jcells) ∧ w.grownBy w' v.ownBlock ∧ ((Value.slice A' (n + m) c').ownBlock = v.ownBlock ∨ (Value.slice A' (n + m) c').ownBlock = some w.heap.size) := by
  obtain ⟨i, hi, h1, h2, h3⟩ := info_parts infoJson
  obtain ⟨g1, g2⟩ := jrow_ones hv he
  obtain ⟨v', w', k1, k2, k3, k4⟩ := run_append_sl 25 ty 27 i _ Tryd.underlying25 hi h1 h2 h3 rfl (by decide) hown hS (by rw [g2, hv, hl]) g1 (by unfold maxLen; omega) (by omega) hB
  obtain ⟨A', c', rfl⟩ := own_slice k2
  exact ⟨A', c', w', k1, k2, k3, k4⟩
/-- The object as a value. -/
theorem NamR.isJ {B K M : Nat} {z : List Nat} {ns : List (List Nat)} {l : List Jq.J} {vs : List Value} {xv : Value} {x : Jq.J} {A1 A2 : Option Addr} {c1 c2 : Nat} {W : World} {ok1 ok2 : Nat → Prop} (h : NamR B K M (z :: ns) (jcells xv ++ vs.flatMap jcells) (.slice A1 (K + 1) c1) (.slice A2 (M + 1) c2) W) (hK : ns.length = K) (hM : l.length = M) (hK1 : K ≤ 1000) (hM1 : M ≤ 1000)
    (hz : z.length ≤ 140737488355328 ∧ ∀ x ∈ z, x < 256) (hns : ∀ p ∈ ns, p.length ≤ 140737488355328 ∧ ∀ x ∈ p, x < 256) (hx : IsJ W ok1 xv x) (hv : vs.length = l.length) (he : ∀ (i : Nat) v x, vs[i]? = some v → l[i]? = some x → IsJ W ok2 v x) :
    IsJ W (fun _ => True) (jv 5 false 0 ByteArray.empty (.slice A1 (K + 1) c1) (.slice A2 (M + 1) c2)) (Jq.objJ (z :: ns) (x :: l)) := by
  subst hK hM
  have h1 := (own_slIs h.1).keep (ok' := fun _ => True) (fun b _ _ => ⟨trivial, rfl⟩) (Nat.le_refl _)
  have h2 := (own_slIs h.2).keep (ok' := fun _ => True) (fun b _ _ => ⟨trivial, rfl⟩) (Nat.le_refl _)
  refine IsJ.mk (t := []) (vs := xv :: vs) (by decide) (by decide) (by decide) h1 (fun p hp => ?_) (by simp; omega) h2 (by simp [hv]) (by simp; omega) (fun i u y e1 e2 => ?_)
  · rcases List.mem_cons.1 hp with rfl | hp
    · exact hz
    · exact hns p hp
  · cases i with
    | zero =>
      simp at e1 e2
      subst e1 e2
      exact hx.keep (fun b _ _ => ⟨trivial, rfl⟩) (Nat.le_refl _)
    | succ i =>
      simp at e1 e2
      exact (he i u y e1 e2).keep (fun b _ _ => ⟨trivial, rfl⟩) (Nat.le_refl _)
end Go.Proofs.YtnbaajdcakjlmaaDoor
