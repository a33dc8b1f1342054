/-
  Parts of bytes that came in; an element under way: the variable, its row, and the result's cell.
-/
import Derived.Test.YtkjofadabaecfaaTRSize
namespace Go.Proofs.Ytkjofadabaecfaa
open Go.RowKit

/-- Where a part of a slice begins. -/
def cutAt (A : Option Addr) (c n : Nat) : Option Addr := if c = n then A else A.map (·.add n)
theorem ArgIs.cut {w : World} {A : Option Addr} {c : Nat} {q : List Nat} (h : ArgIs w A c q) (n : Nat) (hn : n ≤ q.length) : ArgIs w (cutAt A c n) (c - n) (q.drop n) := by
  obtain ⟨h1, h2, h3, h4⟩ := h
  refine ⟨by rw [List.length_drop]; omega, by omega, fun x hx => h3 x (List.mem_of_mem_drop hx), fun hp => ?_⟩
  rw [List.length_drop] at hp
  obtain ⟨b, off, rfl, hb, hby⟩ := h4 (by omega)
  have hne : ¬ c = n := by omega
  simp only [cutAt, if_neg hne, Option.map_some, Addr.add_lit]
  exact ⟨b, off + n, rfl, hb, hby.cut n⟩
theorem ArgIs.take {w : World} {A : Option Addr} {c : Nat} {q : List Nat} (h : ArgIs w A c q) (n : Nat) : ArgIs w A c (q.take n) := by
  obtain ⟨h1, h2, h3, h4⟩ := h
  refine ⟨by rw [List.length_take]; omega, h2, fun x hx => h3 x (List.mem_of_mem_take hx), fun hp => ?_⟩
  rw [List.length_take] at hp
  obtain ⟨b, off, rfl, hb, hby⟩ := h4 (by omega)
  exact ⟨b, off, rfl, hb, hby.take n⟩
section
variable {ops : Array Oper} {rest : List Oper} {o : Oper} {a : Act} {Q : Exit → Act → World → Prop} {w : World}
set_option maxRecDepth 100000 in
theorem slice_from_at (hgd : o.guard = none) (x y : Operand) (ho : o.op = .slice 24 x (some y) none none) (A : Option Addr) (l c n : Nat) (hx : a.eval x = .slice A l c) (hy : a.eval y = .int .i64 n) (hn : n ≤ l)
    (A' : Option Addr) (l' c' : Nat) (hA : cutAt A c n = A') (hl : l - n = l') (hc : c - n = c')
    (h : wpList Try.prog ops Q rest (a.put o.dst (.slice A' l' c')) w) : wpList Try.prog ops Q (o :: rest) a w := by
  subst hA hl hc
  refine wpList_plain hgd fun K hK => ?_
  have hr := run_slice_l (P := Try.prog) w 24 A l c Try.underlying24 .i64 n (by omega) (by omega)
  have hz := Try.sizeOf5
  have he : Try.prog.elem 24 = 5 := by kernel_rfl
  rw [he] at hr
  simp only [hz, Result.andThen, sliced, Int.toNat_natCast, Nat.mul_one] at hr
  unfold Oper.wp
  rw [execOp, ho]
  simp [hx, hy, run_sliceAt_slice (P := Try.prog) w 24 _ _ _ _ Try.underlying24, hr, Result.andThen]
  exact hK _ _ h
set_option maxRecDepth 100000 in
theorem slice_part_at (hgd : o.guard = none) (x y z : Operand) (ho : o.op = .slice 24 x (some y) (some z) none) (A : Option Addr) (l c n m : Nat) (hx : a.eval x = .slice A l c) (hy : a.eval y = .int .i64 n) (hz : a.eval z = .int .i64 m) (hnm : n ≤ m) (hm : m ≤ c)
    (A' : Option Addr) (l' c' : Nat) (hA : cutAt A c n = A') (hl : m - n = l') (hc : c - n = c')
    (h : wpList Try.prog ops Q rest (a.put o.dst (.slice A' l' c')) w) : wpList Try.prog ops Q (o :: rest) a w := by
  subst hA hl hc
  refine wpList_plain hgd fun K hK => ?_
  have hr := run_slice_lh (P := Try.prog) w 24 A l c Try.underlying24 .i64 .i64 n m (by omega) (by omega) (by omega)
  have hz' := Try.sizeOf5
  have he : Try.prog.elem 24 = 5 := by kernel_rfl
  rw [he] at hr
  simp only [hz', Result.andThen, sliced, Int.toNat_natCast, Nat.mul_one] at hr
  unfold Oper.wp
  rw [execOp, ho]
  simp [hx, hy, hz, run_sliceAt_slice (P := Try.prog) w 24 _ _ _ _ Try.underlying24, hr, Result.andThen]
  exact hK _ _ h
end

abbrev zero3 : List Value := [.int .u8 0, nilS, nilS]
/-- What is kept while an element is read. -/
structure RdSt (w : World) (V a : Nat) (l : List Bq.T) (lv : Value) (wr : World) : Prop where
  below : Below w.heap.size w wr
  res : Lies wr w.heap.size 60 zero3
  hV : w.heap.size < V
  box : Lies wr V 60 [.int .u8 (a : Int), nilS, lv]
  rows : ∃ vs : List Value, vs.length = l.length ∧ wr.ownsRow (V + 1) 60 3 lv l.length (vs.flatMap acells) ∧ ∀ (i : Nat) v x, vs[i]? = some v → l[i]? = some x → IsT wr (fun b => V + 1 ≤ b ∧ lv.ownBlock ≠ some b) v x
section
variable {w wr w1 w2 : World} {V a : Nat} {l : List Bq.T} {lv : Value}
theorem RdSt.size (h : RdSt w V a l lv wr) : V + 1 ≤ wr.heap.size := h.box.lt
theorem RdSt.begin (hb : Below w.heap.size w wr) (hr : Lies wr w.heap.size 60 zero3) (hV : w.heap.size < V) (h : Lies wr V 60 [.int .u8 (a : Int), nilS, nilS]) : RdSt w V a [] nilS wr :=
  ⟨hb, hr, hV, h, [], rfl, World.ownsRow_nil _ _ _ _, fun i v x h => by simp at h⟩
theorem RdSt.on (h : RdSt w V a l lv wr) (hb : Below wr.heap.size wr w1) : RdSt w V a l lv w1 := by
  obtain ⟨vs, hv, ho, hJ⟩ := h.rows
  exact ⟨below_more h.below hb, h.res.below hb h.res.lt, h.hV, h.box.below hb h.box.lt, vs, hv, own_below ho hb, fun i v x h1 h2 => (hJ i v x h1 h2).on hb⟩
theorem RdSt.form (h : RdSt w V a l lv wr) : ∃ A c, lv = .slice A l.length c := by
  obtain ⟨_, _, ho, _⟩ := h.rows
  exact own_slice ho
theorem RdSt.isT {C : Nat} (h : RdSt w V a l lv wr) (ha : a < 256) (hl : l.length ≤ 100000) (hC : C ≤ V + 1) : IsT wr (C ≤ ·) (tv a nilS lv) (.mk a [] l) := by
  obtain ⟨vs, hvs, ho, hel⟩ := h.rows
  exact .mk ha (SlIs.nil wr _) ⟨Nat.zero_le _, fun _ h => nomatch h⟩ ((own_slIs ho).keep (fun b hb _ => ⟨Nat.le_trans hC hb, rfl⟩) (Nat.le_refl _)) hvs (by omega)
    (fun i v x e1 e2 => (hel i v x e1 e2).keep (fun b hb _ => ⟨Nat.le_trans hC hb.1, rfl⟩) (Nat.le_refl _))
/-- One element more: its row is grown, and then the variable is told. -/
theorem RdSt.elem {v lv' : Value} {x : Bq.T} {vs : List Value} (h : RdSt w V a l lv wr) (hb : Below wr.heap.size wr w1) (hvs : vs.length = l.length)
    (hel : ∀ (i : Nat) u y, vs[i]? = some u → l[i]? = some y → IsT w1 (fun b => V + 1 ≤ b ∧ lv.ownBlock ≠ some b) u y)
    (hJ : IsT w1 (wr.heap.size ≤ ·) v x) (ho : w2.ownsRow (V + 1) 60 3 lv' (l.length + 1) (vs.flatMap acells ++ acells v)) (hgr : w1.grownBy w2 lv.ownBlock) (hat : lv'.ownBlock = lv.ownBlock ∨ lv'.ownBlock = some w1.heap.size) :
    RdSt w V a (l ++ [x]) lv' (w2.setCell ⟨V, 2, none⟩ lv') := by
  have h1 := h.on hb
  obtain ⟨_, _, ho0, _⟩ := h.rows
  have hV := h.hV
  have hVs := h.size
  have key : ∀ k, k < w1.heap.size → k ≠ V → lv.ownBlock ≠ some k → (w2.setCell ⟨V, 2, none⟩ lv').heap[k]? = w1.heap[k]? := fun k h1 h2 h3 => by
    rw [Below.heap_setCell _ _ _ _ h2, hgr.block k h1 (fun e => h3 e.symm)]
  have hsz : ∀ (W : World) (a : Addr) (v : Value), (W.setCell a v).heap.size = W.heap.size := fun W a v => by simp [World.setCell]
  have hs : w1.heap.size ≤ (w2.setCell ⟨V, 2, none⟩ lv').heap.size := by rw [hsz]; exact hgr.size
  have hnew : ∀ b, b < w1.heap.size → lv.ownBlock ≠ some b → lv'.ownBlock ≠ some b := fun b h1 h2 e => by
    rcases hat with hat | hat
    · exact h2 (hat.symm.trans e)
    · rw [hat] at e; injection e with e; omega
  refine ⟨(h1.below.grown hgr h1.below.size (fun k e => by have := (ho0.lt k e).1; omega)).setCell (Nat.le_of_lt hV) _, (h1.res.grown hgr (fun e => by have := (ho0.lt _ e.symm).1; omega)).far (show w.heap.size ≠ V by omega) _, hV, ?_, vs ++ [v], by simp [hvs], ?_, ?_⟩
  · have := (h1.box.grown hgr (fun e => by have := (ho0.lt _ e.symm).1; omega)).put 2 lv'
    simpa using this
  · rw [List.length_append, List.flatMap_append]
    have e : ([v] : List Value).flatMap acells = acells v := by simp
    rw [e]
    exact own_far ho (fun k hk => Below.heap_setCell _ _ _ _ (show k ≠ V by have := (ho.lt k hk).1; omega))
  · intro i u y hu hy
    by_cases hi : i < l.length
    · rw [List.getElem?_append_left (by omega)] at hu hy
      exact (hel i u y hu hy).keep (fun b hb' hlt => ⟨⟨hb'.1, hnew b hlt hb'.2⟩, key b hlt (by have := hb'.1; omega) hb'.2⟩) hs
    · rw [List.getElem?_append_right (by omega)] at hu hy
      have hi0 : i - l.length = 0 := by
        have := (List.getElem?_eq_some_iff.1 hy).1
        simp at this; omega
      rw [hi0] at hy
      rw [hvs, hi0] at hu
      simp at hu hy
      subst hu hy
      refine hJ.keep (fun b hb' hlt => ?_) hs
      have hb' : wr.heap.size ≤ b := hb'
      have hne : lv.ownBlock ≠ some b := fun e => by have := (ho0.lt b e).2; omega
      exact ⟨⟨by omega, hnew b hlt hne⟩, key b hlt (by omega) hne⟩
end
/-- How read ends. -/
def ReadEnd (res : Except Nat (Bq.T × Nat)) (w : World) (e : Ending) (w' : World) : Prop := Below w.heap.size w w' ∧ match res with
  | .ok (t, m) => ∃ A1 c1 A2 c2, e = .returned (.tuple #[tv t.tag (.slice A1 t.bytes.length c1) (.slice A2 t.list.length c2), .int .i64 (m : Int), .int .i64 0]) ∧ IsT w' (w.heap.size ≤ ·) (tv t.tag (.slice A1 t.bytes.length c1) (.slice A2 t.list.length c2)) t
  | .error n => 0 < n ∧ e = .returned (.tuple #[tv 0 nilS nilS, .int .i64 0, .int .i64 (n : Int)])
section
variable {res : Except Nat (Bq.T × Nat)} {w w' wr : World} {e : Ending}
theorem ReadEnd.cases (h : ReadEnd res w e w') :
    (∃ t m A1 c1 A2 c2, res = .ok (t, m) ∧ e = .returned (.tuple #[tv t.tag (.slice A1 t.bytes.length c1) (.slice A2 t.list.length c2), .int .i64 (m : Int), .int .i64 0]) ∧ IsT w' (w.heap.size ≤ ·) (tv t.tag (.slice A1 t.bytes.length c1) (.slice A2 t.list.length c2)) t ∧ Below w.heap.size w w') ∨
    (∃ n, res = .error n ∧ 0 < n ∧ e = .returned (.tuple #[tv 0 nilS nilS, .int .i64 0, .int .i64 (n : Int)]) ∧ Below w.heap.size w w') := by
  obtain ⟨hb, h⟩ := h
  cases hr : res with
  | ok p =>
    obtain ⟨t, m⟩ := p
    rw [hr] at h
    obtain ⟨A1, c1, A2, c2, h1, h2⟩ := h
    exact .inl ⟨t, m, A1, c1, A2, c2, rfl, h1, h2, hb⟩
  | error n =>
    rw [hr] at h
    exact .inr ⟨n, rfl, h.1, h.2, hb⟩
theorem read_no {n : Nat} {i : Int} {a b c : Value} (h : res = .error n) (hi : i = (n : Int)) (hn : 0 < n) (hb : Below w.heap.size w wr) : ReadEnd res w (.returned (.tuple #[tv 0 nilS nilS, .int .i64 0, .int .i64 i])) (put3 wr w.heap.size a b c) := by
  subst hi; rw [h]; exact ⟨below_put3 hb (Nat.le_refl _), hn, rfl⟩
theorem read_yes {t : Bq.T} {m C : Nat} {i : Int} {A1 A2 : Option Addr} {c1 c2 : Nat} {a b c : Value} (h : res = .ok (t, m)) (hi : i = (m : Int)) (hJ : IsT wr (C ≤ ·) (tv t.tag (.slice A1 t.bytes.length c1) (.slice A2 t.list.length c2)) t) (hC : w.heap.size < C) (hb : Below w.heap.size w wr) :
    ReadEnd res w (.returned (.tuple #[tv t.tag (.slice A1 t.bytes.length c1) (.slice A2 t.list.length c2), .int .i64 i, .int .i64 0])) (put3 wr w.heap.size a b c) := by
  subst hi; rw [h]; exact ⟨below_put3 hb (Nat.le_refl _), A1, c1, A2, c2, rfl, (hJ.put3 hC).from (Nat.le_of_lt hC)⟩
end

/-! Elements one behind the other, plain. -/
def ItemsAt (elem : List Nat → Except Nat (Bq.T × Nat)) (IT : Except Nat (List Bq.T)) (x : List Nat) (k : Nat) (acc : List Bq.T) : Prop :=
  ∃ f, x.length - k ≤ f ∧ IT = (Bq.items elem f (x.drop k)).map (acc ++ ·)
section
variable {elem : List Nat → Except Nat (Bq.T × Nat)} {IT : Except Nat (List Bq.T)} {x : List Nat} {k : Nat} {acc : List Bq.T}
theorem ItemsAt.fin (h : ItemsAt elem IT x k acc) (hk : x.length ≤ k) : IT = .ok acc := by
  obtain ⟨f, _, h⟩ := h
  rw [List.drop_eq_nil_of_le hk] at h
  cases f <;> simpa [Bq.items, Except.map] using h
theorem ItemsAt.go (h : ItemsAt elem IT x k acc) (hk : k < x.length) : (∀ e, elem (x.drop k) = .error e → IT = .error e) ∧ (∀ t m, elem (x.drop k) = .ok (t, m) → 1 ≤ m → ItemsAt elem IT x (k + m) (acc ++ [t])) := by
  obtain ⟨f, hf, h⟩ := h
  cases f with
  | zero => omega
  | succ f =>
    rw [List.drop_eq_getElem_cons hk, Bq.items, ← List.drop_eq_getElem_cons hk] at h
    refine ⟨fun e he => ?_, fun t m he hm => ⟨f, by omega, ?_⟩⟩
    · rw [he] at h; exact h
    · rw [he] at h
      simp only [List.drop_drop] at h
      rw [h]
      cases Bq.items elem f (x.drop (k + m)) with
      | error e => rfl
      | ok p => simp [Except.map]
end
end Go.Proofs.Ytkjofadabaecfaa
