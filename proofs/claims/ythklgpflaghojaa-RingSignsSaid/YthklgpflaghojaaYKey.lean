/-
  Keys in memory: what one reads as; a row of keys; a struct of four cells.
-/
import Derived.Test.YthklgpflaghojaaYM
import Derived.Test.YthklgpflaghojaaYBase
namespace Go.Proofs.Ythklgpflaghojaa
open Go.RowKit

/-- A key's four cells. -/
abbrev kv (id : ByteArray) (sec : Value) (made ends : Int) : Value := .agg #[.string id, sec, .int .i64 made, .int .i64 ends]
abbrev I64 (n : Int) : Prop := -9223372036854775808 ≤ n ∧ n ≤ 9223372036854775807
/-- What a value reads as, all its blocks such of which ok speaks. -/
def IsK (w : World) (ok : Nat → Prop) (v : Value) (x : Kq.K) : Prop :=
  ∃ A c, v = kv x.id (.slice A x.secret.length c) x.made x.ends ∧ SlIs w ok (.slice A x.secret.length c) x.secret.length (u8s x.secret) ∧ (x.secret.length ≤ 140737488355328 ∧ ∀ y ∈ x.secret, y < 256) ∧ I64 x.made ∧ I64 x.ends
section
variable {w w' : World} {ok ok' : Nat → Prop} {v : Value} {x : Kq.K}
theorem IsK.keep (h : IsK w ok v x) (hk : ∀ b, ok b → b < w.heap.size → ok' b ∧ w'.heap[b]? = w.heap[b]?) (hs : w.heap.size ≤ w'.heap.size) : IsK w' ok' v x := by
  obtain ⟨A, c, h1, h2, h3⟩ := h
  exact ⟨A, c, h1, h2.keep hk hs, h3⟩
theorem IsK.on (h : IsK w ok v x) (hb : Below w.heap.size w w') : IsK w' ok v x := h.keep (fun b hb' hlt => ⟨hb', hb.block b hlt⟩) hb.size
theorem IsK.any (h : IsK w ok v x) : IsK w (fun _ => True) v x := h.keep (fun _ _ _ => ⟨trivial, rfl⟩) (Nat.le_refl _)
theorem IsK.from {B C : Nat} (h : IsK w (B ≤ ·) v x) (hB : C ≤ B) : IsK w (C ≤ ·) v x := h.keep (fun _ hb _ => ⟨Nat.le_trans hB hb, rfl⟩) (Nat.le_refl _)
theorem IsK.drew (h : IsK w ok v x) : IsK w.drew ok v x := IsK.keep (w := w) (w' := w.drew) (ok := ok) h (fun _ hb _ => ⟨hb, rfl⟩) (Nat.le_refl _)
theorem slIs_argIs {A : Option Addr} {c : Nat} {q : List Nat} (h : SlIs w ok (.slice A q.length c) q.length (u8s q)) (hq : ∀ x ∈ q, x < 256) : ArgIs w A c q := by
  obtain ⟨A', c', e, h1, h2, h3⟩ := h
  injection e with e1 e2 e3
  subst e1 e3
  refine ⟨h1, h2, hq, fun hp => ?_⟩
  obtain ⟨b, off, rfl, _, h5, h6⟩ := h3 hp
  exact ⟨b, off, rfl, h5, fun j x hj => ⟨hq x (List.mem_of_getElem? hj), h6 j _ (by simp [u8s, hj])⟩⟩
theorem argIs_slIs {A : Option Addr} {c : Nat} {q : List Nat} (h : ArgIs w A c q) : SlIs w (fun _ => True) (.slice A q.length c) q.length (u8s q) := by
  obtain ⟨h1, h2, _, h4⟩ := h
  refine ⟨A, c, rfl, h1, h2, fun hp => ?_⟩
  obtain ⟨b, off, rfl, h5, h6⟩ := h4 hp
  exact ⟨b, off, rfl, trivial, h5, fun j x hj => by
    simp only [u8s, List.getElem?_map, Option.map_eq_some_iff] at hj
    obtain ⟨y, hy, rfl⟩ := hj
    exact (h6 j y hy).2⟩
/-- The parts of a key. -/
theorem IsK.parts (h : IsK w ok v x) : ∃ A c, v = kv x.id (.slice A x.secret.length c) x.made x.ends ∧ ArgIs w A c x.secret ∧ x.secret.length ≤ 140737488355328 ∧ I64 x.made ∧ I64 x.ends := by
  obtain ⟨A, c, h1, h2, h3, h4, h5⟩ := h
  exact ⟨A, c, h1, slIs_argIs h2 h3.2, h3.1, h4, h5⟩
theorem isK_zero (w : World) (ok : Nat → Prop) : IsK w ok (kv ByteArray.empty (.slice none 0 0) 0 0) ⟨ByteArray.empty, [], 0, 0⟩ :=
  ⟨none, 0, rfl, SlIs.nil w ok, ⟨Nat.zero_le _, fun _ h => nomatch h⟩, ⟨by decide, by decide⟩, by decide, by decide⟩
theorem kcells_len (h : IsK w ok v x) : (jcells v).length = 4 := by
  obtain ⟨A, c, rfl, _⟩ := h; rfl
end
theorem flat4_at : ∀ (vs : List Value), (∀ v ∈ vs, (jcells v).length = 4) → ∀ (i j : Nat) (v : Value), vs[i]? = some v → j < 4 → (vs.flatMap jcells)[i * 4 + j]? = (jcells v)[j]?
  | [], _, i, j, v, h, _ => by simp at h
  | a :: r, hl, 0, j, v, h, hj => by
    simp at h
    subst h
    rw [List.flatMap_cons, List.getElem?_append_left (by have := hl a (by simp); omega)]
    simp
  | a :: r, hl, i + 1, j, v, h, hj => by
    have ha := hl a (by simp)
    rw [List.flatMap_cons, List.getElem?_append_right (by omega), show (i + 1) * 4 + j - (jcells a).length = i * 4 + j from by omega]
    exact flat4_at r (fun v hv => hl v (by simp [hv])) i j v (by simpa using h) hj
/-- A row of keys in memory. -/
def KsIs (w : World) (ok : Nat → Prop) (v : Value) (l : List Kq.K) : Prop :=
  ∃ vs : List Value, SlIs w ok v l.length (vs.flatMap jcells) ∧ vs.length = l.length ∧ l.length * 56 ≤ 140737488355328 ∧ ∀ (i : Nat) v x, vs[i]? = some v → l[i]? = some x → IsK w ok v x
section
variable {w w' : World} {ok ok' : Nat → Prop} {v : Value} {l : List Kq.K}
theorem KsIs.form (h : KsIs w ok v l) : ∃ A c, v = .slice A l.length c := by
  obtain ⟨_, ⟨A, c, rfl, _⟩, _⟩ := h
  exact ⟨A, c, rfl⟩
theorem KsIs.keep (h : KsIs w ok v l) (hk : ∀ b, ok b → b < w.heap.size → ok' b ∧ w'.heap[b]? = w.heap[b]?) (hs : w.heap.size ≤ w'.heap.size) : KsIs w' ok' v l := by
  obtain ⟨vs, h1, h2, h3, h4⟩ := h
  exact ⟨vs, h1.keep hk hs, h2, h3, fun i v x e1 e2 => (h4 i v x e1 e2).keep hk hs⟩
theorem KsIs.on (h : KsIs w ok v l) (hb : Below w.heap.size w w') : KsIs w' ok v l := h.keep (fun b hb' hlt => ⟨hb', hb.block b hlt⟩) hb.size
theorem KsIs.any (h : KsIs w ok v l) : KsIs w (fun _ => True) v l := h.keep (fun _ _ _ => ⟨trivial, rfl⟩) (Nat.le_refl _)
theorem KsIs.drew (h : KsIs w ok v l) : KsIs w.drew ok v l := KsIs.keep (w := w) (w' := w.drew) (ok := ok) h (fun _ hb _ => ⟨hb, rfl⟩) (Nat.le_refl _)
theorem KsIs.len (h : KsIs w ok v l) : l.length * 56 ≤ 140737488355328 := by
  obtain ⟨_, _, _, h3, _⟩ := h
  exact h3
theorem KsIs.nil (w : World) (ok : Nat → Prop) : KsIs w ok (.slice none 0 0) [] := ⟨[], SlIs.nil w ok, rfl, Nat.zero_le _, fun i v x h => by simp at h⟩
/-- The first of the keys. -/
theorem KsIs.take {A : Option Addr} {n c : Nat} (h : KsIs w ok (.slice A n c) l) {k : Nat} (hk : k ≤ l.length) : KsIs w ok (.slice A k c) (l.take k) := by
  obtain ⟨vs, ⟨A', c', e, h1, h2, h3⟩, hvs, hl, hel⟩ := h
  injection e with e1 e2 e3
  subst e1 e3
  have hkl : (l.take k).length = k := by rw [List.length_take]; omega
  have h6 : ∀ v ∈ vs, (jcells v).length = 4 := fun v hm => by
    obtain ⟨j, hj, rfl⟩ := List.mem_iff_getElem.1 hm
    exact kcells_len (hel j _ _ (List.getElem?_eq_getElem hj) (List.getElem?_eq_getElem (by omega)))
  have hpre : vs.flatMap jcells = (vs.take k).flatMap jcells ++ (vs.drop k).flatMap jcells := by rw [← List.flatMap_append, List.take_append_drop]
  refine ⟨vs.take k, ⟨A, c, by rw [hkl], by rw [hkl]; omega, h2, fun h0 => ?_⟩, by rw [hkl, List.length_take]; omega, by rw [hkl]; omega, fun i v x e1 e2 => ?_⟩
  · rw [hkl] at h0
    obtain ⟨b, off, rfl, h4, h5, h7⟩ := h3 (by omega)
    refine ⟨b, off, rfl, h4, h5, fun j x hj => h7 j x ?_⟩
    rw [hpre, List.getElem?_append_left (List.getElem?_eq_some_iff.1 hj).1]
    exact hj
  · rw [List.getElem?_take] at e1 e2
    split at e1
    · rw [if_pos (by assumption)] at e2
      exact hel i v x e1 e2
    · cases e1
/-- The key at a place: its cells, and that it is one. -/
theorem KsIs.elem {A : Option Addr} {n c : Nat} (h : KsIs w ok (.slice A n c) l) {i : Nat} (hi : i < l.length) :
    ∃ b off x A1 c1, A = some ⟨b, off, none⟩ ∧ ok b ∧ b < w.heap.size ∧ l[i]? = some x ∧ IsK w ok (kv x.id (.slice A1 x.secret.length c1) x.made x.ends) x ∧
      w.cell? ⟨b, off + i * 4, none⟩ = some (.string x.id) ∧ w.cell? ⟨b, off + i * 4 + 1, none⟩ = some (.slice A1 x.secret.length c1) ∧ w.cell? ⟨b, off + i * 4 + 2, none⟩ = some (.int .i64 x.made) ∧ w.cell? ⟨b, off + i * 4 + 3, none⟩ = some (.int .i64 x.ends) := by
  obtain ⟨vs, ⟨A', c', e, h1, h2, h3⟩, hvs, hl, hel⟩ := h
  injection e with e1 e2 e3
  subst e1 e3
  obtain ⟨b, off, rfl, hb, hlt, hc⟩ := h3 (by omega)
  have hv : vs[i]? = some (vs[i]'(by omega)) := List.getElem?_eq_getElem (by omega)
  have hx : l[i]? = some l[i] := List.getElem?_eq_getElem hi
  have hJ := hel i _ _ hv hx
  obtain ⟨A1, c1, ev, hrest⟩ := hJ
  have hJ := hel i _ _ hv hx
  have h6 : ∀ v ∈ vs, (jcells v).length = 4 := fun v hm => by
    obtain ⟨j, hj, rfl⟩ := List.mem_iff_getElem.1 hm
    exact kcells_len (hel j _ _ (List.getElem?_eq_getElem hj) (List.getElem?_eq_getElem (by omega)))
  have hcell : ∀ j u, j < 4 → (jcells (vs[i]'(by omega)))[j]? = some u → w.cell? ⟨b, off + (i * 4 + j), none⟩ = some u := fun j u hj hu => hc _ u (by rw [flat4_at vs h6 i j _ hv hj, hu])
  rw [ev] at hJ hcell
  refine ⟨b, off, l[i], A1, c1, rfl, hb, hlt, hx, hJ, hcell 0 _ (by omega) rfl, ?_, ?_, ?_⟩
  all_goals rw [Nat.add_assoc]
  · exact hcell 1 _ (by omega) rfl
  · exact hcell 2 _ (by omega) rfl
  · exact hcell 3 _ (by omega) rfl
theorem KsIs.get {A : Option Addr} {n c : Nat} (h : KsIs w ok (.slice A n c) l) : n = l.length := by
  obtain ⟨_, e⟩ := h.form
  obtain ⟨c', e⟩ := e
  injection e
end
theorem infoKey : (Try.prog.info? 27).map (fun i => (i.zero, i.size, i.bytes)) = some (some (kv ByteArray.empty nilS 0 0), 4, 56) := by kernel_rfl
theorem kv_ones (id : ByteArray) (A : Option Addr) (n c : Nat) (a b : Int) : ∀ u ∈ jcells (kv id (.slice A n c) a b), u.oneCell' = true := by
  intro u hu
  simp [jcells] at hu
  rcases hu with rfl | rfl | rfl | rfl <;> rfl

/-! A struct of four cells in a block of the call's own. -/
section
variable {w w' : World} {g : Nat} {ty : TypeId} {a b c d x0 x1 x2 x3 : Value}
abbrev put4 (w : World) (g : Nat) (a b c d : Value) : World := (((w.setCell ⟨g, 0, none⟩ a).setCell ⟨g, 1, none⟩ b).setCell ⟨g, 2, none⟩ c).setCell ⟨g, 3, none⟩ d
theorem Lies.put4 (h : Lies w g ty [x0, x1, x2, x3]) : Lies (put4 w g a b c d) g ty [a, b, c, d] := by
  have := (((h.put 0 a).put 1 b).put 2 c).put 3 d
  simpa using this
theorem Lies.four (h : Lies w g ty [a, b, c, d]) : (w.cell? ⟨g, 0, none⟩ = some a ∧ w.cell? ⟨g, 1, none⟩ = some b ∧ w.cell? ⟨g, 2, none⟩ = some c ∧ w.cell? ⟨g, 3, none⟩ = some d) ∧
    (w.frozen? ⟨g, 0, none⟩ = false ∧ w.frozen? ⟨g, 1, none⟩ = false ∧ w.frozen? ⟨g, 2, none⟩ = false ∧ w.frozen? ⟨g, 3, none⟩ = false) :=
  ⟨⟨h.cell 0, h.cell 1, h.cell 2, h.cell 3⟩, h.free 0, h.free 1, h.free 2, h.free 3⟩
theorem put4_far {k : Nat} (hk : k ≠ g) : (Go.Proofs.Ythklgpflaghojaa.put4 w g a b c d).heap[k]? = w.heap[k]? := by
  rw [Below.heap_setCell _ _ _ _ hk, Below.heap_setCell _ _ _ _ hk, Below.heap_setCell _ _ _ _ hk, Below.heap_setCell _ _ _ _ hk]
theorem put4_size : (Go.Proofs.Ythklgpflaghojaa.put4 w g a b c d).heap.size = w.heap.size := by simp [World.setCell]
theorem below_put4 {w0 : World} {B : Nat} (hb : Below B w0 w) (hg : B ≤ g) : Below B w0 (Go.Proofs.Ythklgpflaghojaa.put4 w g a b c d) := (((hb.setCell hg _).setCell hg _).setCell hg _).setCell hg _
theorem IsK.put4 {B : Nat} {v : Value} {x : Kq.K} (hJ : IsK w (B ≤ ·) v x) (hg : g < B) : IsK (Go.Proofs.Ythklgpflaghojaa.put4 w g a b c d) (B ≤ ·) v x :=
  hJ.keep (fun k hk _ => ⟨hk, put4_far (by have : B ≤ k := hk; omega)⟩) (Nat.le_of_eq put4_size.symm)
end

/-! A row of keys of the call's own. -/
/-- A row of the call's own, laid from base B on; what its keys hold lies in blocks of which P speaks, none of them the row's own. -/
def RowK (P : Nat → Prop) (B n : Nat) (l : List Kq.K) (lv : Value) (w : World) : Prop :=
  B ≤ w.heap.size ∧ l.length = n ∧ ∃ vs : List Value, vs.length = n ∧ w.ownsRow B 27 4 lv n (vs.flatMap jcells) ∧ ∀ (i : Nat) v x, vs[i]? = some v → l[i]? = some x → IsK w (fun b => P b ∧ lv.ownBlock ≠ some b) v x
section
variable {P : Nat → Prop} {B n C : Nat} {l : List Kq.K} {lv : Value} {w w' : World}
theorem RowK.nil (h : B ≤ w.heap.size) : RowK P B 0 [] (.slice none 0 0) w := ⟨h, rfl, [], rfl, World.ownsRow_nil _ _ _ _, fun i v x e => by simp at e⟩
theorem RowK.on (h : RowK P B n l lv w) (hb : Below w.heap.size w w') : RowK P B n l lv w' := by
  obtain ⟨h1, h2, vs, h3, h4, h5⟩ := h
  exact ⟨Nat.le_trans h1 hb.size, h2, vs, h3, own_below h4 hb, fun i v x e1 e2 => (h5 i v x e1 e2).on hb⟩
theorem RowK.drew (h : RowK P B n l lv w) : RowK P B n l lv w.drew := h.on ⟨rfl, rfl, rfl, Nat.le_refl _, fun _ _ => rfl⟩
theorem RowK.list {Q : Nat → Prop} (h : RowK P B n l lv w) (hP : ∀ b, P b → Q b) (hB : ∀ b, B ≤ b → Q b) (hl : n * 56 ≤ 140737488355328) : KsIs w Q lv l := by
  obtain ⟨h1, rfl, vs, h3, h4, h5⟩ := h
  exact ⟨vs, (own_slIs h4).keep (fun b hb _ => ⟨hB b hb, rfl⟩) (Nat.le_refl _), h3, hl, fun i v x e1 e2 => (h5 i v x e1 e2).keep (fun b hb _ => ⟨hP b hb.1, rfl⟩) (Nat.le_refl _)⟩
theorem RowK.len (h : RowK P B n l lv w) : l.length = n := h.2.1
theorem RowK.form (h : RowK P B n l lv w) : ∃ A c, lv = .slice A n c := by
  obtain ⟨_, _, _, _, h4, _⟩ := h
  exact own_slice h4
theorem RowK.ge (h : RowK P B n l lv w) : B ≤ w.heap.size := h.1
/-- One key more: vs are those ahead of it. -/
theorem rowK_more {lv' v : Value} {x : Kq.K} {w1 w2 : World} {vs : List Value} (hB : B ≤ w1.heap.size) (hl : l.length = n) (hvs : vs.length = n)
    (hel : ∀ (i : Nat) v x, vs[i]? = some v → l[i]? = some x → IsK w1 (fun b => P b ∧ lv.ownBlock ≠ some b) v x)
    (hJ : IsK w1 (fun b => P b ∧ lv.ownBlock ≠ some b) v x)
    (ho2 : w2.ownsRow B 27 4 lv' (n + 1) (vs.flatMap jcells ++ jcells v)) (hgr : w1.grownBy w2 lv.ownBlock) (hat : lv'.ownBlock = lv.ownBlock ∨ lv'.ownBlock = some w1.heap.size) :
    RowK P B (n + 1) (l ++ [x]) lv' w2 := by
  refine ⟨Nat.le_trans hB hgr.size, by simp [hl], vs ++ [v], by simp [hvs], by rw [List.flatMap_append]; simpa using ho2, ?_⟩
  have hnew : ∀ b, b < w1.heap.size → lv.ownBlock ≠ some b → lv'.ownBlock ≠ some b := fun b h1 h2 e => by
    rcases hat with hat | hat
    · exact h2 (hat.symm.trans e)
    · rw [hat] at e
      injection e with e
      omega
  have go : ∀ u y, IsK w1 (fun b => P b ∧ lv.ownBlock ≠ some b) u y → IsK w2 (fun b => P b ∧ lv'.ownBlock ≠ some b) u y := fun u y h =>
    h.keep (fun b hb hlt => ⟨⟨hb.1, hnew b hlt hb.2⟩, hgr.block b hlt (fun e => hb.2 e.symm)⟩) hgr.size
  intro i u y hu hy
  by_cases hi : i < n
  · rw [List.getElem?_append_left (by omega)] at hu hy
    exact go u y (hel i u y hu hy)
  · rw [List.getElem?_append_right (by omega)] at hu hy
    have hi0 : i - n = 0 := by
      have := (List.getElem?_eq_some_iff.1 hy).1
      simp at this; omega
    rw [hl, hi0] at hy
    rw [hvs, hi0] at hu
    simp at hu hy
    subst hu hy
    exact go _ _ hJ
/-- The blocks of the row's own lie from its base on, below where the world ends. -/
theorem RowK.lt (h : RowK P B n l lv w) : ∀ k, lv.ownBlock = some k → B ≤ k ∧ k < w.heap.size := by
  obtain ⟨_, _, vs, _, h4, _⟩ := h
  exact fun k e => h4.lt k e
end
end Go.Proofs.Ythklgpflaghojaa
