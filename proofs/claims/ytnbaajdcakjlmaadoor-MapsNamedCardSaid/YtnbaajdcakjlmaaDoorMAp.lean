/-
  append of any row that came in onto a row of the call's own; what a drawn region leaves in the slots.
-/
import Derived.Test.YtnbaajdcakjlmaaDoorMRegO
namespace Go.Proofs.YtnbaajdcakjlmaaDoor
open Go.RowKit

theorem run_append_sl {w : World} {B n m c size bytes : Nat} {ok : Nat → Prop} {v : Value} {A : Option Addr} {cs ds : List Value} (t ty e : TypeId) (i : TypeInfo) (z : Value)
    (ht : Tryd.prog.underlying t = some (.slice e)) (hi : Tryd.prog.info? e = some i) (hz : i.zero = some z) (hsize : i.size = size) (hby : i.bytes = bytes) (hzs : z.cells.size = size) (hsz : 0 < size)
    (hown : w.ownsRow B e size v n cs) (hS : SlIs w ok (.slice A m c) m ds) (hl : ds.length = m * size) (h1 : ∀ u ∈ ds, u.oneCell' = true)
    (h63 : n + m ≤ maxLen) (hb : (n + m) * bytes ≤ 140737488355328) (hbase : B ≤ w.heap.size) :
    ∃ v' w', (Builtin.append_ #[t, t] ty #[v, .slice A m c]).run Tryd.prog w = .ok v' w' ∧ w'.ownsRow B e size v' (n + m) (cs ++ ds) ∧ w.grownBy w' v.ownBlock ∧ (v'.ownBlock = v.ownBlock ∨ v'.ownBlock = some w.heap.size) := by
  have main : ∀ a : Addr, A = some a → (∀ j u, ds[j]? = some u → w.cell? (a.add j) = some u) →
      ∃ v' w', (Builtin.append_ #[t, t] ty #[v, .slice A m c]).run Tryd.prog w = .ok v' w' ∧ w'.ownsRow B e size v' (n + m) (cs ++ ds) ∧ w.grownBy w' v.ownBlock ∧ (v'.ownBlock = v.ownBlock ∨ v'.ownBlock = some w.heap.size) := by
    rintro a rfl ha
    obtain ⟨v', w', h2, h3, h4, _, h5⟩ := run_append_own_at (P := Tryd.prog) (w := w) B t ty e i z size bytes ht hi hz hsize hby hzs hsz v n cs hown a m c ds hl ha h1 h63 hb hbase
    exact ⟨v', w', h2, h3, h4, h5⟩
  obtain ⟨A', c', e', _, _, h3⟩ := hS
  injection e' with e1 e2 e3
  subst e1 e3
  rcases Nat.eq_zero_or_pos m with h0 | h0
  · subst h0
    have hds : ds = [] := List.eq_nil_of_length_eq_zero (by rw [hl, Nat.zero_mul])
    subst hds
    cases A with
    | some a => exact main a rfl (fun j u hj => by simp at hj)
    | none =>
      refine ⟨v, w, ?_, by simpa using hown, World.grownBy.refl w _, .inl rfl⟩
      rcases hown.2 with ⟨rfl, _⟩ | ⟨g, cap, cur, rfl, _, _, hnc, _⟩
      · simp [Builtin.append_, run_underlying ht, sizeOf, typeInfo, hi, Builtin.lenOf, Builtin.firstCells]
      · simp [Builtin.append_, run_underlying ht, sizeOf, typeInfo, hi, Builtin.lenOf, Builtin.firstCells, hnc, storeCells]
  · obtain ⟨b, off, rfl, _, _, hc⟩ := h3 h0
    exact main _ rfl (fun j u hj => by rw [Addr.add_lit]; exact hc j u hj)
/-- The slots behind a region: those of before, these ones written. -/
theorem sets_eq : ∀ (ds : List (Nat × Value)) (T t : Array Value), t.size = T.size → (∀ p ∈ ds, t[p.1]? = some p.2) → (∀ s, (∀ p ∈ ds, p.1 ≠ s) → t[s]? = T[s]?) → t = ds.foldl (fun T p => T.setIfInBounds p.1 p.2) T
  | [], T, t, _, _, h => Array.ext_getElem? (fun s => h s (fun _ h => nomatch h))
  | p :: r, T, t, hs, h1, h2 => by
    refine sets_eq r (T.setIfInBounds p.1 p.2) t (by simpa using hs) (fun q hq => h1 q (List.mem_cons_of_mem _ hq)) (fun s hs' => ?_)
    by_cases hp : p.1 = s
    · subst hp
      have h := h1 p (List.mem_cons_self ..)
      have hlt : p.1 < T.size := by rw [← hs]; exact (Array.getElem?_eq_some_iff.1 h).1
      rw [h]
      simp [hlt]
    · rw [Array.getElem?_setIfInBounds_ne hp]
      exact h2 s (fun q hq => by
        rcases List.mem_cons.1 hq with rfl | hq
        · exact hp
        · exact hs' q hq)
theorem SlotInvA.sets {ops : Array Oper} {a0 a : Act} {I : Array Bool → Act → World → Prop} {F : Array Bool → Nat → Value → World → Prop} {listed : Array Bool} {w : World} (h : SlotInvA ops a0 I F listed a w) (ds : List (Nat × Value)) (h1 : ∀ p ∈ ds, a.tmps[p.1]? = some p.2) (h2 : (ops.all fun o => match o.dst with
    | none => true
    | some d => ds.any fun p => p.1 == d) = true) : a = ⟨ds.foldl (fun T p => T.setIfInBounds p.1 p.2) a0.tmps, a0.defers⟩ := by
  have h4 := sets_eq ds a0.tmps a.tmps h.size h1 (fun s hs => h.old s (fun o ho hd => by
    have h3 := Array.all_eq_true'.1 h2 o ho
    rw [hd] at h3
    obtain ⟨p, hp, e⟩ := List.any_eq_true.1 h3
    exact hs p hp (by simpa using e)))
  have h5 := h.defers
  cases a
  simp only at h4 h5
  subst h4 h5
  rfl
theorem own_apartT {w : World} {B B' n n' size size' : Nat} {t t' : TypeId} {v v' : Value} {xs ys : List Value} (ht : t ≠ t') (h : w.ownsRow B t size v n xs) (h' : w.ownsRow B' t' size' v' n' ys) : ∀ b, v.ownBlock = some b → v'.ownBlock ≠ some b := by
  intro b e e'
  rcases h.2 with ⟨rfl, _⟩ | ⟨g, cap, cur, rfl, _, hg, _⟩
  · cases e
  rcases h'.2 with ⟨rfl, _⟩ | ⟨g', cap', cur', rfl, _, hg', _⟩
  · cases e'
  have e : g = b := by simpa [Value.ownBlock] using e
  have e' : g' = b := by simpa [Value.ownBlock] using e'
  subst e e'
  rw [hg] at hg'
  injection hg' with hg'
  injection hg' with _ h2 _
  exact absurd h2 ht
theorem own_apartL {w : World} {B n size Z : Nat} {t t' : TypeId} {v : Value} {xs cs : List Value} (ht : t ≠ t') (h : w.ownsRow B t size v n xs) (h' : Lies w Z t' cs) : v.ownBlock ≠ some Z := by
  intro e
  rcases h.2 with ⟨rfl, _⟩ | ⟨g, cap, cur, rfl, _, hg, _⟩
  · cases e
  have e : g = Z := by simpa [Value.ownBlock] using e
  subst e
  unfold Lies at h'
  rw [hg] at h'
  injection h' with h'
  injection h' with _ h2 _
  exact absurd h2 ht
theorem NsE.sl {w : World} {ok : Nat → Prop} {v : Value} {ns : List Zq.Nd} (h : NsE w ok v ns) : SlIs w ok v ns.length (ncells ns) := by
  obtain ⟨A, c, rfl, h1, h2, _, h5⟩ := h
  exact ⟨A, c, rfl, h1, h2, h5⟩
theorem ncells_ones (ns : List Zq.Nd) : ∀ u ∈ ncells ns, u.oneCell' = true := fun u hu => by
  obtain ⟨n, _, hu⟩ := List.mem_flatMap.1 hu
  exact ncell_ones n u hu
theorem NsE.ofOwn {w : World} {B n : Nat} {v : Value} {ns : List Zq.Nd} (h : w.ownsRow B 44 5 v n (ncells ns)) (hn : ns.length = n) (ht : ∀ n ∈ ns, ∀ x ∈ n.text, x < 256) : NsE w (B ≤ ·) v ns := by
  subst hn
  obtain ⟨A, c, e, h1, h2, h3⟩ := own_slIs h
  exact ⟨A, c, e, h1, h2, ht, h3⟩
theorem tones (ns : List (List Nat)) : ∀ u ∈ tcells ns, u.oneCell' = true := fun u hu => by
  simp only [tcells, List.mem_map] at hu
  obtain ⟨p, _, rfl⟩ := hu
  rfl
theorem jrow_ones {w : World} {ok : Nat → Prop} {vs : List Value} {l : List Jq.J} (hl : vs.length = l.length) (h : ∀ (i : Nat) v x, vs[i]? = some v → l[i]? = some x → IsJ w ok v x) : (∀ u ∈ vs.flatMap jcells, u.oneCell' = true) ∧ (vs.flatMap jcells).length = vs.length * 6 := by
  have hf : ∀ v ∈ vs, ∃ x, IsJ w ok v x := fun v hv => by
    obtain ⟨i, hi, e⟩ := List.getElem_of_mem hv
    exact ⟨l[i]'(by omega), h i v _ (by rw [List.getElem?_eq_getElem hi, e]) (List.getElem?_eq_getElem _)⟩
  refine ⟨fun u hu => ?_, ?_⟩
  · obtain ⟨v, hv, hu⟩ := List.mem_flatMap.1 hu
    obtain ⟨x, hJ⟩ := hf v hv
    obtain ⟨A1, c1, A2, c2, rfl⟩ := hJ.form
    exact jv_ones _ _ _ _ _ _ _ _ _ _ u hu
  · clear hl h
    induction vs with
    | nil => rfl
    | cons a r ih =>
      obtain ⟨x, hJ⟩ := hf a (List.mem_cons_self ..)
      have h6 := jcells_len hJ
      have := ih (fun v hv => hf v (List.mem_cons_of_mem _ hv))
      rw [List.flatMap_cons, List.length_append, h6, this]
      simp; omega
theorem infoNodeM : (Tryd.prog.info? 44).map (fun i => (i.zero, i.size, i.bytes)) = some (some (.agg #[.int .i64 0, .int .i64 0, .int .i64 0, .int .i64 0, .string ByteArray.empty]), 5, 48) := by kernel_rfl
end Go.Proofs.YtnbaajdcakjlmaaDoor
