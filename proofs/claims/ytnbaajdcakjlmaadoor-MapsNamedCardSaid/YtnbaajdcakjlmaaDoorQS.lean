/-
  QS: JElems JOnly JSame JSame2 JRSame, side by side.
-/
import Derived.Test.YtnbaajdcakjlmaaDoorQB
import Derived.Test.YtnbaajdcakjlmaaDoorQA
import Derived.Test.YtnbaajdcakjlmaaDoorQD

/-
  The elements of a value that came in: where their cells lie.
-/
namespace Go.Proofs.YtnbaajdcakjlmaaDoor
open Go.RowKit

theorem jcells_len {w : World} {ok : Nat → Prop} {v : Value} {x : Jq.J} (h : IsJ w ok v x) : (jcells v).length = 6 := by
  cases h; rfl
theorem flat_at : ∀ (vs : List Value), (∀ v ∈ vs, (jcells v).length = 6) → ∀ (i j : Nat) (v : Value), vs[i]? = some v → j < 6 → (vs.flatMap jcells)[i * 6 + j]? = (jcells v)[j]?
  | [], _, i, j, v, h, _ => by simp at h
  | a :: r, hl, 0, j, v, h, hj => by
    simp at h
    subst h
    rw [List.flatMap_cons, List.getElem?_append_left (by have := hl a (by simp); omega)]
    simp
  | a :: r, hl, i + 1, j, v, h, hj => by
    have ha := hl a (by simp)
    rw [List.flatMap_cons, List.getElem?_append_right (by omega), show (i + 1) * 6 + j - (jcells a).length = i * 6 + j from by omega]
    exact flat_at r (fun v hv => hl v (by simp [hv])) i j v (by simpa using h) hj
/-- The six cells from a place on. -/
def SixAt (w : World) (b o : Nat) (v0 v1 v2 v3 v4 v5 : Value) : Prop :=
  w.cell? ⟨b, o, none⟩ = some v0 ∧ w.cell? ⟨b, o + 1, none⟩ = some v1 ∧ w.cell? ⟨b, o + 2, none⟩ = some v2 ∧ w.cell? ⟨b, o + 3, none⟩ = some v3 ∧ w.cell? ⟨b, o + 4, none⟩ = some v4 ∧ w.cell? ⟨b, o + 5, none⟩ = some v5
/-- A list of values in memory. -/
def ListIs (w : World) (ok : Nat → Prop) (v : Value) (l : List Jq.J) : Prop :=
  ∃ vs : List Value, SlIs w ok v l.length (vs.flatMap jcells) ∧ vs.length = l.length ∧ l.length * 88 ≤ 140737488355328 ∧ ∀ (i : Nat) v x, vs[i]? = some v → l[i]? = some x → IsJ w ok v x
theorem IsJ.parts {w : World} {ok : Nat → Prop} {v : Value} {x : Jq.J} (h : IsJ w ok v x) : ∃ names list, v = jv x.kind x.bool x.int (strOf x.text) names list ∧ (-9223372036854775808 ≤ x.kind ∧ x.kind ≤ 9223372036854775807) ∧ (-9223372036854775808 ≤ x.int ∧ x.int ≤ 9223372036854775807) ∧ (x.text.length ≤ 140737488355328 ∧ ∀ y ∈ x.text, y < 256) ∧
    SlIs w ok names x.names.length (tcells x.names) ∧ (∀ p ∈ x.names, p.length ≤ 140737488355328 ∧ ∀ y ∈ p, y < 256) ∧ x.names.length * 16 ≤ 140737488355328 ∧ ListIs w ok list x.list := by
  cases h with
  | mk h1 h2 h3 h4 h5 h6 h7 h8 h9 h10 => exact ⟨_, _, rfl, h1, h2, h3, h4, h5, h6, _, h7, h8, h9, h10⟩
theorem SlIs.form {w : World} {ok : Nat → Prop} {v : Value} {n : Nat} {cs : List Value} (h : SlIs w ok v n cs) : ∃ A c, v = .slice A n c := by
  obtain ⟨A, c, rfl, _⟩ := h
  exact ⟨A, c, rfl⟩
theorem ListIs.form {w : World} {ok : Nat → Prop} {v : Value} {l : List Jq.J} (h : ListIs w ok v l) : ∃ A c, v = .slice A l.length c := by
  obtain ⟨_, ⟨A, c, rfl, _⟩, _⟩ := h
  exact ⟨A, c, rfl⟩
theorem ListIs.keep {w w' : World} {ok ok' : Nat → Prop} {v : Value} {l : List Jq.J} (h : ListIs w ok v l) (hk : ∀ b, ok b → b < w.heap.size → ok' b ∧ w'.heap[b]? = w.heap[b]?) (hs : w.heap.size ≤ w'.heap.size) : ListIs w' ok' v l := by
  obtain ⟨vs, h1, h2, h3, h4⟩ := h
  exact ⟨vs, h1.keep hk hs, h2, h3, fun i v x e1 e2 => (h4 i v x e1 e2).keep hk hs⟩
/-- The element at a place: its cells, and that it is a value. -/
theorem ListIs.elem {w : World} {ok : Nat → Prop} {A : Option Addr} {n c : Nat} {l : List Jq.J} (h : ListIs w ok (.slice A n c) l) {i : Nat} (hi : i < l.length) :
    ∃ b off x A1 c1 A2 c2, A = some ⟨b, off, none⟩ ∧ ok b ∧ b < w.heap.size ∧ l[i]? = some x ∧ IsJ w ok (jv x.kind x.bool x.int (strOf x.text) (.slice A1 x.names.length c1) (.slice A2 x.list.length c2)) x ∧
      SixAt w b (off + i * 6) (.int .i64 x.kind) (.bool x.bool) (.int .i64 x.int) (.string (strOf x.text)) (.slice A1 x.names.length c1) (.slice A2 x.list.length c2) := by
  obtain ⟨vs, ⟨A', c', e, h1, h2, h3⟩, hvs, hl, hel⟩ := h
  injection e with e1 e2 e3
  subst e1 e3
  obtain ⟨b, off, rfl, hb, hlt, hc⟩ := h3 (by omega)
  have hv : vs[i]? = some (vs[i]'(by omega)) := List.getElem?_eq_getElem (by omega)
  have hx : l[i]? = some l[i] := List.getElem?_eq_getElem hi
  have hJ := hel i _ _ hv hx
  obtain ⟨A1, c1, A2, c2, ev⟩ := hJ.form
  have h6 : ∀ v ∈ vs, (jcells v).length = 6 := fun v hm => by
    obtain ⟨j, hj, rfl⟩ := List.mem_iff_getElem.1 hm
    exact jcells_len (hel j _ _ (List.getElem?_eq_getElem hj) (List.getElem?_eq_getElem (by omega)))
  have hcell : ∀ j u, j < 6 → (jcells (vs[i]'(by omega)))[j]? = some u → w.cell? ⟨b, off + (i * 6 + j), none⟩ = some u := fun j u hj hu => hc _ u (by rw [flat_at vs h6 i j _ hv hj, hu])
  rw [ev] at hJ hcell
  refine ⟨b, off, l[i], A1, c1, A2, c2, rfl, hb, hlt, hx, hJ, ?_⟩
  refine ⟨hcell 0 _ (by omega) rfl, ?_, ?_, ?_, ?_, ?_⟩
  all_goals rw [Nat.add_assoc]
  · exact hcell 1 _ (by omega) rfl
  · exact hcell 2 _ (by omega) rfl
  · exact hcell 3 _ (by omega) rfl
  · exact hcell 4 _ (by omega) rfl
  · exact hcell 5 _ (by omega) rfl
theorem drop_at {α : Type} {l : List α} {i : Nat} {x : α} (h : l[i]? = some x) : l.drop i = x :: l.drop (i + 1) := by
  obtain ⟨hi, rfl⟩ := List.getElem?_eq_some_iff.1 h
  exact List.drop_eq_getElem_cons hi
theorem tcells_take (l : List (List Nat)) (k : Nat) : tcells (l.take k) = (tcells l).take k := by simp [tcells, List.map_take]
/-- A row of texts: its beginning, and the text at a place. -/
theorem slIs_take {w : World} {ok : Nat → Prop} {A : Option Addr} {n c : Nat} {ns : List (List Nat)} (h : SlIs w ok (.slice A n c) n (tcells ns)) {k : Nat} (hk : k ≤ n) : SlIs w ok (.slice A k c) k (tcells (ns.take k)) := by
  obtain ⟨A', c', e, h1, h2, h3⟩ := h
  injection e with e1 e2 e3
  subst e1 e3
  refine ⟨A, c, rfl, by omega, h2, fun h0 => ?_⟩
  obtain ⟨b, off, rfl, h4, h5, h6⟩ := h3 (by omega)
  refine ⟨b, off, rfl, h4, h5, fun j x hj => h6 j x ?_⟩
  rw [tcells_take, List.getElem?_take] at hj
  split at hj
  · exact hj
  · cases hj
theorem slIs_text {w : World} {ok : Nat → Prop} {A : Option Addr} {n c : Nat} {ns : List (List Nat)} (h : SlIs w ok (.slice A n c) n (tcells ns)) {k : Nat} (hn : ns.length = n) (hk : k < n) :
    ∃ b off t, A = some ⟨b, off, none⟩ ∧ ok b ∧ b < w.heap.size ∧ n ≤ c ∧ ns[k]? = some t ∧ w.cell? ⟨b, off + k, none⟩ = some (.string (strOf t)) := by
  obtain ⟨A', c', e, h1, h2, h3⟩ := h
  injection e with e1 e2 e3
  subst e1 e3
  obtain ⟨b, off, rfl, h4, h5, h6⟩ := h3 (by omega)
  refine ⟨b, off, ns[k]'(by omega), rfl, h4, h5, h1, List.getElem?_eq_getElem (by omega), h6 k _ ?_⟩
  simp [tcells, List.getElem?_eq_getElem (show k < ns.length by omega)]
end Go.Proofs.YtnbaajdcakjlmaaDoor

/-
  The writer's onlyItsFields.
-/
namespace Go.Proofs.YtnbaajdcakjlmaaDoor
open Go.RowKit

theorem str_empty (t : List Nat) : ((strOf t).toList.isEmpty = true ∧ (strOf t).toList = [] ∧ t = []) ∨ ((strOf t).toList.isEmpty = false ∧ ¬ ((strOf t).toList = []) ∧ t ≠ []) := by
  have hs := strOf_size t
  cases t with
  | nil =>
    have h : (strOf []).toList = [] := by rw [ByteArray.toList_eq]; rfl
    exact .inl ⟨List.isEmpty_iff.2 h, h, rfl⟩
  | cons a r =>
    have h : ¬ ((strOf (a :: r)).toList = []) := fun e => by
      rw [ByteArray.toList_eq] at e
      have := congrArg List.length e
      rw [Array.length_toList] at this
      have h2 : (strOf (a :: r)).data.size = (strOf (a :: r)).size := rfl
      rw [h2, hs] at this
      simp at this
    exact .inr ⟨Bool.eq_false_iff.2 (fun e => h (List.isEmpty_iff.1 e)), h, by simp⟩
theorem len_zero {α : Type} (l : List α) : ((((l.length : Nat) : Int) == 0) = true ∧ l = []) ∨ ((((l.length : Nat) : Int) == 0) = false ∧ l ≠ []) := by
  cases l with
  | nil => exact .inl ⟨rfl, rfl⟩
  | cons a r => exact .inr ⟨by rw [beq_eq_false_iff_ne]; simp; omega, by simp⟩
/-- How onlyItsFields ends. -/
def OnlyEnd (x : Jq.J) (w : World) (e : Ending) (w' : World) : Prop := Below w.heap.size w w' ∧ ((Jq.Only x ∧ e = .returned (.bool true)) ∨ (¬ Jq.Only x ∧ e = .returned (.bool false)))
theorem OnlyEnd.yes {x : Jq.J} {w w' : World} (h : Jq.Only x) (hb : Below w.heap.size w w') : OnlyEnd x w (.returned (.bool true)) w' := ⟨hb, .inl ⟨h, rfl⟩⟩
theorem OnlyEnd.no {x : Jq.J} {w w' : World} (h : ¬ Jq.Only x) (hb : Below w.heap.size w w') : OnlyEnd x w (.returned (.bool false)) w' := ⟨hb, .inr ⟨h, rfl⟩⟩

theorem OnlyEnd.of {x : Jq.J} {w w' : World} {E : Bool} (h : E = true ↔ Jq.Only x) (hb : Below w.heap.size w w') : OnlyEnd x w (.returned (.bool E)) w' := by
  cases E
  · exact OnlyEnd.no (fun hx => by have := h.2 hx; cases this) hb
  · exact OnlyEnd.yes (h.1 rfl) hb

set_option maxRecDepth 100000 in
set_option maxHeartbeats 4000000 in
theorem only_any {ok : Nat → Prop} (v : Value) (x : Jq.J) (w : World) (h : IsJ w ok v x) :
    Calls Tryd.prog 57 #[v] w (OnlyEnd x w) := by
  cases h with
  | mk h1 h2 h3 h4 h5 h6 h7 h8 h9 h10 =>
  rename_i k b n t ns l names list vs
  obtain ⟨A1, c1, rfl, _⟩ := h4
  obtain ⟨A2, c2, rfl, _⟩ := h7
  have HB : Hid (∀ o, Below w.heap.size w (w.alloc o)) := fun o => (Below.refl _ _).alloc (Nat.le_refl _) o
  have hk : (k = 1 ∨ k = 2 ∨ k = 3 ∨ k = 4 ∨ k = 5) ∨ (k ≠ 1 ∧ k ≠ 2 ∧ k ≠ 3 ∧ k ≠ 4 ∧ k ≠ 5) := by omega
  have hO : Jq.Only (.mk k b n t ns l) ↔ ((k = 1 ∨ b = false) ∧ (k = 2 ∨ n = 0) ∧ (k = 3 ∨ t = []) ∧ (k = 5 ∨ ns = []) ∧ (k = 4 ∨ k = 5 ∨ l = [])) := Iff.rfl
  generalize hX : Jq.J.mk k b n t ns l = X at *
  have HO := Lib.hid hO
  have HT := Lib.hid (str_empty t)
  clear h1 h2 h3 h5 h6 h8 h9 h10 hX hO
  generalize strOf t = S at *
  have HN := Lib.hid (len_zero ns)
  have HL := Lib.hid (len_zero l)
  generalize ns.length = N at *
  generalize l.length = L at *
  rcases hk with (rfl | rfl | rfl | rfl | rfl) | ⟨k1, k2, k3, k4, k5⟩
  all_goals
    try
      have d1 : (k == 1) = false := by rw [beq_eq_false_iff_ne]; omega
      have d2 : (k == 2) = false := by rw [beq_eq_false_iff_ne]; omega
      have d3 : (k == 3) = false := by rw [beq_eq_false_iff_ne]; omega
      have d4 : (k == 4) = false := by rw [beq_eq_false_iff_ne]; omega
      have d5 : (k == 5) = false := by rw [beq_eq_false_iff_ne]; omega
    rcases HT.out with ⟨t1, t2, t3⟩ | ⟨t1, t2, t3⟩
    all_goals
      have HT3 := Lib.hid t3
      clear t3 HT
      go_enter Tryd.func57, Tryd.ntmps57
      go_wp2
      all_goals
        go_ret
        refine OnlyEnd.of ?_ (HB.out _)
        rw [HO.out]
        have ht := HT3.out
        rcases HN.out with ⟨hn0, hn⟩ | ⟨hn0, hn⟩ <;> rcases HL.out with ⟨hl0, hl⟩ | ⟨hl0, hl⟩ <;> simp_all
end Go.Proofs.YtnbaajdcakjlmaaDoor

/-
  Same: all fields of two values, at any depth.
-/
namespace Go.Proofs.YtnbaajdcakjlmaaDoor
open Go.RowKit

/-- A bool that tells whether two things are equal. -/
def Tells (P : Prop) (w : World) (e : Ending) (w' : World) : Prop := Below w.heap.size w w' ∧ ((P ∧ e = .returned (.bool true)) ∨ (¬ P ∧ e = .returned (.bool false)))
theorem Tells.yes {P : Prop} {w w' : World} (h : P) (hb : Below w.heap.size w w') : Tells P w (.returned (.bool true)) w' := ⟨hb, .inl ⟨h, rfl⟩⟩
theorem Tells.no {P : Prop} {w w' : World} (h : ¬ P) (hb : Below w.heap.size w w') : Tells P w (.returned (.bool false)) w' := ⟨hb, .inr ⟨h, rfl⟩⟩
theorem IsJ.on {w w' : World} {ok : Nat → Prop} {v : Value} {x : Jq.J} (h : IsJ w ok v x) (hb : Below w.heap.size w w') : IsJ w' ok v x :=
  h.keep (fun b hb' hlt => ⟨hb', hb.block b hlt⟩) hb.size
theorem ListIs.on {w w' : World} {ok : Nat → Prop} {v : Value} {l : List Jq.J} (h : ListIs w ok v l) (hb : Below w.heap.size w w') : ListIs w' ok v l :=
  h.keep (fun b hb' hlt => ⟨hb', hb.block b hlt⟩) hb.size
theorem SlIs.on {w w' : World} {ok : Nat → Prop} {v : Value} {n : Nat} {cs : List Value} (h : SlIs w ok v n cs) (hb : Below w.heap.size w w') : SlIs w' ok v n cs :=
  h.keep (fun b hb' hlt => ⟨hb', hb.block b hlt⟩) hb.size
theorem below_more {w w1 w2 : World} (h1 : Below w.heap.size w w1) (h2 : Below w1.heap.size w1 w2) : Below w.heap.size w w2 := h1.trans (h2.mono h1.size)
theorem below_alloc {w w1 : World} (h : Below w.heap.size w w1) (o : Obj) : Below w.heap.size w (w1.alloc o) := h.alloc h.size o
/-- That two values are told apart, of which the first is this. -/
def SameOk (x : Jq.J) : Prop := ∀ (ok ok' : Nat → Prop) (v u : Value) (y : Jq.J) (w : World), IsJ w ok v x → IsJ w ok' u y →
  Calls Tryd.prog 47 #[v, u] w (Tells (x = y) w)
theorem take_same {l m : List Jq.J} {k : Nat} {x y : Jq.J} (h : l.take k = m.take k) (hx : l[k]? = some x) (hy : m[k]? = some y) (he : x = y) : l.take (k + 1) = m.take (k + 1) := by
  obtain ⟨h1, e1⟩ := List.getElem?_eq_some_iff.1 hx
  obtain ⟨h2, e2⟩ := List.getElem?_eq_some_iff.1 hy
  rw [List.take_succ_eq_append_getElem h1, List.take_succ_eq_append_getElem h2, h, e1, e2, he]

set_option maxHeartbeats 4000000 in
set_option maxRecDepth 100000 in
theorem equalFunc_any {ok ok' : Nat → Prop} (l m : List Jq.J) (ih : ∀ x ∈ l, SameOk x) (lv mv : Value) (w : World) (hL : ListIs w ok lv l) (hM : ListIs w ok' mv m) :
    Calls Tryd.prog 56 #[lv, mv, .func (.func 47) #[] #[]] w (Tells (l = m) w) := by
  obtain ⟨A0, c0, rfl⟩ := hL.form
  obtain ⟨A9, c9, rfl⟩ := hM.form
  by_cases hlen : l.length = m.length
  · obtain ⟨N, eN⟩ : ∃ N, l.length = N := ⟨_, rfl⟩
    have eN2 : m.length = N := by rw [← hlen, eN]
    have hNs : N ≤ 140737488355328 := by
      obtain ⟨_, _, _, h1, _⟩ := hL
      omega
    have HL := Lib.hid hL
    have HM := Lib.hid hM
    have HN := Lib.hid eN
    have HN2 := Lib.hid eN2
    have HI := Lib.hid ih
    have hd0 : ((N : Int) != (N : Int)) = false := by simp
    rw [eN, eN2]
    rw [eN] at HL
    rw [eN2] at HM
    clear eN eN2 hL hM hlen ih
    go_enter Tryd.func56, Tryd.ntmps56
    go_wp2_with fail
    go_loopw [17] (fun i wr => ∃ k : Nat, i = .int .i64 k ∧ k ≤ N ∧ Hid (l.take k = m.take k) ∧ Below w.heap.size w wr) (fun i _ => N - (intOf i).toNat)
    case atStart => exact ⟨0, rfl, Nat.zero_le _, Lib.hid rfl, Below.refl _ _⟩
    case round =>
      obtain ⟨k, rfl, hk, he, hb⟩ := hrel
      by_cases hlt : k < N
      · obtain ⟨b, off, x, B1, e1, B2, e2, rfl, hbb, hblt, hx, hJ, s0, s1, s2, s3, s4, s5⟩ := (HL.out.on hb).elem (by rw [HN.out]; exact hlt)
        obtain ⟨b', off', y, B3, e3, B4, e4, rfl, hbb', hblt', hy, hK, t0, t1, t2, t3, t4, t5⟩ := (HM.out.on hb).elem (by rw [HN2.out]; exact hlt)
        have hbA : ∀ o o', Below wr.heap.size wr ((wr.alloc o).alloc o') := fun o o' => ((Below.refl _ _).alloc (Nat.le_refl _) o).alloc (by simp) o'
        have hS := HI.out x (List.mem_of_getElem? hx) ok ok' _ _ y _
          (hJ.on (hbA (.cells #[.int .i64 x.kind, .bool x.bool, .int .i64 x.int, .string (strOf x.text), .slice B1 x.names.length e1, .slice B2 x.list.length e2] 27) (.cells #[.int .i64 y.kind, .bool y.bool, .int .i64 y.int, .string (strOf y.text), .slice B3 y.names.length e3, .slice B4 y.list.length e4] 27)))
          (hK.on (hbA _ _))
        have hb2 := hb.trans ((hbA (.cells #[.int .i64 x.kind, .bool x.bool, .int .i64 x.int, .string (strOf x.text), .slice B1 x.names.length e1, .slice B2 x.list.length e2] 27) (.cells #[.int .i64 y.kind, .bool y.bool, .int .i64 y.int, .string (strOf y.text), .slice B3 y.names.length e3, .slice B4 y.list.length e4] 27)).mono hb.size)
        have HX := Lib.hid hx
        have HY := Lib.hid hy
        clear hx hy hJ hK hb hbA
        go_wp2_with fail
        refine hS.mono ?_
        rintro e w2 ⟨hb3, ⟨hq, rfl⟩ | ⟨hq, rfl⟩⟩
        · have HQ : Hid (∃ k' : Nat, Value.int .i64 ((k + 1 : Nat) : Int) = .int .i64 k' ∧ k' ≤ N ∧ Hid (l.take k' = m.take k') ∧ Below w.heap.size w w2) := ⟨k + 1, rfl, hlt, Lib.hid (take_same he.out HX.out HY.out hq), below_more hb2 hb3⟩
          clear hS hb3 hb2 hq s0 s1 s2 s3 s4 s5 t0 t1 t2 t3 t4 t5
          go_wp2
          go_roundw
          case rel => exact HQ.out
          case measure => simp [intOf]; omega
        · have HQ : Hid (Tells (l = m) w (.returned (.bool false)) w2) := Tells.no (fun h => hq (by
            have h1 := HX.out
            rw [h] at h1
            exact Option.some.inj (h1.symm.trans HY.out))) (below_more hb2 hb3)
          clear hS hb3 hb2 hq s0 s1 s2 s3 s4 s5 t0 t1 t2 t3 t4 t5
          go_wp2
          go_ret
          exact HQ.out
      · obtain rfl : k = N := by omega
        have hd2 : decide ((k : Int) < (k : Int)) = false := by simp
        have HQ : Hid (Tells (l = m) w (.returned (.bool true)) wr) := Tells.yes (by
          have := he.out
          rwa [List.take_of_length_le (by rw [HN.out]; exact Nat.le_refl _), List.take_of_length_le (by rw [HN2.out]; exact Nat.le_refl _)] at this) hb
        clear he hb
        go_wp2
        go_ret
        exact HQ.out
  · have hd0 : ((l.length : Int) != (m.length : Int)) = true := by rw [bne_iff_ne]; omega
    have HQ : Hid (Tells (l = m) w (.returned (.bool false)) w) := Tells.no (fun h => hlen (by rw [h])) (Below.refl _ _)
    clear hlen hL hM
    go_enter Tryd.func56, Tryd.ntmps56
    go_wp2
    go_ret
    exact HQ.out
end Go.Proofs.YtnbaajdcakjlmaaDoor

/-
  Same, of all values.
-/
namespace Go.Proofs.YtnbaajdcakjlmaaDoor
open Go.RowKit

theorem J_ind {P : Jq.J → Prop} (h : ∀ x : Jq.J, (∀ y ∈ x.list, P y) → P x) : ∀ x, P x
  | .mk k b i t ns l => h _ fun y _hy => J_ind h y
termination_by x => SizeOf.sizeOf x
decreasing_by
  have hy' : y ∈ l := _hy
  have := List.sizeOf_lt_of_mem hy'
  simp
  omega
theorem drewN_below {B : Nat} (w : World) (n : Nat) : Below B w (w.drewN n) := ⟨rfl, rfl, rfl, Nat.le_refl _, fun _ _ => rfl⟩
theorem J_ext {x y : Jq.J} (h1 : x.kind = y.kind) (h2 : x.bool = y.bool) (h3 : x.int = y.int) (h4 : x.text = y.text) (h5 : x.names = y.names) (h6 : x.list = y.list) : x = y := by
  cases x; cases y
  simp only [Jq.J.kind, Jq.J.bool, Jq.J.int, Jq.J.text, Jq.J.names, Jq.J.list] at h1 h2 h3 h4 h5 h6
  subst h1 h2 h3 h4 h5 h6
  rfl

set_option maxHeartbeats 4000000 in
set_option maxRecDepth 100000 in
theorem same_step (x : Jq.J) (ih : ∀ z ∈ x.list, SameOk z) : SameOk x := by
  intro ok ok' v u y w hJ hK
  obtain ⟨nv, lv, rfl, _, _, ht, hS, hns, hnl, hL⟩ := hJ.parts
  obtain ⟨nu, lu, rfl, _, _, ht', hS', hns', hnl', hL'⟩ := hK.parts
  obtain ⟨A0, c0, rfl⟩ := hL.form
  obtain ⟨A9, c9, rfl⟩ := hS.form
  obtain ⟨B0, d0, rfl⟩ := hL'.form
  obtain ⟨B9, d9, rfl⟩ := hS'.form
  have HBW : Hid (∀ o o', Below w.heap.size w ((w.alloc o).alloc o')) := fun o o' => ((Below.refl _ _).alloc (Nat.le_refl _) o).alloc (by simp) o'
  have hT := str_beq ht.2 ht'.2
  have ne : ∀ (P : Prop), (x = y → P) → ¬ P → ∀ o o', Tells (x = y) w (.returned (.bool false)) ((w.alloc o).alloc o') := fun P h hn o o' => Tells.no (fun e => hn (h e)) (HBW.out o o')
  have NE := Lib.hid ne
  clear hJ hK ht ht' ne
  by_cases h1 : x.kind = y.kind
  rotate_left
  · have d1 : (x.kind == y.kind) = false := by rw [beq_eq_false_iff_ne]; exact h1
    have HQ := Lib.hid (NE.out _ (fun e => by rw [e]) h1)
    clear h1 hS hS' hns hns' hnl hnl' hL hL' hT
    go_enter Tryd.func47, Tryd.ntmps47
    go_wp2
    go_ret
    exact HQ.out _ _
  have d1 : (x.kind == y.kind) = true := by rw [beq_iff_eq]; exact h1
  by_cases h2 : x.bool = y.bool
  rotate_left
  · have d2 : (x.bool == y.bool) = false := by rw [beq_eq_false_iff_ne]; exact h2
    have HQ := Lib.hid (NE.out _ (fun e => by rw [e]) h2)
    clear h1 h2 hS hS' hns hns' hnl hnl' hL hL' hT
    go_enter Tryd.func47, Tryd.ntmps47
    go_wp2
    go_ret
    exact HQ.out _ _
  have d2 : (x.bool == y.bool) = true := by rw [beq_iff_eq]; exact h2
  by_cases h3 : x.int = y.int
  rotate_left
  · have d3 : (x.int == y.int) = false := by rw [beq_eq_false_iff_ne]; exact h3
    have HQ := Lib.hid (NE.out _ (fun e => by rw [e]) h3)
    clear h1 h2 h3 hS hS' hns hns' hnl hnl' hL hL' hT
    go_enter Tryd.func47, Tryd.ntmps47
    go_wp2
    go_ret
    exact HQ.out _ _
  have d3 : (x.int == y.int) = true := by rw [beq_iff_eq]; exact h3
  by_cases h4 : x.text = y.text
  rotate_left
  · rw [decide_eq_false h4] at hT
    have HQ := Lib.hid (NE.out _ (fun e => by rw [e]) h4)
    clear h1 h2 h3 h4 hS hS' hns hns' hnl hnl' hL hL'
    go_enter Tryd.func47, Tryd.ntmps47
    go_wp2
    go_ret
    exact HQ.out _ _
  rw [decide_eq_true h4] at hT
  have HX : Hid (x.names = y.names → x.list = y.list → x = y) := fun h5 h6 => J_ext h1 h2 h3 h4 h5 h6
  obtain ⟨cs, ecs⟩ : ∃ cs, cs = [Value.int .i64 x.kind, .bool x.bool, .int .i64 x.int, .string (strOf x.text), .slice A9 x.names.length c9, .slice A0 x.list.length c0] := ⟨_, rfl⟩
  obtain ⟨ds, eds⟩ : ∃ ds, ds = [Value.int .i64 y.kind, .bool y.bool, .int .i64 y.int, .string (strOf y.text), .slice B9 y.names.length d9, .slice B0 y.list.length d0] := ⟨_, rfl⟩
  obtain ⟨W, eW⟩ : ∃ W, W = (w.alloc (.cells cs.toArray 27)).alloc (.cells ds.toArray 27) := ⟨_, rfl⟩
  have hbW : Below w.heap.size w W := by rw [eW]; exact HBW.out _ _
  have hl1 : Lies W w.heap.size 27 cs := by rw [eW]; exact (Lies.new_ rfl).alloc _
  have hl2 : Lies W (w.heap.size + 1) 27 ds := by rw [eW]; exact Lies.new_ (by simp)
  have hE := equal_any x.names y.names _ _ W (hS.on hbW) (hS'.on hbW) (fun p hp => (hns p hp).2) (fun p hp => (hns' p hp).2)
  have HF : Hid (∀ w', Below w.heap.size w w' → Calls Tryd.prog 56 #[.slice A0 x.list.length c0, .slice B0 y.list.length d0, .func (.func 47) #[] #[]] w' (Tells (x.list = y.list) w')) := fun w' hb => equalFunc_any x.list y.list ih _ _ w' (hL.on hb) (hL'.on hb)
  have HWB := Lib.hid hbW
  rw [ecs] at hl1
  rw [eds] at hl2
  rw [eW, ecs, eds] at hl1 hl2 hE HWB
  have HL1 := Lib.hid hl1
  have HL2 := Lib.hid hl2
  have HE := Lib.hid hE
  clear hE eW ecs eds hbW hS hS' hL hL' hns hns' hnl hnl' h1 h2 h3 h4 ih NE HBW hl1 hl2
  go_enter Tryd.func47, Tryd.ntmps47
  go_wp2_with fail
  refine HE.out.mono ?_
  rintro e w1 ⟨rfl, q, hw1⟩
  have hb1 : Below w.heap.size w w1 := by rw [hw1]; exact HWB.out.trans (drewN_below _ q)
  have hl1 : Lies w1 w.heap.size 27 [Value.int .i64 x.kind, .bool x.bool, .int .i64 x.int, .string (strOf x.text), .slice A9 x.names.length c9, .slice A0 x.list.length c0] := by rw [hw1]; exact HL1.out.below (drewN_below _ q) HL1.out.lt
  have hl2 : Lies w1 (w.heap.size + 1) 27 [Value.int .i64 y.kind, .bool y.bool, .int .i64 y.int, .string (strOf y.text), .slice B9 y.names.length d9, .slice B0 y.list.length d0] := by rw [hw1]; exact HL2.out.below (drewN_below _ q) HL2.out.lt
  clear hw1 HE HWB HL1 HL2
  by_cases h5 : x.names = y.names
  rotate_left
  · rw [decide_eq_false h5]
    have HQ : Hid (Tells (x = y) w (.returned (.bool false)) w1) := Tells.no (fun e => h5 (by rw [e])) hb1
    clear h5 hb1 hl1 hl2
    go_wp2
    go_ret
    exact HQ.out
  rw [decide_eq_true h5]
  have hF := HF.out w1 hb1
  obtain ⟨⟨z0, z1, z2, z3, z4, z5⟩, _⟩ := hl1.six
  obtain ⟨⟨y0, y1, y2, y3, y4, y5⟩, _⟩ := hl2.six
  have H5 := Lib.hid h5
  clear h5 hl1 hl2
  go_wp2_with fail
  refine hF.mono ?_
  rintro e w2 ⟨hb2, ⟨hq, rfl⟩ | ⟨hq, rfl⟩⟩
  · have HQ : Hid (Tells (x = y) w (.returned (.bool true)) w2) := Tells.yes (HX.out H5.out hq) (below_more hb1 hb2)
    clear hF hb2 hb1 hq z0 z1 z2 z3 z4 z5 y0 y1 y2 y3 y4 y5
    go_wp2
    go_ret
    exact HQ.out
  · have HQ : Hid (Tells (x = y) w (.returned (.bool false)) w2) := Tells.no (fun e => hq (by rw [e])) (below_more hb1 hb2)
    clear hF hb2 hb1 hq z0 z1 z2 z3 z4 z5 y0 y1 y2 y3 y4 y5
    go_wp2
    go_ret
    exact HQ.out
theorem same_any {ok ok' : Nat → Prop} (x y : Jq.J) (v u : Value) (w : World) (h : IsJ w ok v x) (k : IsJ w ok' u y) : Calls Tryd.prog 47 #[v, u] w (Tells (x = y) w) :=
  J_ind (P := SameOk) (fun x ih => same_step x ih) x ok ok' v u y w h k
end Go.Proofs.YtnbaajdcakjlmaaDoor

/-
  The document's Same.
-/
namespace Go.Proofs.YtnbaajdcakjlmaaDoor
open Go.RowKit

/-- That two values are told apart by the document's Same, of which the first is this. -/
def RSameOk (x : Jq.J) : Prop := ∀ (ok ok' : Nat → Prop) (v u : Value) (y : Jq.J) (w : World), IsJ w ok v x → IsJ w ok' u y →
  Calls Tryd.prog 16 #[v, u] w (Tells (x = y) w)
theorem take_names {l m : List (List Nat)} {k : Nat} {x y : List Nat} (h : l.take k = m.take k) (hx : l[k]? = some x) (hy : m[k]? = some y) (he : x = y) : l.take (k + 1) = m.take (k + 1) := by
  obtain ⟨h1, e1⟩ := List.getElem?_eq_some_iff.1 hx
  obtain ⟨h2, e2⟩ := List.getElem?_eq_some_iff.1 hy
  rw [List.take_succ_eq_append_getElem h1, List.take_succ_eq_append_getElem h2, h, e1, e2, he]
theorem Tells.as {P : Prop} {w w' : World} {e : Ending} (h : Tells P w e w') : ∃ r : Bool, e = .returned (.bool r) ∧ (r = true ↔ P) ∧ Below w.heap.size w w' := by
  obtain ⟨hb, ⟨h, rfl⟩ | ⟨h, rfl⟩⟩ := h
  · exact ⟨true, rfl, ⟨fun _ => h, fun _ => rfl⟩, hb⟩
  · exact ⟨false, rfl, ⟨fun e => (nomatch e), fun e => absurd e h⟩, hb⟩
theorem below_undrew {B : Nat} {w w' : World} (h : Below B w.drew w') : Below B w w' := ⟨h.os, h.tape, h.output, h.size, h.block⟩
theorem IsJ.drew {w : World} {ok : Nat → Prop} {v : Value} {x : Jq.J} (h : IsJ w ok v x) : IsJ w.drew ok v x := IsJ.keep (w := w) (w' := w.drew) (ok := ok) (fun _ hb _ => ⟨hb, rfl⟩) (Nat.le_refl _) h

set_option maxHeartbeats 8000000 in
set_option maxRecDepth 100000 in
theorem refSame_step (x : Jq.J) (ih : ∀ z ∈ x.list, RSameOk z) : RSameOk x := by
  intro ok ok' v u y w hJ hK
  obtain ⟨nv, lv, rfl, _, _, ht, hS, hns, hnl, hL⟩ := hJ.parts
  obtain ⟨nu, lu, rfl, _, _, ht', hS', hns', hnl', hL'⟩ := hK.parts
  obtain ⟨A0, c0, rfl⟩ := hL.form
  obtain ⟨A9, c9, rfl⟩ := hS.form
  obtain ⟨B0, d0, rfl⟩ := hL'.form
  obtain ⟨B9, d9, rfl⟩ := hS'.form
  have HBW : Hid (∀ o o', Below w.heap.size w ((w.alloc o).alloc o')) := fun o o' => ((Below.refl _ _).alloc (Nat.le_refl _) o).alloc (by simp) o'
  have hT := str_beq ht.2 ht'.2
  have ne : ∀ (P : Prop), (x = y → P) → ¬ P → ∀ o o', Tells (x = y) w (.returned (.bool false)) ((w.alloc o).alloc o') := fun P h hn o o' => Tells.no (fun e => hn (h e)) (HBW.out o o')
  have NE := Lib.hid ne
  clear hJ hK ht ht' ne
  by_cases h1 : x.kind = y.kind
  rotate_left
  · have d1 : (x.kind != y.kind) = true := by rw [bne_iff_ne]; exact h1
    have HQ := Lib.hid (NE.out _ (fun e => by rw [e]) h1)
    clear h1 hS hS' hns hns' hnl hnl' hL hL' hT
    go_enter Tryd.func16, Tryd.ntmps16
    go_wp2
    go_ret
    exact HQ.out _ _
  have d1 : (x.kind != y.kind) = false := by rw [h1]; simp
  by_cases h2 : x.bool = y.bool
  rotate_left
  · have d2 : (x.bool == y.bool) = false := by rw [beq_eq_false_iff_ne]; exact h2
    have HQ := Lib.hid (NE.out _ (fun e => by rw [e]) h2)
    clear h1 h2 hS hS' hns hns' hnl hnl' hL hL' hT
    go_enter Tryd.func16, Tryd.ntmps16
    go_wp2
    go_ret
    exact HQ.out _ _
  have d2 : (x.bool == y.bool) = true := by rw [beq_iff_eq]; exact h2
  by_cases h3 : x.int = y.int
  rotate_left
  · have d3 : (x.int != y.int) = true := by rw [bne_iff_ne]; exact h3
    have HQ := Lib.hid (NE.out _ (fun e => by rw [e]) h3)
    clear h1 h2 h3 hS hS' hns hns' hnl hnl' hL hL' hT
    go_enter Tryd.func16, Tryd.ntmps16
    go_wp2
    go_ret
    exact HQ.out _ _
  have d3 : (x.int != y.int) = false := by rw [h3]; simp
  by_cases h4 : x.text = y.text
  rotate_left
  · rw [decide_eq_false h4] at hT
    have HQ := Lib.hid (NE.out _ (fun e => by rw [e]) h4)
    clear h1 h2 h3 h4 hS hS' hns hns' hnl hnl' hL hL'
    go_enter Tryd.func16, Tryd.ntmps16
    go_wp2
    go_ret
    exact HQ.out _ _
  rw [decide_eq_true h4] at hT
  have HX : Hid (x.names = y.names → x.list = y.list → x = y) := fun h5 h6 => J_ext h1 h2 h3 h4 h5 h6
  have hlN : x.names.length ≤ 140737488355328 := by omega
  have hlL : x.list.length ≤ 140737488355328 := by
    obtain ⟨_, _, _, h1, _⟩ := hL
    omega
  by_cases h5 : x.names.length = y.names.length
  rotate_left
  · have d5 : ((x.names.length : Int) != (y.names.length : Int)) = true := by rw [bne_iff_ne]; omega
    have HQ := Lib.hid (NE.out _ (fun e => by rw [e]) h5)
    clear h1 h2 h3 h4 h5 hS hS' hns hns' hnl hnl' hL hL'
    go_enter Tryd.func16, Tryd.ntmps16
    go_wp2
    go_ret
    exact HQ.out _ _
  obtain ⟨N, eN⟩ : ∃ N, x.names.length = N := ⟨_, rfl⟩
  have eN2 : y.names.length = N := by rw [← h5, eN]
  have d5 : ((N : Int) != (N : Int)) = false := by simp
  by_cases h6 : x.list.length = y.list.length
  rotate_left
  · have d6 : ((x.list.length : Int) != (y.list.length : Int)) = true := by rw [bne_iff_ne]; omega
    have HQ := Lib.hid (NE.out _ (fun e => by rw [e]) h6)
    rw [eN, eN2]
    clear h1 h2 h3 h4 h5 h6 hS hS' hns hns' hnl hnl' hL hL' eN eN2
    go_enter Tryd.func16, Tryd.ntmps16
    go_wp2
    go_ret
    exact HQ.out _ _
  obtain ⟨M, eM⟩ : ∃ M, x.list.length = M := ⟨_, rfl⟩
  have eM2 : y.list.length = M := by rw [← h6, eM]
  have d6 : ((M : Int) != (M : Int)) = false := by simp
  obtain ⟨cs, ecs⟩ : ∃ cs, cs = [Value.int .i64 x.kind, .bool x.bool, .int .i64 x.int, .string (strOf x.text), .slice A9 N c9, .slice A0 M c0] := ⟨_, rfl⟩
  obtain ⟨ds, eds⟩ : ∃ ds, ds = [Value.int .i64 y.kind, .bool y.bool, .int .i64 y.int, .string (strOf y.text), .slice B9 N d9, .slice B0 M d0] := ⟨_, rfl⟩
  obtain ⟨W, eW⟩ : ∃ W, W = (w.alloc (.cells cs.toArray 27)).alloc (.cells ds.toArray 27) := ⟨_, rfl⟩
  have hbW : Below w.heap.size w W := by rw [eW]; exact HBW.out _ _
  have hl1 : Lies W w.heap.size 27 cs := by rw [eW]; exact (Lies.new_ rfl).alloc _
  have hl2 : Lies W (w.heap.size + 1) 27 ds := by rw [eW]; exact Lies.new_ (by simp)
  rw [eN] at hS
  rw [eN2] at hS'
  rw [eM] at hL
  rw [eM2] at hL'
  have HS := Lib.hid (hS.on hbW)
  have HS' := Lib.hid (hS'.on hbW)
  have HL := Lib.hid (hL.on hbW)
  have HL' := Lib.hid (hL'.on hbW)
  have HN := Lib.hid eN
  have HN2 := Lib.hid eN2
  have HM := Lib.hid eM
  have HM2 := Lib.hid eM2
  have HNS := Lib.hid hns
  have HNS' := Lib.hid hns'
  have HI := Lib.hid ih
  have HBWW := Lib.hid hbW
  rw [ecs] at hl1
  rw [eds] at hl2
  have HL1 := Lib.hid hl1
  have HL2 := Lib.hid hl2
  have hin : ∀ q, q = W → Below W.heap.size W q := fun q e => by rw [e]; exact Below.refl _ _
  rw [eN] at hlN
  rw [eM] at hlL
  rw [eN, eN2, eM, eM2]
  have HE : Hid (W = (w.alloc (.cells #[Value.int .i64 x.kind, .bool x.bool, .int .i64 x.int, .string (strOf x.text), .slice A9 N c9, .slice A0 M c0] 27)).alloc (.cells #[Value.int .i64 y.kind, .bool y.bool, .int .i64 y.int, .string (strOf y.text), .slice B9 N d9, .slice B0 M d0] 27)) := by unfold Hid; rw [eW, ecs, eds]
  clear eN eN2 eM eM2 eW ecs eds hbW hS hS' hL hL' hns hns' hnl hnl' h1 h2 h3 h4 h5 h6 ih NE HBW hl1 hl2 hin
  go_enter Tryd.func16, Tryd.ntmps16
  go_wp2_with fail
  go_loopw [5] (fun i wr => ∃ k : Nat, i = .int .i64 k ∧ k ≤ N ∧ Hid (x.names.take k = y.names.take k) ∧ Below W.heap.size W wr) (fun i _ => N - (intOf i).toNat)
  case atStart => exact ⟨0, rfl, Nat.zero_le _, Lib.hid rfl, by rw [HE.out]; exact Below.refl _ _⟩
  case round =>
    obtain ⟨k, rfl, hk, he, hb⟩ := hrel
    obtain ⟨⟨z0, z1, z2, z3, z4, z5⟩, _⟩ := (HL1.out.below hb HL1.out.lt).six
    obtain ⟨⟨y0, y1, y2, y3, y4, y5⟩, _⟩ := (HL2.out.below hb HL2.out.lt).six
    by_cases hlt : k < N
    · obtain ⟨b, off, t, rfl, _, hblt, hc, htx, t0⟩ := slIs_text (HS.out.on hb) HN.out hlt
      obtain ⟨b', off', t', rfl, _, hblt', hc', htx', t0'⟩ := slIs_text (HS'.out.on hb) HN2.out hlt
      have hTT := str_beq (HNS.out t (List.mem_of_getElem? htx)).2 (HNS'.out t' (List.mem_of_getElem? htx')).2
      have HTX := Lib.hid htx
      have HTX' := Lib.hid htx'
      clear htx htx' hc hc'
      by_cases heq : t = t'
      · rw [decide_eq_true heq] at hTT
        have HQ := Lib.hid (take_names he.out HTX.out HTX'.out heq)
        clear heq
        go_upto_region 6 with (fail)
        go_quiet (fail)
        go_wp2
        go_roundw
        case rel => exact ⟨k + 1, by go_num, hlt, Lib.hid HQ.out, hb.trans (drewN_below _ _)⟩
        case measure => simp [intOf]; omega
      · rw [decide_eq_false heq] at hTT
        have HQ : Hid (x ≠ y) := fun e => heq (by
          have h1 := HTX.out
          rw [e] at h1
          exact Option.some.inj (h1.symm.trans HTX'.out))
        clear heq
        go_upto_region 6 with (fail)
        go_quiet (fail)
        go_wp2
        go_ret
        exact Tells.no HQ.out (below_more HBWW.out (hb.trans (drewN_below _ _)))
    · obtain rfl : k = N := by omega
      have hd2 : decide ((k : Int) < (k : Int)) = false := by simp
      have H5 : Hid (x.names = y.names) := by
        have := he.out
        rwa [List.take_of_length_le (by rw [HN.out]; exact Nat.le_refl _), List.take_of_length_le (by rw [HN2.out]; exact Nat.le_refl _)] at this
      clear he hlt
      go_wp2_with fail
      obtain ⟨wo, ewo⟩ : ∃ wo, wr = wo := ⟨_, rfl⟩
      subst ewo
      go_loopw [6] (fun i wq => ∃ j : Nat, i = .int .i64 j ∧ j ≤ M ∧ Hid (x.list.take j = y.list.take j) ∧ Below W.heap.size W wq) (fun i _ => M - (intOf i).toNat)
      case atStart => exact ⟨0, rfl, Nat.zero_le _, Lib.hid rfl, hb⟩
      case round =>
        clear z0 z1 z2 z3 z4 z5 y0 y1 y2 y3 y4 y5 hb
        obtain ⟨j, rfl, hj, hel, hb⟩ := hrel
        obtain ⟨⟨z0, z1, z2, z3, z4, z5⟩, _⟩ := (HL1.out.below hb HL1.out.lt).six
        obtain ⟨⟨y0, y1, y2, y3, y4, y5⟩, _⟩ := (HL2.out.below hb HL2.out.lt).six
        by_cases hlt2 : j < M
        · obtain ⟨b, off, p, E1, e1, E2, e2, rfl, _, hblt, hp, hJ, s0, s1, s2, s3, s4, s5⟩ := (HL.out.on hb).elem (by rw [HM.out]; exact hlt2)
          obtain ⟨b', off', q, F1, f1, F2, f2, rfl, _, hblt', hq, hK, t0, t1, t2, t3, t4, t5⟩ := (HL'.out.on hb).elem (by rw [HM2.out]; exact hlt2)
          have hC := HI.out p (List.mem_of_getElem? hp) ok ok' _ _ q _ hJ.drew hK.drew
          have HP := Lib.hid hp
          have HQ := Lib.hid hq
          have HC := Lib.hid hC
          clear hp hq hJ hK hC
          go_upto_region 11 with (fail)
          go_region_law (go_simp; go_at_call 16; refine HC.out.mono ?_; intro e w1 hh; obtain ⟨r, rfl, hr, hb1⟩ := hh.as; have hb2 := hb.trans (below_undrew (hb1.mono hb.size)); clear hh hb1; simp only [])
          all_goals
            cases r
            · have HR : Hid (x ≠ y) := fun e => by
                have h1 := HP.out
                rw [e] at h1
                have h2 : p = q := Option.some.inj (h1.symm.trans HQ.out)
                have := hr.2 h2
                cases this
              go_wp2
              go_ret
              exact Tells.no HR.out (below_more HBWW.out hb2)
            · have HR := Lib.hid (take_same hel.out HP.out HQ.out (hr.1 rfl))
              go_wp2
              go_roundw
              case rel => exact ⟨j + 1, by go_num, hlt2, Lib.hid HR.out, hb2⟩
              case measure => simp [intOf]; omega
        · obtain rfl : j = M := by omega
          have hd3 : decide ((j : Int) < (j : Int)) = false := by simp
          have HR : Hid (x = y) := HX.out H5.out (by
            have := hel.out
            rwa [List.take_of_length_le (by rw [HM.out]; exact Nat.le_refl _), List.take_of_length_le (by rw [HM2.out]; exact Nat.le_refl _)] at this)
          go_wp2
          go_ret
          exact Tells.yes HR.out (below_more HBWW.out hb)
theorem refSame_any {ok ok' : Nat → Prop} (x y : Jq.J) (v u : Value) (w : World) (h : IsJ w ok v x) (k : IsJ w ok' u y) : Calls Tryd.prog 16 #[v, u] w (Tells (x = y) w) :=
  J_ind (P := RSameOk) (fun x ih => refSame_step x ih) x ok ok' v u y w h k
end Go.Proofs.YtnbaajdcakjlmaaDoor
