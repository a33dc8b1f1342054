/-
  with: a value in the place of another one.
-/
import Derived.Test.YtnbaajdcakjlmaaDoorMJ
namespace Go.Proofs.YtnbaajdcakjlmaaDoor
open Go.RowKit

theorem flat_set {a b c d e f : Value} : ∀ (vs : List Value) (k : Nat), (∀ v ∈ vs, (jcells v).length = 6) → k < vs.length → ((((((vs.flatMap jcells).set (k * 6) a).set (k * 6 + 1) b).set (k * 6 + 2) c).set (k * 6 + 3) d).set (k * 6 + 4) e).set (k * 6 + 5) f = (vs.set k (.agg #[a, b, c, d, e, f])).flatMap jcells
  | [], k, _, h => absurd h (Nat.not_lt_zero _)
  | v :: r, 0, hl, _ => by
    have h6 := hl v (by simp)
    obtain ⟨y0, y1, y2, y3, y4, y5, hy⟩ : ∃ y0 y1 y2 y3 y4 y5, jcells v = [y0, y1, y2, y3, y4, y5] := by
      match hm : jcells v, h6 with
      | [y0, y1, y2, y3, y4, y5], _ => exact ⟨y0, y1, y2, y3, y4, y5, rfl⟩
    rw [List.flatMap_cons, hy]
    simp [jcells]
  | v :: r, k + 1, hl, h => by
    have h6 := hl v (by simp)
    have ih := flat_set (a := a) (b := b) (c := c) (d := d) (e := e) (f := f) r k (fun u hu => hl u (by simp [hu])) (by simpa using h)
    rw [List.flatMap_cons, List.set_cons_succ, List.flatMap_cons, ← ih]
    rw [List.set_append_right _ _ (by omega), List.set_append_right _ _ (by omega), List.set_append_right _ _ (by omega), List.set_append_right _ _ (by omega), List.set_append_right _ _ (by omega), List.set_append_right _ _ (by omega), h6]
    rw [show (k + 1) * 6 - 6 = k * 6 from by omega, show (k + 1) * 6 + 1 - 6 = k * 6 + 1 from by omega, show (k + 1) * 6 + 2 - 6 = k * 6 + 2 from by omega, show (k + 1) * 6 + 3 - 6 = k * 6 + 3 from by omega, show (k + 1) * 6 + 4 - 6 = k * 6 + 4 from by omega, show (k + 1) * 6 + 5 - 6 = k * 6 + 5 from by omega]
section
variable {w : World} {g cap n k base : Nat} {ty : TypeId} {a b c d e f : Value} {vs : List Value}
theorem own_setAt (h : w.ownsRow base ty 6 (.slice (some ⟨g, 0, none⟩) n cap) n (vs.flatMap jcells)) (h6 : ∀ v ∈ vs, (jcells v).length = 6) (hk : k < vs.length) :
    (putAt w g (k * 6) a b c d e f).ownsRow base ty 6 (.slice (some ⟨g, 0, none⟩) n cap) n ((vs.set k (.agg #[a, b, c, d, e, f])).flatMap jcells) := by
  have := ((((((h.stored (k * 6) a).1.stored (k * 6 + 1) b).1.stored (k * 6 + 2) c).1.stored (k * 6 + 3) d).1.stored (k * 6 + 4) e).1.stored (k * 6 + 5) f).1
  rw [flat_set vs k h6 hk] at this
  exact this
theorem row_six (h : w.ownsRow base ty 6 (.slice (some ⟨g, 0, none⟩) n cap) n (vs.flatMap jcells)) (h6 : ∀ v ∈ vs, (jcells v).length = 6) (hn : vs.length = n) (hk : vs[k]? = some (.agg #[a, b, c, d, e, f])) :
    (w.cell? ⟨g, k * 6, none⟩ = some a ∧ w.cell? ⟨g, k * 6 + 1, none⟩ = some b ∧ w.cell? ⟨g, k * 6 + 2, none⟩ = some c ∧ w.cell? ⟨g, k * 6 + 3, none⟩ = some d ∧ w.cell? ⟨g, k * 6 + 4, none⟩ = some e ∧ w.cell? ⟨g, k * 6 + 5, none⟩ = some f) ∧
    (w.frozen? ⟨g, k * 6, none⟩ = false ∧ w.frozen? ⟨g, k * 6 + 1, none⟩ = false ∧ w.frozen? ⟨g, k * 6 + 2, none⟩ = false ∧ w.frozen? ⟨g, k * 6 + 3, none⟩ = false ∧ w.frozen? ⟨g, k * 6 + 4, none⟩ = false ∧ w.frozen? ⟨g, k * 6 + 5, none⟩ = false) := by
  have hkl := (List.getElem?_eq_some_iff.1 hk).1
  have hc : ∀ j, j < 6 → w.cell? ⟨g, k * 6 + j, none⟩ = (jcells (.agg #[a, b, c, d, e, f]))[j]? := fun j hj => by
    rw [h.cellAt _ (by omega), flat_at vs h6 k j _ hk hj]
  exact ⟨⟨hc 0 (by omega), hc 1 (by omega), hc 2 (by omega), hc 3 (by omega), hc 4 (by omega), hc 5 (by omega)⟩, h.frozenAt _, h.frozenAt _, h.frozenAt _, h.frozenAt _, h.frozenAt _, h.frozenAt _⟩
end
set_option maxHeartbeats 4000000 in
set_option maxRecDepth 100000 in
theorem withOld_any {B : Nat} {ns : List (List Nat)} {l : List Jq.J} {nv lv u : Value} {y : Jq.J} {t : List Nat} {k : Nat} (w : World) (hO : MRow B ns l nv lv w) (hJ : IsJ w (fun b => B ≤ b ∧ nv.ownBlock ≠ some b ∧ lv.ownBlock ≠ some b) u y) (ht : t.length ≤ 140737488355328 ∧ ∀ y ∈ t, y < 256) (hn : l.length ≤ 1000) (hf : firstAt t ns = some k) :
    Calls Tryd.prog 26 #[jv 5 false 0 ByteArray.empty nv lv, .string (strOf t), u] w (WithE B ns (l.set k y) nv lv w) := by
  have hkn : k < ns.length := by have := firstAt_iff t ns; rw [hf] at this; exact this.1
  obtain ⟨vs, hvs, hrow, hel⟩ := hO.rows
  have hkl : k < l.length := by rw [← hO.len]; exact hkn
  obtain ⟨A9, c9, rfl⟩ := own_slice hO.names
  obtain ⟨m, em⟩ : ∃ m, l.length = m + 1 := ⟨l.length - 1, by omega⟩
  obtain ⟨g, c0, rfl⟩ := own_form (by rw [em] at hrow; exact hrow) (by omega)
  obtain ⟨B1, d1, B2, d2, rfl⟩ := hJ.form
  obtain ⟨n, en⟩ : ∃ n, ns.length = n := ⟨_, rfl⟩
  have en2 : l.length = n := by rw [← hO.len]; exact en
  obtain rfl : n = m + 1 := by omega
  have h6 : ∀ v ∈ vs, (jcells v).length = 6 := fun v hm => by
    obtain ⟨j, hj, rfl⟩ := List.mem_iff_getElem.1 hm
    exact jcells_len (hel j _ _ (List.getElem?_eq_getElem hj) (List.getElem?_eq_getElem (by omega)))
  have hvk : vs[k]? = some (vs[k]'(by omega)) := List.getElem?_eq_getElem (by omega)
  obtain ⟨X1, x1, X2, x2, ev⟩ := (hel k _ _ hvk (List.getElem?_eq_getElem hkl)).form
  rw [ev] at hvk
  generalize l[k] = o at hvk ev
  clear ev
  obtain ⟨W0, eW0⟩ : ∃ W0, W0 = ((w.alloc (.cells #[.int .i64 5, .bool false, .int .i64 0, .string ByteArray.empty, .slice A9 (m + 1) c9, .slice (some ⟨g, 0, none⟩) (m + 1) c0] 27)).alloc (.cells #[.int .i64 y.kind, .bool y.bool, .int .i64 y.int, .string (strOf y.text), .slice B1 y.names.length d1, .slice B2 y.list.length d2] 27)).alloc (.cells #[.int .i64 0, .bool false, .int .i64 0, .string { data := #[] }, .slice none 0 0, .slice none 0 0] 27) := ⟨_, rfl⟩
  have hb0 : Below w.heap.size w W0 := by rw [eW0]; exact ((one_alloc _ _).alloc (by simp) _).alloc (by simp; omega) _
  have hs0 : W0.heap.size = w.heap.size + 3 := by rw [eW0]; simp
  have hv0 : Lies W0 w.heap.size 27 [.int .i64 5, .bool false, .int .i64 0, .string ByteArray.empty, .slice A9 (m + 1) c9, .slice (some ⟨g, 0, none⟩) (m + 1) c0] := by rw [eW0]; exact ((Lies.new_ rfl).alloc _).alloc _
  have hu0 : Lies W0 (w.heap.size + 1) 27 [.int .i64 y.kind, .bool y.bool, .int .i64 y.int, .string (strOf y.text), .slice B1 y.names.length d1, .slice B2 y.list.length d2] := by rw [eW0]; exact (Lies.new_ (by simp)).alloc _
  have hz0 : Lies W0 (w.heap.size + 2) 27 zero6 := by rw [eW0]; exact Lies.new_ (by simp)
  have hnames := own_below hO.names hb0
  have hrows := own_below hrow hb0
  rw [em] at hrows hrow
  rw [en] at hnames
  have hglt : B ≤ g ∧ g < w.heap.size := hrow.lt g rfl
  have hap := hO.apart
  have hnlt := hO.lt.1
  rw [en] at hap hnlt hJ hel
  have hI := index_any ns t (.slice A9 (m + 1) c9) W0 (by rw [en]; exact own_slIs hnames) (fun p hp => (hO.texts p hp).2) ht.2
  rw [hf] at hI
  rw [en]
  have hR1 := own_setAt (k := k) (a := .int .i64 y.kind) (b := .bool y.bool) (c := .int .i64 y.int) (d := .string (strOf y.text)) (e := .slice B1 y.names.length d1) (f := .slice B2 y.list.length d2) hrows h6 (by omega)
  obtain ⟨⟨o0, o1, o2, o3, o4, o5⟩, p0, p1, p2, p3, p4, p5⟩ := row_six hrows h6 (by omega) hvk
  obtain ⟨W1, eW1⟩ : ∃ W1, W1 = putAt W0 g (k * 6) (.int .i64 y.kind) (.bool y.bool) (.int .i64 y.int) (.string (strOf y.text)) (.slice B1 y.names.length d1) (.slice B2 y.list.length d2) := ⟨_, rfl⟩
  rw [← eW1] at hR1
  have hg1 : W0.grownBy W1 (some g) := by rw [eW1]; exact gb_putAt
  have hv1 := hv0.grown hg1 (by intro e; injection e with e; omega)
  have hz1 := hz0.grown hg1 (by intro e; injection e with e; omega)
  have hn1 := hnames.kept hg1 (.inr (fun e => hap g e rfl))
  have hlf : Lies (put6 W1 (w.heap.size + 2) (.int .i64 5) (.bool false) (.int .i64 0) (.string ByteArray.empty) (.slice A9 (m + 1) c9) (.slice (some ⟨g, 0, none⟩) (m + 1) c0)) (w.heap.size + 2) 27 [.int .i64 5, .bool false, .int .i64 0, .string ByteArray.empty, .slice A9 (m + 1) c9, .slice (some ⟨g, 0, none⟩) (m + 1) c0] := hz1.put6
  obtain ⟨WF, eWF⟩ : ∃ WF, WF = put6 W1 (w.heap.size + 2) (.int .i64 5) (.bool false) (.int .i64 0) (.string ByteArray.empty) (.slice A9 (m + 1) c9) (.slice (some ⟨g, 0, none⟩) (m + 1) c0) := ⟨_, rfl⟩
  have hgF : W1.grownBy WF (some (w.heap.size + 2)) := by rw [eWF]; exact gb_put6
  have hnF := hn1.kept hgF (.inr (fun e => by have := (hnlt _ e).2; omega))
  have hlF := hR1.kept hgF (.inr (fun e => by injection e with e; have e : g = w.heap.size + 2 := e; omega))
  have far : ∀ b, b < w.heap.size → b ≠ g → WF.heap[b]? = w.heap[b]? := fun b hb h1 => by
    rw [hgF.block b (by have := hg1.size; omega) (fun e => by injection e with e; omega), hg1.block b (by omega) (fun e => by injection e with e; exact h1 e), hb0.block b hb]
  have hsF : w.heap.size ≤ WF.heap.size := by have := hg1.size; have := hgF.size; omega
  have HE : Hid (WithE B ns (l.set k y) (.slice A9 (m + 1) c9) (.slice (some ⟨g, 0, none⟩) (m + 1) c0) w (.returned (jv 5 false 0 ByteArray.empty (.slice A9 (m + 1) c9) (.slice (some ⟨g, 0, none⟩) (m + 1) c0))) WF) := by
    refine ⟨_, _, rfl, ⟨Nat.le_trans hO.size hsF, by rw [List.length_set]; exact hO.len, hO.texts, by rw [en]; exact hnF, ⟨vs.set k (jv y.kind y.bool y.int (strOf y.text) (.slice B1 y.names.length d1) (.slice B2 y.list.length d2)), by rw [List.length_set, List.length_set]; exact hvs, by rw [List.length_set, em]; exact hlF, ?_⟩, hap⟩, ?_⟩
    · intro i v x h1 h2
      rw [List.getElem?_set] at h1 h2
      have fB : ∀ b, (B ≤ b ∧ (Value.slice A9 (m + 1) c9).ownBlock ≠ some b ∧ (Value.slice (some ⟨g, 0, none⟩) (m + 1) c0).ownBlock ≠ some b) → b < w.heap.size → (B ≤ b ∧ (Value.slice A9 (m + 1) c9).ownBlock ≠ some b ∧ (Value.slice (some ⟨g, 0, none⟩) (m + 1) c0).ownBlock ≠ some b) ∧ WF.heap[b]? = w.heap[b]? := fun b hb hlt => ⟨hb, far b hlt (fun e => hb.2.2 (by rw [e]; rfl))⟩
      by_cases hik : k = i
      · subst hik
        rw [if_pos rfl, if_pos (by omega)] at h1 h2
        injection h1 with h1
        injection h2 with h2
        subst h1 h2
        exact hJ.keep fB hsF
      · rw [if_neg hik] at h1 h2
        exact (hel i v x h1 h2).keep fB hsF
    · refine ⟨?_, ?_, ?_, hsF, fun b hb h1 h2 => ⟨far b hb (fun e => h2 (by rw [e]; rfl)), h1, h2⟩⟩
      · rw [hgF.os, hg1.os, hb0.os]
      · rw [hgF.tape, hg1.tape, hb0.tape]
      · rw [hgF.output, hg1.output, hb0.output]
  rw [eWF] at HE
  obtain ⟨⟨q0, q1, q2, q3, q4, q5⟩, _⟩ := hlf.six
  obtain ⟨⟨a0, a1, a2, a3, a4, a5⟩, _⟩ := hv1.six
  obtain ⟨⟨r0, r1, r2, r3, r4, r5⟩, f0, f1, f2, f3, f4, f5⟩ := hz1.six
  obtain ⟨⟨v0, v1, v2, v3, v4, v5⟩, _⟩ := hv0.six
  obtain ⟨⟨y0, y1, y2, y3, y4, y5⟩, _⟩ := hu0.six
  have HW0 := Lib.hid eW0
  have HW1 := Lib.hid eW1
  have HY : Hid (∀ {P : Prop}, (W0.cell? ⟨w.heap.size + 1, 0, none⟩ = some (.int .i64 y.kind) → W0.cell? ⟨w.heap.size + 1, 1, none⟩ = some (.bool y.bool) → P) → P) := fun h => h y0 y1
  rw [eW0] at hI
  have hkm : (k : Int) < ((m + 1 : Nat) : Int) := by omega
  have dk : decide ((0 : Int) ≤ (k : Int)) = true := decide_eq_true (by omega)
  clear hkn hvs hrow hel hkl em h6 hvk hb0 hs0 hv0 hu0 hz0 hnames hrows hglt hap hnlt hR1 hg1 hv1 hz1 hn1 hlf eWF hgF hnF hlF far hsF eW0 eW1 hO hJ ht hn hf en en2 HY
  go_enter Tryd.func26, Tryd.ntmps26
  go_wp2_with fail
  refine hI.mono ?_
  rintro e w1 ⟨rfl, rfl⟩
  clear hI
  go_upto_region 3 with (fail)
  rw [← HW0.out]
  go_upto_region 4 with (fail)
  have hx := HW1.out
  unfold putAt at hx
  rw [← hx]
  clear hx v0 v1 v2 v3 v4 v5 y0 y1 y2 y3 y4 y5 o0 o1 o2 o3 o4 o5 p0 p1 p2 p3 p4 p5
  go_wp2
  exact bodyPost_ret (v := jv 5 false 0 ByteArray.empty (.slice A9 (m + 1) c9) (.slice (some ⟨g, 0, none⟩) (m + 1) c0)) (by simp [results, Tryd.results26, go_sem, q0, q1, q2, q3, q4, q5]) rfl HE.out
theorem withM_any {B : Nat} {o : Mq.Obj} {nv lv u : Value} {y : Jq.J} {t : List Nat} (w : World) (hO : MRow B o.1 o.2 nv lv w) (hJ : IsJ w (fun b => B ≤ b ∧ nv.ownBlock ≠ some b ∧ lv.ownBlock ≠ some b) u y) (ht : t.length ≤ 140737488355328 ∧ ∀ y ∈ t, y < 256) (hn : o.2.length ≤ 1000) :
    Calls Tryd.prog 26 #[jv 5 false 0 ByteArray.empty nv lv, .string (strOf t), u] w (WithE B (Mq.set o t y).1 (Mq.set o t y).2 nv lv w) := by
  unfold Mq.set
  cases hf : firstAt t o.1 with
  | none => exact withNew_any w hO hJ ht hn hf
  | some k => exact withOld_any w hO hJ ht hn hf
end Go.Proofs.YtnbaajdcakjlmaaDoor
