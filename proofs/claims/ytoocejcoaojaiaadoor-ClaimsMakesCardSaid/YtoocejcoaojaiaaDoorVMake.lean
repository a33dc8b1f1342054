/-
  Make: the claims of a token.
-/
import Derived.Test.YtoocejcoaojaiaaDoorVOth
import Derived.Test.YtoocejcoaojaiaaDoorSlotsL
import Derived.Test.YtoocejcoaojaiaaDoorQI
import Derived.Test.YtoocejcoaojaiaaDoorQJ
import Derived.Test.YtoocejcoaojaiaaDoorQX3
namespace Go.Proofs.YtoocejcoaojaiaaDoor.Vq
/-- What Make makes, plain. -/
def makeP (q : Want) (sub : List Nat) (life : Int) (x : Jq.J) : Option Jq.J := if sub = [] ∨ (Jq.valueP 16 [] (objOf (rows q sub life x))).isSome = false then none else some (objOf (rows q sub life x))
theorem base_len (q : Want) (sub : List Nat) (life : Int) : (baseRows q sub life).length ≤ 6 := by unfold baseRows; split <;> simp
theorem more_len (x : Jq.J) : (moreRows x).length ≤ x.list.length := by
  unfold moreRows
  split
  · refine Nat.le_trans (List.length_filter_le _ _) ?_
    rw [List.length_zip]
    omega
  · exact Nat.zero_le _
end Go.Proofs.YtoocejcoaojaiaaDoor.Vq
namespace Go.Proofs.YtoocejcoaojaiaaDoor
open Go.RowKit Go.Sort

theorem lit30 (a : Array Value) (h : a.size = 30) : ∃ x0 x1 x2 x3 x4 x5 x6 x7 x8 x9 x10 x11 x12 x13 x14 x15 x16 x17 x18 x19 x20 x21 x22 x23 x24 x25 x26 x27 x28 x29, a = #[x0, x1, x2, x3, x4, x5, x6, x7, x8, x9, x10, x11, x12, x13, x14, x15, x16, x17, x18, x19, x20, x21, x22, x23, x24, x25, x26, x27, x28, x29] := by
  obtain ⟨l⟩ := a
  match l, h with
  | [x0, x1, x2, x3, x4, x5, x6, x7, x8, x9, x10, x11, x12, x13, x14, x15, x16, x17, x18, x19, x20, x21, x22, x23, x24, x25, x26, x27, x28, x29], _ => exact ⟨x0, x1, x2, x3, x4, x5, x6, x7, x8, x9, x10, x11, x12, x13, x14, x15, x16, x17, x18, x19, x20, x21, x22, x23, x24, x25, x26, x27, x28, x29, rfl⟩

/-- The rows are no block whose first cell is the number 0. -/
theorem ObjRow.not_zero {B p : Nat} {q : Vq.Want} {sub : List Nat} {life : Int} {rs : List (List Nat × Jq.J)} {nv lv : Value} {W : World} (h : ObjRow B ((Vq.baseRows q sub life ++ rs).map (·.1)) ((Vq.baseRows q sub life ++ rs).map (·.2)) nv lv W)
    (hl : Lies W p 28 zero6) : nv.ownBlock ≠ some p ∧ lv.ownBlock ≠ some p := by
  have hz : W.cell? ⟨p, 0, none⟩ = some (.int .i64 0) := hl.cell 0
  constructor
  · intro e
    have := h.names.cells e 0 (.string (strOf Vq.issN)) rfl
    rw [Addr.add_lit, hz] at this
    cases this
  · intro e
    obtain ⟨vs, h1, h2, h3⟩ := h.rows
    have hlen : 0 < ((Vq.baseRows q sub life ++ rs).map (·.2)).length := by
      rw [List.length_map, List.length_append]
      have : 5 ≤ (Vq.baseRows q sub life).length := by unfold Vq.baseRows; simp
      omega
    cases vs with
    | nil => rw [← h1] at hlen; exact absurd hlen (Nat.lt_irrefl _)
    | cons v0 vs =>
      have hJ := h3 0 v0 (Jq.textJ q.issuer) rfl rfl
      obtain ⟨A1, c1, A2, c2, rfl⟩ := hJ.form
      have := h2.cells e 0 (.int .i64 3) rfl
      rw [Addr.add_lit, hz] at this
      cases this

/-- What lies in the slots of the region in which the claims are put together. -/
def MakeF (q : Vq.Want) (sub : List Nat) (life : Int) (more : Value) (R1 R2 : List (List Nat × Jq.J)) (B : Nat) (L : Array Bool) : Nat → Value → World → Prop
  | 0, v, _ => v = wantv q
  | 1, v, _ => v = .string (strOf sub)
  | 2, v, _ => v = .int .i64 life
  | 3, v, W => L.getD 5 true = true ∨ ∃ nv lv, v = jv 5 false 0 ByteArray.empty nv lv ∧ ObjRow B (R1.map (·.1)) (R1.map (·.2)) nv lv W
  | 4, v, _ => v = more
  | 5, v, W => L.getD 7 true = true ∨ ∃ A n c A' n' c', v = jv 5 false 0 ByteArray.empty (.slice A n c) (.slice A' n' c') ∧ ObjRow B (R2.map (·.1)) (R2.map (·.2)) (.slice A n c) (.slice A' n' c') W
  | 6, v, W => ∃ p, v = .pointer (some ⟨p, 0, none⟩) ∧ B ≤ p ∧ p < W.heap.size ∧ (L.getD 7 true = false → Lies W p 28 zero6) ∧
      (L.getD 7 true = true → L.getD 5 true = true ∧ ∃ A n c A' n' c', Lies W p 28 [.int .i64 5, .bool false, .int .i64 0, .string ByteArray.empty, .slice A n c, .slice A' n' c'] ∧ ObjRow B (R2.map (·.1)) (R2.map (·.2)) (.slice A n c) (.slice A' n' c') W)
  | _, _, _ => True
theorem MakeF.on {q : Vq.Want} {sub : List Nat} {life : Int} {more : Value} {R1 R2 : List (List Nat × Jq.J)} {B i : Nat} {L : Array Bool} {w w' : World} (h5 : i ≠ 5) (h7 : i ≠ 7) (hb : Below w.heap.size w w') :
    ∀ j u, MakeF q sub life more R1 R2 B L j u w → MakeF q sub life more R1 R2 B (L.setIfInBounds i true) j u w' := by
  intro j u h
  match j, h with
  | 0, h => exact h
  | 1, h => exact h
  | 2, h => exact h
  | 3, h =>
    rcases h with h | ⟨nv, lv, h1, h2⟩
    · exact .inl (by rw [getD_set h5]; exact h)
    · exact .inr ⟨nv, lv, h1, h2.on hb⟩
  | 4, h => exact h
  | 5, h =>
    rcases h with h | ⟨A, n, c, A', n', c', h1, h2⟩
    · exact .inl (by rw [getD_set h7]; exact h)
    · exact .inr ⟨A, n, c, A', n', c', h1, h2.on hb⟩
  | j + 7, _ => exact trivial
  | 6, ⟨p, h1, h2, h3, h4, h6⟩ =>
    refine ⟨p, h1, h2, Nat.lt_of_lt_of_le h3 hb.size, fun e => ?_, fun e => ?_⟩
    · rw [getD_set h7] at e; exact (h4 e).below hb h3
    · rw [getD_set h7] at e
      obtain ⟨a, A, n, c, A', n', c', h8, h9⟩ := h6 e
      exact ⟨by rw [getD_set h5]; exact a, A, n, c, A', n', c', h8.below hb h3, h9.on hb⟩

set_option maxHeartbeats 1000000 in
set_option maxRecDepth 100000 in
theorem make_any {ok : Nat → Prop} {q : Vq.Want} {sub : List Nat} {life : Int} (x : Jq.J) (v : Value) (w : World) (hH : Held w) (hq : WantOk q) (hs : TextOk sub) (hJ : IsJ w ok v x) (hx : x.list.length ≤ 100) :
    Calls Tryd.prog 16 #[wantv q, .string (strOf sub), .int .i64 life, v] w (GetEnd (Vq.makeP q sub life x) w) := by
  obtain ⟨A1, c1, A2, c2, rfl⟩ := hJ.form
  obtain ⟨W0, eW0⟩ : ∃ W0, W0 = ((w.alloc (.cells #[.string (strOf q.issuer), .string (strOf q.aud), .string (strOf q.nonce), .int .i64 q.now, .int .i64 q.slack] 30)).alloc (.cells #[.int .i64 x.kind, .bool x.bool, .int .i64 x.int, .string (strOf x.text), .slice A1 x.names.length c1, .slice A2 x.list.length c2] 28)).alloc (.cells #[.int .i64 0, .bool false, .int .i64 0, .string { data := #[] }, .slice none 0 0, .slice none 0 0] 28) := ⟨_, rfl⟩
  have hb0 : Below w.heap.size w W0 := by rw [eW0]; exact ((one_alloc _ _).alloc (by simp) _).alloc (by simp; omega) _
  have hw0 : Lies W0 w.heap.size 30 (wcells q) := by rw [eW0]; exact ((Lies.new_ rfl).alloc _).alloc _
  have hm0 : Lies W0 (w.heap.size + 1) 28 [.int .i64 x.kind, .bool x.bool, .int .i64 x.int, .string (strOf x.text), .slice A1 x.names.length c1, .slice A2 x.list.length c2] := by rw [eW0]; exact (Lies.new_ (by simp)).alloc _
  have ho0 : Lies W0 (w.heap.size + 2) 28 zero6 := by rw [eW0]; exact Lies.new_ (by simp)
  have HJ := Lib.hid (hJ.later hb0 hb0.size)
  obtain ⟨B, eB⟩ : ∃ B, W0.heap.size = B := ⟨_, rfl⟩
  have hsz : B = w.heap.size + 3 := by rw [← eB, eW0]; simp
  rw [eB] at HJ
  obtain ⟨R1, eR1⟩ : ∃ R1, Vq.baseRows q sub life = R1 := ⟨_, rfl⟩
  obtain ⟨R2, eR2⟩ : ∃ R2, Vq.rows q sub life x = R2 := ⟨_, rfl⟩
  have HR1 := Lib.hid eR1
  have HR2 := Lib.hid eR2
  have HR12 : Hid (R2 = R1 ++ Vq.moreRows x) := by unfold Hid; rw [← eR1, ← eR2]; rfl
  have HLEN : Hid (R2.length ≤ 106) := by
    unfold Hid
    rw [HR12.out, List.length_append, ← eR1]
    have h1 := Vq.base_len q sub life
    have h2 := Vq.more_len x
    omega
  have HLEN1 : Hid (R1.length ≤ 6) := by unfold Hid; rw [← eR1]; exact Vq.base_len q sub life
  have hmk : Vq.makeP q sub life x = if sub = [] ∨ (Jq.valueP 16 [] (Vq.objOf R2)).isSome = false then none else some (Vq.objOf R2) := by rw [← eR2]; rfl
  obtain ⟨RES, eRES⟩ : ∃ RES, Vq.makeP q sub life x = RES := ⟨_, rfl⟩
  rw [eRES] at hmk ⊢
  have HMK := Lib.hid hmk
  have HQ := Lib.hid hq
  have HS := Lib.hid hs
  have HX := Lib.hid hx
  have HH := Lib.hid hH
  have HB0 := Lib.hid hb0
  have HW := Lib.hid hw0
  have HM := Lib.hid hm0
  have HO := Lib.hid ho0
  have HEB := Lib.hid eB
  have HSZ := Lib.hid hsz
  have HW0 := Lib.hid eW0
  clear hq hs hx hH hb0 hw0 hm0 ho0 hJ eB eW0 eR1 eR2 eRES hmk hsz
  go_enter Tryd.func16, Tryd.ntmps16
  go_upto_region 1 with (fail)
  rw [← HW0.out]
  refine wp_region_slotsL (by kernel_rfl) (fun L W => Below B W0 W ∧ (L.getD 7 true = true → L.getD 6 true = true ∧ L.getD 5 true = true)) (MakeF q sub life (jv x.kind x.bool x.int (strOf x.text) (.slice A1 x.names.length c1) (.slice A2 x.list.length c2)) R1 R2 B) ⟨(Below.refl _ _).drew, fun h => by simp at h⟩ (by kernel_rfl) ?step ?fin
  case step =>
    intro i o ho listed a W hinv hun hall K' hK
    obtain ⟨hI, h765⟩ := hinv.world
    have h7a : i ≠ 7 → ((listed.setIfInBounds i true).getD 7 true = true → (listed.setIfInBounds i true).getD 6 true = true ∧ (listed.setIfInBounds i true).getD 5 true = true) := fun h7 e => by
      rw [getD_set h7] at e
      exact ⟨getD_mono (h765 e).1, getD_mono (h765 e).2⟩
    have hIs : B ≤ W.heap.size := by have := hI.size; rw [HEB.out] at this; exact this
    match i, ho with
    | 0, ho =>
      obtain rfl := oper_at ho rfl
      have E1 : a.tmps[4]? = some (.pointer (some ⟨w.heap.size, 0, none⟩)) := hinv.old 4 (by simp)
      have hl := HW.out.below hI (by have := HSZ.out; omega)
      have z0 := hl.cell 0
      have z1 := hl.cell 1
      have z2 := hl.cell 2
      have z3 := hl.cell 3
      have z4 := hl.cell 4
      refine slot_value rfl (w' := W) (v := wantv q) ?_ ?_
      · go_simp
      · exact hK _ _ ⟨hI, h7a (by decide)⟩ rfl (fun j u _ => MakeF.on (by decide) (by decide) (Below.refl _ _) j u)
    | 1, ho =>
      obtain rfl := oper_at ho rfl
      have E1 : a.tmps[1]? = some (.string (strOf sub)) := hinv.old 1 (by simp)
      refine slot_value rfl (w' := W) (v := .string (strOf sub)) ?_ ?_
      · go_simp
      · exact hK _ _ ⟨hI, h7a (by decide)⟩ rfl (fun j u _ => MakeF.on (by decide) (by decide) (Below.refl _ _) j u)
    | 2, ho =>
      obtain rfl := oper_at ho rfl
      have E1 : a.tmps[2]? = some (.int .i64 life) := hinv.old 2 (by simp)
      refine slot_value rfl (w' := W) (v := .int .i64 life) ?_ ?_
      · go_simp
      · exact hK _ _ ⟨hI, h7a (by decide)⟩ rfl (fun j u _ => MakeF.on (by decide) (by decide) (Below.refl _ _) j u)
    | 3, ho =>
      obtain rfl := oper_at ho rfl
      obtain ⟨u0, E0, hv0⟩ := hinv.arg 0 _ 11 rfl (hall ⟨0, .data⟩ (by simp) rfl) rfl
      obtain rfl : u0 = wantv q := hv0
      obtain ⟨u1, E1, hv1⟩ := hinv.arg 1 _ 12 rfl (hall ⟨1, .data⟩ (by simp) rfl) rfl
      obtain rfl : u1 = .string (strOf sub) := hv1
      obtain ⟨u2, E2, hv2⟩ := hinv.arg 2 _ 13 rfl (hall ⟨2, .data⟩ (by simp) rfl) rfl
      obtain rfl : u2 = .int .i64 life := hv2
      refine slot_call rfl (f := 30) (args := #[wantv q, .string (strOf sub), .int .i64 life]) ?_ (own_any (B := B) W hIs HQ.out HS.out) ?_
      · go_simp
      · rintro e w' ⟨nv, lv, rfl, hO, hb⟩
        refine ⟨_, rfl, hK _ _ ⟨hI.trans (hb.mono hIs), h7a (by decide)⟩ (.inr ⟨nv, lv, rfl, by rw [← HR1.out]; exact hO⟩) (fun j u _ => MakeF.on (by decide) (by decide) hb j u)⟩
    | 4, ho =>
      obtain rfl := oper_at ho rfl
      have E1 : a.tmps[7]? = some (.pointer (some ⟨w.heap.size + 1, 0, none⟩)) := hinv.old 7 (by simp)
      have hl := HM.out.below hI (by have := HSZ.out; omega)
      obtain ⟨⟨z0, z1, z2, z3, z4, z5⟩, _⟩ := hl.six
      refine slot_value rfl (w' := W) (v := jv x.kind x.bool x.int (strOf x.text) (.slice A1 x.names.length c1) (.slice A2 x.list.length c2)) ?_ ?_
      · go_simp
      · exact hK _ _ ⟨hI, h7a (by decide)⟩ rfl (fun j u _ => MakeF.on (by decide) (by decide) (Below.refl _ _) j u)
    | 5, ho =>
      obtain rfl := oper_at ho rfl
      obtain ⟨u0, E0, hv0⟩ := hinv.arg 3 _ 14 rfl (hall ⟨3, .data⟩ (by simp) rfl) rfl
      obtain ⟨u1, E1, hv1⟩ := hinv.arg 4 _ 15 rfl (hall ⟨4, .data⟩ (by simp) rfl) rfl
      obtain rfl : u1 = jv x.kind x.bool x.int (strOf x.text) (.slice A1 x.names.length c1) (.slice A2 x.list.length c2) := hv1
      rcases hv0 with hv0 | ⟨nv, lv, rfl, hO⟩
      · rw [hun] at hv0; cases hv0
      have hJW : IsJ W (· < B) (jv x.kind x.bool x.int (strOf x.text) (.slice A1 x.names.length c1) (.slice A2 x.list.length c2)) x := HJ.out.keep (fun b hb _ => ⟨hb, hI.block b hb⟩) (by have := HEB.out; omega)
      refine slot_call rfl (f := 29) (args := #[jv 5 false 0 ByteArray.empty nv lv, jv x.kind x.bool x.int (strOf x.text) (.slice A1 x.names.length c1) (.slice A2 x.list.length c2)]) ?_ (others_any W hO hJW (by rw [List.length_map]; have := HLEN1.out; omega) HX.out) ?_
      · go_simp
      · rintro e w' ⟨nv', lv', rfl, hO', hT⟩
        have hO2 : ObjRow B (R2.map (·.1)) (R2.map (·.2)) nv' lv' w' := by rw [HR12.out, List.map_append, List.map_append]; exact hO'
        obtain ⟨A3, m3, c3, rfl⟩ : ∃ A m c, nv' = .slice A m c := by obtain ⟨A, c, h⟩ := own_slice hO2.names; exact ⟨A, _, c, h⟩
        obtain ⟨A4, m4, c4, rfl⟩ : ∃ A m c, lv' = .slice A m c := by obtain ⟨_, _, h, _⟩ := hO2.rows; obtain ⟨A, c, h⟩ := own_slice h; exact ⟨A, _, c, h⟩
        refine ⟨_, rfl, hK _ _ ⟨hI.trans (hT.below hO), h7a (by decide)⟩ (.inr ⟨_, _, _, _, _, _, rfl, hO2⟩) ?_⟩
        intro j u hsl hu
        match j, hu, hsl with
        | 0, hu, _ => exact hu
        | 1, hu, _ => exact hu
        | 2, hu, _ => exact hu
        | 3, hu, _ => exact .inl (getD_set_self _ _)
        | 4, hu, _ => exact hu
        | 5, hu, ⟨_, _, _, hl, _⟩ => rw [hun] at hl; cases hl
        | j + 7, _, _ => exact trivial
        | 6, ⟨p, h1, h2, h3, h4, h6⟩, _ =>
          have h7 : listed.getD 7 true = false := by
            cases hb7 : listed.getD 7 true with
            | false => rfl
            | true => have := (h6 hb7).1; rw [hun] at this; cases this
          have hz := h4 h7
          have hne := ObjRow.not_zero (q := q) (sub := sub) (life := life) (rs := []) (by rw [List.append_nil, HR1.out]; exact hO) hz
          refine ⟨p, h1, h2, Nat.lt_of_lt_of_le h3 hT.size, fun _ => hT.lies hz hne, fun e => ?_⟩
          rw [getD_set (by decide)] at e
          rw [h7] at e; cases e
    | 6, ho =>
      obtain rfl := oper_at ho rfl
      have h7 : listed.getD 7 true = false := by
        cases hb7 : listed.getD 7 true with
        | false => rfl
        | true => have := (h765 hb7).1; rw [hun] at this; cases this
      refine slot_value rfl (w' := W.alloc (.cells #[.int .i64 0, .bool false, .int .i64 0, .string { data := #[] }, .slice none 0 0, .slice none 0 0] 28)) (v := .pointer (some ⟨W.heap.size, 0, none⟩)) ?_ ?_
      · go_simp
      · refine hK _ _ ⟨hI.alloc hIs _, h7a (by decide)⟩ ⟨W.heap.size, rfl, hIs, by simp, fun _ => Lies.new_ rfl, fun e => ?_⟩ (fun j u _ => MakeF.on (by decide) (by decide) (one_alloc _ _) j u)
        rw [getD_set (by decide)] at e
        rw [h7] at e; cases e
    | 7, ho =>
      obtain rfl := oper_at ho rfl
      have l5 : listed.getD 5 true = true := listed_of (hall ⟨5, .data⟩ (by simp) rfl)
      have l6 : listed.getD 6 true = true := listed_of (hall ⟨6, .data⟩ (by simp) rfl)
      obtain ⟨u0, E0, hv0⟩ := hinv.arg 5 _ 16 rfl (hall ⟨5, .data⟩ (by simp) rfl) rfl
      obtain ⟨u1, E1, p, rfl, hBp, hpW, hz, hz2⟩ := hinv.arg 6 _ 10 rfl (hall ⟨6, .data⟩ (by simp) rfl) rfl
      rcases hv0 with hv0 | ⟨A3, m3, c3, A4, m4, c4, rfl, hO⟩
      · rw [hun] at hv0; cases hv0
      have hzp := hz hun
      have hne := ObjRow.not_zero (q := q) (sub := sub) (life := life) (rs := Vq.moreRows x) (by rw [HR1.out, ← HR12.out]; exact hO) hzp
      obtain ⟨⟨x0, x1, x2, x3, x4, x5⟩, g0, g1, g2, g3, g4, g5⟩ := hzp.six
      refine slot_skip rfl (w' := put6 W p (.int .i64 5) (.bool false) (.int .i64 0) (.string ByteArray.empty) (.slice A3 m3 c3) (.slice A4 m4 c4)) ?_ ?_
      · go_simp
      have hg6 : W.grownBy (put6 W p (.int .i64 5) (.bool false) (.int .i64 0) (.string ByteArray.empty) (.slice A3 m3 c3) (.slice A4 m4 c4)) (some p) := gb_put6
      refine hK undef _ ⟨hI.trans (gb_down hg6 hIs hBp), fun _ => ⟨getD_mono l6, getD_mono l5⟩⟩ trivial ?_
      intro j u hsl hu
      match j, hu, hsl with
      | 0, hu, _ => exact hu
      | 1, hu, _ => exact hu
      | 2, hu, _ => exact hu
      | 3, hu, _ => exact .inl (getD_mono l5)
      | 4, hu, _ => exact hu
      | 5, hu, _ => exact .inl (getD_set_self _ _)
      | 6, _, ⟨o', d, h1, _, h2, h3⟩ =>
        obtain rfl := oper_at h1 rfl
        obtain rfl : d = 10 := by injection h2 with h2; exact h2.symm
        rw [E1] at h3
        obtain rfl : u = .pointer (some ⟨p, 0, none⟩) := by injection h3 with h3; exact h3.symm
        exact ⟨p, rfl, hBp, Nat.lt_of_lt_of_le hpW hg6.size, (fun e => by rw [getD_set_self] at e; cases e), fun _ => ⟨getD_mono l5, _, _, _, _, _, _, hzp.put6, hO.off hg6 hBp hne.1 hne.2⟩⟩
      | j + 7, _, _ => exact trivial
    | i + 8, ho => simp at ho
  case fin =>
    intro listed a W hinv hall
    obtain ⟨u, E10, p, rfl, hBp, hpW, _, hz2⟩ := hinv.slot 6 _ 10 rfl (hall 6) rfl
    obtain ⟨_, A3, m3, c3, A4, m4, c4, hlp, hO⟩ := hz2 (hall 7)
    have E1 : a.tmps[1]? = some (.string (strOf sub)) := hinv.old 1 (by simp)
    have E8 : a.tmps[8]? = some (.pointer (some ⟨w.heap.size + 1 + 1, 0, none⟩)) := hinv.old 8 (by simp)
    obtain ⟨hI, _⟩ := hinv.world
    have hsz := hinv.size
    have hdf := hinv.defers
    obtain ⟨tm, df⟩ := a
    simp only at hsz hdf E1 E8 E10
    obtain ⟨x0, x1, x2, x3, x4, x5, x6, x7, x8, x9, x10, x11, x12, x13, x14, x15, x16, x17, x18, x19, x20, x21, x22, x23, x24, x25, x26, x27, x28, x29, rfl⟩ := lit30 tm (by rw [hsz]; rfl)
    subst hdf
    simp only [List.getElem?_toArray, List.getElem?_cons_zero, List.getElem?_cons_succ, Option.some.injEq] at E1 E8 E10
    subst E1 E8 E10
    have hSZ := HSZ.out
    have hbw : Below w.heap.size w W := HB0.out.trans (hI.mono (by omega))
    have hlo := HO.out.below hI (by omega)
    obtain ⟨hS, hL, hJo⟩ := hO.isJ (by rw [List.length_map]; have := HLEN.out; omega)
    have hRi := right_any _ (Vq.objOf R2) W (HH.out.below hbw) hJo
    obtain ⟨⟨z0, z1, z2, z3, z4, z5⟩, _⟩ := hlp.six
    obtain ⟨_, g0, g1, g2, g3, g4, g5⟩ := hlo.six
    have HBW := Lib.hid hbw
    have HLO := Lib.hid hlo
    have HLP := Lib.hid hlp
    have HOB := Lib.hid hO
    by_cases hsub : sub = []
    · have hE : strOf sub = ByteArray.empty := by rw [hsub]; rfl
      rw [hE]
      have hr : RES = none := by rw [HMK.out, if_pos (.inl hsub)]
      have HE : Hid (GetEnd RES w (.returned (.tuple #[jv 0 false 0 ByteArray.empty nilS nilS, .bool false])) (put6 W (w.heap.size + 2) (.int .i64 0) (.bool false) (.int .i64 0) (.string { data := #[] }) (.slice none 0 0) (.slice none 0 0))) :=
        GetEnd.no hr (hbw.trans (gb_down gb_put6 (by have := hbw.size; omega) (by omega)))
      obtain ⟨⟨q0, q1, q2, q3, q4, q5⟩, _⟩ := (hlo.put6 (a := .int .i64 0) (b := .bool false) (c := .int .i64 0) (d := .string { data := #[] }) (e := .slice none 0 0) (f := .slice none 0 0)).six
      clear hsub hE hr hI hinv hall hS hL hJo hRi hz2 hsz hbw hlo hlp hO z0 z1 z2 z3 z4 z5
      go_wp2
      exact bodyPost_ret (v := .tuple #[jv 0 false 0 ByteArray.empty nilS nilS, .bool false]) (by simp [results, Tryd.results16, go_sem, q0, q1, q2, q3, q4, q5]; rfl) rfl HE.out
    have hE : (strOf sub).toList.isEmpty = false := by
      rw [ByteArray.toList_eq]
      cases hc : sub with
      | nil => exact absurd hc hsub
      | cons a r => rfl
    have hE2 : (strOf sub).toList ≠ [] := fun h => by rw [h] at hE; cases hE
    have HSUB := Lib.hid hsub
    obtain ⟨VP, eVP⟩ : ∃ VP, (Jq.valueP 16 [] (Vq.objOf R2)).isSome = VP := ⟨_, rfl⟩
    rw [eVP] at hRi
    have HVP := Lib.hid eVP
    clear hsub hI hinv hall hS hL hJo hz2 hsz hbw hlo hlp hO eVP g0 g1 g2 g3 g4 g5
    cases VP with
    | false =>
      have hr : RES = none := by rw [HMK.out, if_pos (.inr HVP.out)]
      have HR := Lib.hid hr
      clear hr
      go_wp2_with fail
      refine hRi.mono ?_
      rintro e W1 ⟨rfl, hb1⟩
      clear hRi z0 z1 z2 z3 z4 z5
      have hlo := HLO.out.below hb1 HLO.out.lt
      have hbw := below_more HBW.out hb1
      have HE : Hid (GetEnd RES w (.returned (.tuple #[jv 0 false 0 ByteArray.empty nilS nilS, .bool false])) (put6 W1 (w.heap.size + 2) (.int .i64 0) (.bool false) (.int .i64 0) (.string { data := #[] }) (.slice none 0 0) (.slice none 0 0))) :=
        GetEnd.no HR.out (hbw.trans (gb_down gb_put6 (by have := hbw.size; omega) (by omega)))
      obtain ⟨_, g0, g1, g2, g3, g4, g5⟩ := hlo.six
      obtain ⟨⟨q0, q1, q2, q3, q4, q5⟩, _⟩ := (hlo.put6 (a := .int .i64 0) (b := .bool false) (c := .int .i64 0) (d := .string { data := #[] }) (e := .slice none 0 0) (f := .slice none 0 0)).six
      clear hb1 hlo hbw
      go_wp2
      exact bodyPost_ret (v := .tuple #[jv 0 false 0 ByteArray.empty nilS nilS, .bool false]) (by simp [results, Tryd.results16, go_sem, q0, q1, q2, q3, q4, q5]; rfl) rfl HE.out
    | true =>
      have hr : RES = some (Vq.objOf R2) := by
        rw [HMK.out, if_neg]
        rintro (h | h)
        · exact HSUB.out h
        · rw [HVP.out] at h; cases h
      have HR := Lib.hid hr
      clear hr
      go_wp2_with fail
      refine hRi.mono ?_
      rintro e W1 ⟨rfl, hb1⟩
      clear hRi z0 z1 z2 z3 z4 z5
      have hlo := HLO.out.below hb1 HLO.out.lt
      have hbw := below_more HBW.out hb1
      obtain ⟨⟨_, _, _, _, z4, z5⟩, _⟩ := (HLP.out.below hb1 HLP.out.lt).six
      have hO1 := HOB.out.on hb1
      obtain ⟨hS1, hL1, _⟩ := hO1.isJ (by rw [List.length_map]; have := HLEN.out; omega)
      have hC := object_any (.slice A3 m3 c3) (.slice A4 m4 c4) (R2.map (·.1)) (R2.map (·.2)) W1 hS1 hO1.texts (by rw [List.length_map]; have := HLEN.out; omega) hL1
      have HLO1 := Lib.hid hlo
      have HBW1 := Lib.hid hbw
      clear hb1 hlo hbw hO1 hS1 hL1
      go_wp2_with fail
      refine hC.mono ?_
      rintro e W2 ⟨u, rfl, hJ2, hb2⟩
      clear hC z4 z5
      obtain ⟨B5, e5, B6, e6, rfl⟩ := hJ2.form
      have hlo := HLO1.out.below hb2 HLO1.out.lt
      have hbw := below_more HBW1.out hb2
      obtain ⟨y, ey⟩ : ∃ y, Jq.objJ (R2.map (·.1)) (R2.map (·.2)) = y := ⟨_, rfl⟩
      rw [ey] at hJ2
      rw [ey]
      have HR' : Hid (RES = some y) := by unfold Hid; rw [HR.out, ← ey]; rfl
      have HE : Hid (GetEnd RES w (.returned (.tuple #[jv y.kind y.bool y.int (strOf y.text) (.slice B5 y.names.length e5) (.slice B6 y.list.length e6), .bool true])) (put6 W2 (w.heap.size + 2) (.int .i64 y.kind) (.bool y.bool) (.int .i64 y.int) (.string (strOf y.text)) (.slice B5 y.names.length e5) (.slice B6 y.list.length e6))) :=
        GetEnd.yes HR'.out (hbw.trans (gb_down gb_put6 (by have := hbw.size; omega) (by omega))) ((hJ2.put6 HLO1.out.lt).from HBW1.out.size)
      obtain ⟨_, g0, g1, g2, g3, g4, g5⟩ := hlo.six
      obtain ⟨⟨q0, q1, q2, q3, q4, q5⟩, _⟩ := (hlo.put6 (a := .int .i64 y.kind) (b := .bool y.bool) (c := .int .i64 y.int) (d := .string (strOf y.text)) (e := .slice B5 y.names.length e5) (f := .slice B6 y.list.length e6)).six
      clear hb2 hlo hbw hJ2 ey
      go_wp2
      exact bodyPost_ret (v := .tuple #[jv y.kind y.bool y.int (strOf y.text) (.slice B5 y.names.length e5) (.slice B6 y.list.length e6), .bool true]) (by simp [results, Tryd.results16, go_sem, q0, q1, q2, q3, q4, q5]) rfl HE.out
end Go.Proofs.YtoocejcoaojaiaaDoor
