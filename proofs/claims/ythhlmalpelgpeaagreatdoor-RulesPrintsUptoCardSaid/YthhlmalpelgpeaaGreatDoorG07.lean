/-
  G07: ZY ZYb, side by side.
-/
import Derived.Test.YthhlmalpelgpeaaGreatDoorG06

/-
  The reader of rules: a rule.
-/
namespace Go.Proofs.YthhlmalpelgpeaaGreatDoor
open Go.RowKit

/-! Plain. -/
theorem rule_deny {m : Nat} {l q : List Nat} {x : Zq.Tok} (hm : m < 16) (h : Zq.next l = some (x, q)) (hk : Zq.kOf x = 16) : Zq.ruleP m l = match Zq.past Zq.wWhen q with
    | .error e => .error e
    | .ok l2 => match Zq.exprP l2 with
      | .error e => .error e
      | .ok (c, l3) => .ok (⟨[], [], c⟩, l3) := by
  obtain rfl := word_of h (s := Zq.wDeny) (n := 16) (by decide) (by decide) hk
  unfold Zq.ruleP Zq.nameP
  simp only [h]
  rw [if_neg (by omega), if_pos trivial]
  rfl
theorem words_kinds (y : List Nat) (h : y ∈ Zq.words) : Zq.kOf (.name y) ≠ 14 := by
  have : ∀ y ∈ Zq.words, Zq.kOf (.name y) ≠ 14 := by decide
  exact this y h
theorem rule_name {m : Nat} {l q : List Nat} {x : Zq.Tok} (hm : m < 16) (h : Zq.next l = some (x, q)) (hk : Zq.kOf x = 14) : Zq.ruleP m l = match Zq.past [61] q with
    | .error e => .error e
    | .ok l2 => match Zq.exprP l2 with
      | .error e => .error e
      | .ok (y, l3) => match Zq.isP Zq.wWhen l3 with
        | .error e => .error e
        | .ok more => if more then
            match Zq.past Zq.wWhen l3 with
            | .error e => .error e
            | .ok l4 => match Zq.exprP l4 with
              | .error e => .error e
              | .ok (c, l5) => .ok (⟨Zq.kText x, y, c⟩, l5)
          else .ok (⟨Zq.kText x, y, []⟩, l3) := by
  obtain ⟨t, rfl⟩ := (Zq.kOf_nonword h).1 (by omega)
  unfold Zq.ruleP Zq.nameP
  simp only [h]
  rw [if_neg (by omega), if_neg (fun e => by subst e; exact absurd hk (by decide)), if_neg (fun e => words_kinds t e hk)]
  rfl
theorem rule_none {m : Nat} {l : List Nat} (h : Zq.next l = none) : ∃ er, Zq.ruleP m l = .error er := by
  unfold Zq.ruleP Zq.nameP
  simp only [h]
  exact ⟨111, rfl⟩
theorem rule_no {m : Nat} {l q : List Nat} {x : Zq.Tok} (h : Zq.next l = some (x, q)) (h14 : Zq.kOf x ≠ 14) (h16 : Zq.kOf x ≠ 16) : ∃ er, Zq.ruleP m l = .error er := by
  cases x with
  | name t =>
    unfold Zq.ruleP Zq.nameP
    simp only [h]
    by_cases hm : 16 ≤ m
    · exact ⟨112, by rw [if_pos hm]⟩
    · rw [if_neg hm, if_neg (fun e => by subst e; exact h16 (by decide))]
      by_cases hw : t ∈ Zq.words
      · exact ⟨111, by rw [if_pos hw]⟩
      · exfalso
        apply h14
        have hsub : ∀ p ∈ Zq.kinds, 14 ≤ p.2 → p.1 ∈ Zq.words := by decide
        rw [Zq.kOf_name]
        cases hf : Zq.kinds.find? (fun p => decide (t = p.1)) with
        | none => rfl
        | some p =>
          exfalso
          have h1 := of_decide_eq_true (List.find?_some (p := fun p : List Nat × Nat => decide (t = p.1)) hf)
          have hp := List.mem_of_find?_eq_some hf
          have hge := (Zq.kOf_nonword h).2 ⟨_, rfl⟩
          rw [Zq.kOf_name, hf] at hge
          exact hw (by rw [h1]; exact hsub p hp hge)
  | _ =>
    unfold Zq.ruleP Zq.nameP
    simp only [h]
    exact ⟨111, rfl⟩
theorem past_here {s : List Nat} {n : Nat} (h : (s, n) ∈ Zq.kinds) {l q : List Nat} (hq : Here n l q) : Zq.past s l = .ok q := by
  obtain ⟨x, h1, h2⟩ := hq
  rw [Zq.past_some h h1, if_pos h2]
theorem past_not {s : List Nat} {n : Nat} (h : (s, n) ∈ Zq.kinds) {l : List Nat} (hq : ∀ q, ¬ Here n l q) : Zq.past s l = .error 111 := by
  cases hn : Zq.next l with
  | none => exact Zq.past_none hn
  | some y =>
    obtain ⟨x, q⟩ := y
    rw [Zq.past_some h hn, if_neg (fun e => hq q ⟨x, hn, e⟩)]
theorem isP_some {l q : List Nat} {x : Zq.Tok} (h : Zq.next l = some (x, q)) : Zq.isP Zq.wWhen l = .ok (decide (Zq.kOf x = 15)) := by
  unfold Zq.isP
  simp only [h]
  rw [Zq.isTok_kOf (n := 15) (by decide)]

/-! A rule in memory. -/
abbrev rput (w : World) (g : Nat) (a b c : Value) : World := ((w.setCell ⟨g, 0, none⟩ a).setCell ⟨g, 1, none⟩ b).setCell ⟨g, 2, none⟩ c
theorem rput_gb (w : World) (g : Nat) (a b c : Value) : w.grownBy (rput w g a b c) (some g) := gbz_trans (gbz_trans (gbz_set _ _ _ _) (gbz_set _ _ _ _)) (gbz_set _ _ _ _)
theorem Lies.rput {w : World} {g : Nat} {ty : TypeId} {x0 x1 x2 : Value} (h : Lies w g ty [x0, x1, x2]) (a b c : Value) : Lies (Go.Proofs.YthhlmalpelgpeaaGreatDoor.rput w g a b c) g ty [a, b, c] := by
  have := ((h.put 0 a).put 1 b).put 2 c
  exact this
theorem Lies.three3 {w : World} {g : Nat} {ty : TypeId} {a b c : Value} (h : Lies w g ty [a, b, c]) : (w.cell? ⟨g, 0, none⟩ = some a ∧ w.cell? ⟨g, 1, none⟩ = some b ∧ w.cell? ⟨g, 2, none⟩ = some c) ∧ (w.frozen? ⟨g, 0, none⟩ = false ∧ w.frozen? ⟨g, 1, none⟩ = false ∧ w.frozen? ⟨g, 2, none⟩ = false) :=
  ⟨⟨h.cell 0, h.cell 1, h.cell 2⟩, h.free 0, h.free 1, h.free 2⟩
abbrev zero3 : List Value := [.string { data := #[] }, .slice none 0 0, .slice none 0 0]
/-- How rule ends. -/
def RuleEnd (W0 : World) (R S m : Nat) (l : List Nat) (w : World) (e : Ending) (w' : World) : Prop :=
  Fr w R S w' ∧ ((∃ r q ev wv, Zq.ruleP m l = .ok (r, q) ∧ e = .returned (.agg #[.string (strOf r.name), ev, wv]) ∧ NdsIs w' R S w.heap.size ev r.expr ∧ NdsIs w' R S w.heap.size wv r.cond ∧ r.expr.length ≤ 48 ∧ r.cond.length ≤ 48 ∧ Ro W0 R S w.heap.size q w') ∨
    ((∃ er, Zq.ruleP m l = .error er) ∧ (∃ t A n c A' n' c', e = .returned (.agg #[.string t, .slice A n c, .slice A' n' c'])) ∧ Rb W0 R S w.heap.size w'))
section
variable {W0 w : World} {R S B m : Nat} {l : List Nat}
set_option maxHeartbeats 8000000 in
set_option maxRecDepth 100000 in
theorem rule_any (hAdv : AdvOk) (hm : m < 16) (h : Ro W0 R S B l w) :
    Calls Tryz.prog 38 #[rp R] w (RuleEnd W0 R S m l w) := by
  obtain ⟨t1, t2, t3, t4, t5⟩ := h.lt
  have hb0 := box_below w (.cells zero3.toArray 35)
  have hlG : Lies (w.alloc (.cells zero3.toArray 35)) w.heap.size 35 zero3 := Lies.new_ rfl
  have hT := takes_ro hAdv 16 (by decide) (h.more hb0)
  have HG0 : Hid (w.heap.size ≠ R ∧ w.heap.size ≠ S ∧ W0.heap.size ≤ w.heap.size) := ⟨by omega, by omega, t5⟩
  have HA := Lib.hid hAdv
  have HM : Hid (m < 16) := hm
  have HLG := Lib.hid hlG
  have HF0 : Hid (Fr w R S (w.alloc (.cells zero3.toArray 35))) := (Fr.refl _ _ _).more hb0
  clear h t1 t2 t3 t4 t5 hb0 hlG hAdv hm
  go_enter Tryz.func38, Tryz.ntmps38
  go_wp2_with fail
  refine hT.mono ?_
  rintro e w1 ⟨hfr, hh⟩
  clear hT
  have hf1 := HF0.out.trans hfr
  have hl1 := hfr.lies HLG.out HG0.out.1 HG0.out.2.1
  clear hfr
  have HF1 := Lib.hid hf1
  have HL1 := Lib.hid hl1
  clear hf1 hl1
  rcases hh with ⟨x, q, hx, hkx, rfl, h2⟩ | hh
  · have hMu := must_ro HA.out 15 (by decide) h2
    have HR1 := Lib.hid (rule_deny HM.out hx hkx)
    clear h2 hx hkx
    go_wp2_with fail
    refine hMu.mono ?_
    rintro e w2 ⟨rfl, hfr, ⟨q2, hq, h2⟩ | ⟨hq, h2⟩⟩
    · clear hMu
      have HF2 := Lib.hid (HF1.out.trans hfr)
      have HL2 := Lib.hid (hfr.lies HL1.out HG0.out.1 HG0.out.2.1)
      have HR2 : Hid (Zq.ruleP m l = match Zq.exprP q2 with
        | .error e => .error e
        | .ok (c, l3) => .ok (⟨[], [], c⟩, l3)) := by unfold Hid; rw [HR1.out, past_here (by decide) hq]
      have hC := expression_any HA.out h2
      have HLB : Hid (w.heap.size < w2.heap.size) := HL2.out.lt
      clear hfr hq h2
      go_wp2_with fail
      refine hC.mono ?_
      rintro e w3 ⟨hfr, ⟨ns, q3, v, hres, rfl, hnd, hn48, h5⟩ | ⟨⟨er, hres⟩, ⟨A, n, c, rfl⟩, h5⟩⟩
      · clear hC
        have HFX := Lib.hid (HF2.out.trans hfr)
        have HLX := Lib.hid (hfr.lies HL2.out HG0.out.1 HG0.out.2.1)
        have HND := Lib.hid hnd
        have HN : Hid (ns.length ≤ 48) := hn48
        have HR3 : Hid (Zq.ruleP m l = .ok (⟨[], [], ns⟩, q3)) := by unfold Hid; rw [HR2.out, hres]
        obtain ⟨A, c, rfl⟩ := hnd.form
        clear hfr hres hnd hn48
        have hlG := HLX.out
        obtain ⟨⟨z0, z1, z2⟩, f0, f1, f2⟩ := hlG.three3
        have HE : Hid (RuleEnd W0 R S m l w (.returned (.agg #[.string { data := #[] }, .slice none 0 0, (.slice A ns.length c)])) (rput w3 w.heap.size (.string { data := #[] }) (.slice none 0 0) (.slice A ns.length c))) := by
          have hgb := rput_gb w3 w.heap.size (.string { data := #[] }) (.slice none 0 0) (.slice A ns.length c)
          refine ⟨HFX.out.grown hgb (fun b e => .inr (.inr (by injection e with e; subst e; exact Nat.le_refl _))), ?_⟩
          have hltG := hlG.lt
          have hltB := HLB.out
          exact .inl ⟨⟨[], [], ns⟩, q3, .slice none 0 0, _, HR3.out, rfl, NdsIs.nil _ _ _ _, HND.out.keep (by omega) hgb.size (fun b hb hlt _ _ => hgb.block b hlt (fun e => by injection e with e; omega)), by simp, HN.out, (h5.rewrite hgb (by omega) HG0.out.2.2 HG0.out.1 HG0.out.2.1 hltG).down (by omega)⟩
        obtain ⟨⟨q0, q1, q2⟩, _⟩ := (hlG.rput (.string { data := #[] }) (.slice none 0 0) (.slice A ns.length c)).three3
        clear hlG h5
        go_wp2
        exact bodyPost_ret (v := .agg #[.string { data := #[] }, .slice none 0 0, (.slice A ns.length c)]) (by simp [results, Tryz.results38, go_sem, q0, q1, q2]) rfl HE.out
      · clear hC
        have HFX := Lib.hid (HF2.out.trans hfr)
        have HLX := Lib.hid (hfr.lies HL2.out HG0.out.1 HG0.out.2.1)
        have HERR : Hid (∃ er, Zq.ruleP m l = .error er) := ⟨er, by rw [HR2.out, hres]⟩
        clear hfr hres
        have hlG := HLX.out
        obtain ⟨⟨z0, z1, z2⟩, f0, f1, f2⟩ := hlG.three3
        have HE : Hid (RuleEnd W0 R S m l w (.returned (.agg #[.string { data := #[] }, .slice none 0 0, (.slice A n c)])) (rput w3 w.heap.size (.string { data := #[] }) (.slice none 0 0) (.slice A n c))) := by
          have hgb := rput_gb w3 w.heap.size (.string { data := #[] }) (.slice none 0 0) (.slice A n c)
          refine ⟨HFX.out.grown hgb (fun b e => .inr (.inr (by injection e with e; subst e; exact Nat.le_refl _))), ?_⟩
          have hltG := hlG.lt
          have hltB := HLB.out
          exact .inr ⟨HERR.out, ⟨_, _, _, _, _, _, _, rfl⟩, (h5.rewrite hgb (by omega) HG0.out.2.2 HG0.out.1 HG0.out.2.1 hltG).down (by omega)⟩
        obtain ⟨⟨q0, q1, q2⟩, _⟩ := (hlG.rput (.string { data := #[] }) (.slice none 0 0) (.slice A n c)).three3
        clear hlG h5
        go_wp2
        exact bodyPost_ret (v := .agg #[.string { data := #[] }, .slice none 0 0, (.slice A n c)]) (by simp [results, Tryz.results38, go_sem, q0, q1, q2]) rfl HE.out
    · clear hMu
      have HF2 := Lib.hid (HF1.out.trans hfr)
      have HL2 := Lib.hid (hfr.lies HL1.out HG0.out.1 HG0.out.2.1)
      have HERR : Hid (∃ er, Zq.ruleP m l = .error er) := ⟨111, by rw [HR1.out, past_not (n := 15) (by decide) hq]⟩
      have hC := expression_rb h2
      have HLB : Hid (w.heap.size < w2.heap.size) := HL2.out.lt
      clear hfr hq h2
      go_wp2_with fail
      refine hC.mono ?_
      rintro e w3 ⟨hfr, ⟨A, n, c, rfl⟩, h5⟩
      clear hC
      have HFX := Lib.hid (HF2.out.trans hfr)
      have HLX := Lib.hid (hfr.lies HL2.out HG0.out.1 HG0.out.2.1)
      clear hfr
      have hlG := HLX.out
      obtain ⟨⟨z0, z1, z2⟩, f0, f1, f2⟩ := hlG.three3
      have HE : Hid (RuleEnd W0 R S m l w (.returned (.agg #[.string { data := #[] }, .slice none 0 0, (.slice A n c)])) (rput w3 w.heap.size (.string { data := #[] }) (.slice none 0 0) (.slice A n c))) := by
        have hgb := rput_gb w3 w.heap.size (.string { data := #[] }) (.slice none 0 0) (.slice A n c)
        refine ⟨HFX.out.grown hgb (fun b e => .inr (.inr (by injection e with e; subst e; exact Nat.le_refl _))), ?_⟩
        have hltG := hlG.lt
        have hltB := HLB.out
        exact .inr ⟨HERR.out, ⟨_, _, _, _, _, _, _, rfl⟩, (h5.rewrite hgb (by omega) HG0.out.2.2 HG0.out.1 HG0.out.2.1 hltG).down (by omega)⟩
      obtain ⟨⟨q0, q1, q2⟩, _⟩ := (hlG.rput (.string { data := #[] }) (.slice none 0 0) (.slice A n c)).three3
      clear hlG h5
      go_wp2
      exact bodyPost_ret (v := .agg #[.string { data := #[] }, .slice none 0 0, (.slice A n c)]) (by simp [results, Tryz.results38, go_sem, q0, q1, q2]) rfl HE.out
  have HV0 : Hid (w1.heap.size ≠ R ∧ w1.heap.size ≠ S) := by
    rcases hh with ⟨x, q, _, _, _, h2⟩ | ⟨_, _, h2⟩
    · obtain ⟨t1, t2, _⟩ := h2.lt
      exact ⟨by omega, by omega⟩
    · obtain ⟨t1, t2, _⟩ := h2.lt
      exact ⟨by omega, by omega⟩
  rcases hh with ⟨x, q, hx, hkx, rfl, h2⟩ | ⟨hx, rfl, h2⟩
  rotate_left
  · obtain ⟨tx, c2⟩ := h2.cell2
    have hbV := box_below w1 (.cells #[.string tx, .slice none 0 0, .slice none 0 0] 35)
    have hlV : Lies (w1.alloc (.cells #[.string tx, .slice none 0 0, .slice none 0 0] 35)) w1.heap.size 35 [.string tx, .slice none 0 0, .slice none 0 0] := Lies.new_ rfl
    have HLV0 := Lib.hid hlV
    have HF2 := Lib.hid (HF1.out.more hbV)
    have HLG2 := Lib.hid (HL1.out.below hbV HL1.out.lt)
    have hM1 := must_rb 14 (by decide) (h2.more hbV)
    have HERR : Hid (∃ er, Zq.ruleP m l = .error er) := rule_none hx
    have hlt := h2.lt.1
    clear h2 hbV hlV hx
    go_wp2_with fail
    refine hM1.mono ?_
    rintro e w3 ⟨rfl, hfr, h3⟩
    clear hM1 c2 hlt
    have HF3 := Lib.hid (HF2.out.trans hfr)
    have HLG3 := Lib.hid (hfr.lies HLG2.out HG0.out.1 HG0.out.2.1)
    have HLV3 := Lib.hid (hfr.lies HLV0.out HV0.out.1 HV0.out.2)
    clear hfr
    have hMb := must_rb 10 (by decide) h3
    clear h3
    go_wp2_with fail
    refine hMb.mono ?_
    rintro e w4 ⟨rfl, hfr, h4⟩
    clear hMb
    have HF4 := Lib.hid (HF3.out.trans hfr)
    have HLG4 := Lib.hid (hfr.lies HLG3.out HG0.out.1 HG0.out.2.1)
    have HLV4 := Lib.hid (hfr.lies HLV3.out HV0.out.1 HV0.out.2)
    clear hfr
    have hC := expression_rb h4
    have HLB5 : Hid (w1.heap.size < w4.heap.size) := HLV4.out.lt
    clear h4
    go_wp2_with fail
    refine hC.mono ?_
    rintro e w5 ⟨hfr, ⟨A, n, c, rfl⟩, h5⟩
    clear hC
    have HF5 := Lib.hid (HF4.out.trans hfr)
    have HLG5 := Lib.hid (hfr.lies HLG4.out HG0.out.1 HG0.out.2.1)
    have HLV5 := Lib.hid (hfr.lies HLV4.out HV0.out.1 HV0.out.2)
    clear hfr
    have hgs := gbz_set w5 w1.heap.size 1 (.slice A n c)
    obtain ⟨⟨y0, y1, y2⟩, g0, g1, g2⟩ := HLV5.out.three3
    have hltV := HLV5.out.lt
    have h6 := h5.rewrite hgs HLB5.out (Nat.le_trans HG0.out.2.2 (Nat.le_of_lt HL1.out.lt)) HV0.out.1 HV0.out.2 hltV
    have hTk := takes_rb 15 (by decide) h6
    have HFX := Lib.hid (HF5.out.grown hgs (fun b e => .inr (.inr (by injection e with e; subst e; exact Nat.le_of_lt HL1.out.lt))))
    have HLGX := Lib.hid (HLG5.out.grown hgs (fun e => by have := HL1.out.lt; injection e with e; omega))
    have HLVX : Hid (Lies (w5.setCell ⟨w1.heap.size, 1, none⟩ (.slice A n c)) w1.heap.size 35 [.string tx, .slice A n c, .slice none 0 0]) := by have := HLV5.out.put 1 (.slice A n c); exact this
    have HLB : Hid (w.heap.size < w1.heap.size) := HL1.out.lt
    have HB5 := HLB5
    clear hgs hltV h5
    go_wp2_with fail
    refine hTk.mono ?_
    rintro e w6 ⟨rfl, rfl⟩
    clear hTk
    have h5 := h6
    clear h6
    obtain ⟨w6, ew6⟩ : ∃ w6, w6 = w5.setCell ⟨w1.heap.size, 1, none⟩ (.slice A n c) := ⟨_, rfl⟩
    rw [← ew6] at HFX HLGX HLVX h5 ⊢
    clear ew6 y0 y1 y2 g0 g1 g2
    have hlG := HLGX.out
    have hlV := HLVX.out
    obtain ⟨⟨z0, z1, z2⟩, f0, f1, f2⟩ := hlG.three3
    obtain ⟨⟨y0, y1, y2⟩, _⟩ := hlV.three3
    have HE : Hid (RuleEnd W0 R S m l w (.returned (.agg #[.string tx, (.slice A n c), (.slice none 0 0)])) (rput w6 w.heap.size (.string tx) (.slice A n c) (.slice none 0 0))) := by
      have hgb := rput_gb w6 w.heap.size (.string tx) (.slice A n c) (.slice none 0 0)
      refine ⟨HFX.out.grown hgb (fun b e => .inr (.inr (by injection e with e; subst e; exact Nat.le_refl _))), ?_⟩
      have hltG := hlG.lt
      have hltB := HLB.out
      exact .inr ⟨HERR.out, ⟨_, _, _, _, _, _, _, rfl⟩, (h5.rewrite hgb (by have := HB5.out; omega) HG0.out.2.2 HG0.out.1 HG0.out.2.1 hltG).down (by have := HB5.out; omega)⟩
    obtain ⟨⟨q0, q1, q2⟩, _⟩ := (hlG.rput (.string tx) (.slice A n c) (.slice none 0 0)).three3
    clear hlG hlV h5
    go_wp2
    exact bodyPost_ret (v := .agg #[.string tx, (.slice A n c), (.slice none 0 0)]) (by simp [results, Tryz.results38, go_sem, q0, q1, q2]) rfl HE.out
  have c2 := h2.cell2
  have hbV := box_below w1 (.cells #[.string (strOf (Zq.kText x)), .slice none 0 0, .slice none 0 0] 35)
  have hlV : Lies (w1.alloc (.cells #[.string (strOf (Zq.kText x)), .slice none 0 0, .slice none 0 0] 35)) w1.heap.size 35 [.string (strOf (Zq.kText x)), .slice none 0 0, .slice none 0 0] := Lies.new_ rfl
  have HLV0 := Lib.hid hlV
  have HF2 := Lib.hid (HF1.out.more hbV)
  have HLG2 := Lib.hid (HL1.out.below hbV HL1.out.lt)
  have hM1 := must_ro HA.out 14 (by decide) ((h2.ok hx).more hbV)
  have HX := Lib.hid hx
  have HK : Hid (Zq.kOf x ≠ 16) := hkx
  have hlt := h2.lt.1
  clear h2 hbV hlV hx hkx
  go_wp2_with fail
  refine hM1.mono ?_
  rintro e w3 ⟨rfl, hfr, hh⟩
  clear hM1 c2 hlt
  have HF3 := Lib.hid (HF2.out.trans hfr)
  have HLG3 := Lib.hid (hfr.lies HLG2.out HG0.out.1 HG0.out.2.1)
  have HLV3 := Lib.hid (hfr.lies HLV0.out HV0.out.1 HV0.out.2)
  clear hfr
  rcases hh with ⟨q', ⟨x', hx', hk'⟩, h3⟩ | ⟨hq, h3⟩
  rotate_left
  · have HERR : Hid (∃ er, Zq.ruleP m l = .error er) := rule_no HX.out (fun e => hq q ⟨x, HX.out, e⟩) HK.out
    clear hq
    have hMb := must_rb 10 (by decide) h3
    clear h3
    go_wp2_with fail
    refine hMb.mono ?_
    rintro e w4 ⟨rfl, hfr, h4⟩
    clear hMb
    have HF4 := Lib.hid (HF3.out.trans hfr)
    have HLG4 := Lib.hid (hfr.lies HLG3.out HG0.out.1 HG0.out.2.1)
    have HLV4 := Lib.hid (hfr.lies HLV3.out HV0.out.1 HV0.out.2)
    clear hfr
    have hC := expression_rb h4
    have HLB5 : Hid (w1.heap.size < w4.heap.size) := HLV4.out.lt
    clear h4
    go_wp2_with fail
    refine hC.mono ?_
    rintro e w5 ⟨hfr, ⟨A, n, c, rfl⟩, h5⟩
    clear hC
    have HF5 := Lib.hid (HF4.out.trans hfr)
    have HLG5 := Lib.hid (hfr.lies HLG4.out HG0.out.1 HG0.out.2.1)
    have HLV5 := Lib.hid (hfr.lies HLV4.out HV0.out.1 HV0.out.2)
    clear hfr
    have hgs := gbz_set w5 w1.heap.size 1 (.slice A n c)
    obtain ⟨⟨y0, y1, y2⟩, g0, g1, g2⟩ := HLV5.out.three3
    have hltV := HLV5.out.lt
    have h6 := h5.rewrite hgs HLB5.out (Nat.le_trans HG0.out.2.2 (Nat.le_of_lt HL1.out.lt)) HV0.out.1 HV0.out.2 hltV
    have hTk := takes_rb 15 (by decide) h6
    have HFX := Lib.hid (HF5.out.grown hgs (fun b e => .inr (.inr (by injection e with e; subst e; exact Nat.le_of_lt HL1.out.lt))))
    have HLGX := Lib.hid (HLG5.out.grown hgs (fun e => by have := HL1.out.lt; injection e with e; omega))
    have HLVX : Hid (Lies (w5.setCell ⟨w1.heap.size, 1, none⟩ (.slice A n c)) w1.heap.size 35 [.string (strOf (Zq.kText x)), .slice A n c, .slice none 0 0]) := by have := HLV5.out.put 1 (.slice A n c); exact this
    have HLB : Hid (w.heap.size < w1.heap.size) := HL1.out.lt
    have HB5 := HLB5
    clear hgs hltV h5
    go_wp2_with fail
    refine hTk.mono ?_
    rintro e w6 ⟨rfl, rfl⟩
    clear hTk
    have h5 := h6
    clear h6
    obtain ⟨w6, ew6⟩ : ∃ w6, w6 = w5.setCell ⟨w1.heap.size, 1, none⟩ (.slice A n c) := ⟨_, rfl⟩
    rw [← ew6] at HFX HLGX HLVX h5 ⊢
    clear ew6 y0 y1 y2 g0 g1 g2
    have hlG := HLGX.out
    have hlV := HLVX.out
    obtain ⟨⟨z0, z1, z2⟩, f0, f1, f2⟩ := hlG.three3
    obtain ⟨⟨y0, y1, y2⟩, _⟩ := hlV.three3
    have HE : Hid (RuleEnd W0 R S m l w (.returned (.agg #[.string (strOf (Zq.kText x)), (.slice A n c), (.slice none 0 0)])) (rput w6 w.heap.size (.string (strOf (Zq.kText x))) (.slice A n c) (.slice none 0 0))) := by
      have hgb := rput_gb w6 w.heap.size (.string (strOf (Zq.kText x))) (.slice A n c) (.slice none 0 0)
      refine ⟨HFX.out.grown hgb (fun b e => .inr (.inr (by injection e with e; subst e; exact Nat.le_refl _))), ?_⟩
      have hltG := hlG.lt
      have hltB := HLB.out
      exact .inr ⟨HERR.out, ⟨_, _, _, _, _, _, _, rfl⟩, (h5.rewrite hgb (by have := HB5.out; omega) HG0.out.2.2 HG0.out.1 HG0.out.2.1 hltG).down (by have := HB5.out; omega)⟩
    obtain ⟨⟨q0, q1, q2⟩, _⟩ := (hlG.rput (.string (strOf (Zq.kText x))) (.slice A n c) (.slice none 0 0)).three3
    clear hlG hlV h5
    go_wp2
    exact bodyPost_ret (v := .agg #[.string (strOf (Zq.kText x)), (.slice A n c), (.slice none 0 0)]) (by simp [results, Tryz.results38, go_sem, q0, q1, q2]) rfl HE.out
  have hX' := HX.out
  rw [hX'] at hx'
  simp only [Option.some.injEq, Prod.mk.injEq] at hx'
  obtain ⟨rfl, rfl⟩ := hx'
  have HR1 := Lib.hid (rule_name HM.out HX.out hk')
  have hM2 := must_ro HA.out 10 (by decide) h3
  clear h3 hX' hk'
  go_wp2_with fail
  refine hM2.mono ?_
  rintro e w4 ⟨rfl, hfr, hh⟩
  clear hM2
  have HF4 := Lib.hid (HF3.out.trans hfr)
  have HLG4 := Lib.hid (hfr.lies HLG3.out HG0.out.1 HG0.out.2.1)
  have HLV4 := Lib.hid (hfr.lies HLV3.out HV0.out.1 HV0.out.2)
  clear hfr
  rcases hh with ⟨q2, hq, h4⟩ | ⟨hq, h4⟩
  rotate_left
  · have HERR : Hid (∃ er, Zq.ruleP m l = .error er) := ⟨111, by rw [HR1.out, past_not (n := 10) (by decide) hq]⟩
    clear hq
    have hC := expression_rb h4
    have HLB5 : Hid (w1.heap.size < w4.heap.size) := HLV4.out.lt
    clear h4
    go_wp2_with fail
    refine hC.mono ?_
    rintro e w5 ⟨hfr, ⟨A, n, c, rfl⟩, h5⟩
    clear hC
    have HF5 := Lib.hid (HF4.out.trans hfr)
    have HLG5 := Lib.hid (hfr.lies HLG4.out HG0.out.1 HG0.out.2.1)
    have HLV5 := Lib.hid (hfr.lies HLV4.out HV0.out.1 HV0.out.2)
    clear hfr
    have hgs := gbz_set w5 w1.heap.size 1 (.slice A n c)
    obtain ⟨⟨y0, y1, y2⟩, g0, g1, g2⟩ := HLV5.out.three3
    have hltV := HLV5.out.lt
    have h6 := h5.rewrite hgs HLB5.out (Nat.le_trans HG0.out.2.2 (Nat.le_of_lt HL1.out.lt)) HV0.out.1 HV0.out.2 hltV
    have hTk := takes_rb 15 (by decide) h6
    have HFX := Lib.hid (HF5.out.grown hgs (fun b e => .inr (.inr (by injection e with e; subst e; exact Nat.le_of_lt HL1.out.lt))))
    have HLGX := Lib.hid (HLG5.out.grown hgs (fun e => by have := HL1.out.lt; injection e with e; omega))
    have HLVX : Hid (Lies (w5.setCell ⟨w1.heap.size, 1, none⟩ (.slice A n c)) w1.heap.size 35 [.string (strOf (Zq.kText x)), .slice A n c, .slice none 0 0]) := by have := HLV5.out.put 1 (.slice A n c); exact this
    have HLB : Hid (w.heap.size < w1.heap.size) := HL1.out.lt
    have HB5 := HLB5
    clear hgs hltV h5
    go_wp2_with fail
    refine hTk.mono ?_
    rintro e w6 ⟨rfl, rfl⟩
    clear hTk
    have h5 := h6
    clear h6
    obtain ⟨w6, ew6⟩ : ∃ w6, w6 = w5.setCell ⟨w1.heap.size, 1, none⟩ (.slice A n c) := ⟨_, rfl⟩
    rw [← ew6] at HFX HLGX HLVX h5 ⊢
    clear ew6 y0 y1 y2 g0 g1 g2
    have hlG := HLGX.out
    have hlV := HLVX.out
    obtain ⟨⟨z0, z1, z2⟩, f0, f1, f2⟩ := hlG.three3
    obtain ⟨⟨y0, y1, y2⟩, _⟩ := hlV.three3
    have HE : Hid (RuleEnd W0 R S m l w (.returned (.agg #[.string (strOf (Zq.kText x)), (.slice A n c), (.slice none 0 0)])) (rput w6 w.heap.size (.string (strOf (Zq.kText x))) (.slice A n c) (.slice none 0 0))) := by
      have hgb := rput_gb w6 w.heap.size (.string (strOf (Zq.kText x))) (.slice A n c) (.slice none 0 0)
      refine ⟨HFX.out.grown hgb (fun b e => .inr (.inr (by injection e with e; subst e; exact Nat.le_refl _))), ?_⟩
      have hltG := hlG.lt
      have hltB := HLB.out
      exact .inr ⟨HERR.out, ⟨_, _, _, _, _, _, _, rfl⟩, (h5.rewrite hgb (by have := HB5.out; omega) HG0.out.2.2 HG0.out.1 HG0.out.2.1 hltG).down (by have := HB5.out; omega)⟩
    obtain ⟨⟨q0, q1, q2⟩, _⟩ := (hlG.rput (.string (strOf (Zq.kText x))) (.slice A n c) (.slice none 0 0)).three3
    clear hlG hlV h5
    go_wp2
    exact bodyPost_ret (v := .agg #[.string (strOf (Zq.kText x)), (.slice A n c), (.slice none 0 0)]) (by simp [results, Tryz.results38, go_sem, q0, q1, q2]) rfl HE.out
  have HP1 := Lib.hid (past_here (s := [61]) (by decide) hq)
  have hC := expression_any HA.out h4
  have HLB5 : Hid (w1.heap.size < w4.heap.size) := HLV4.out.lt
  clear h4 hq
  go_wp2_with fail
  refine hC.mono ?_
  rintro e w5 ⟨hfr, hh⟩
  clear hC
  have HF5 := Lib.hid (HF4.out.trans hfr)
  have HLG5 := Lib.hid (hfr.lies HLG4.out HG0.out.1 HG0.out.2.1)
  have HLV5 := Lib.hid (hfr.lies HLV4.out HV0.out.1 HV0.out.2)
  clear hfr
  rcases hh with ⟨ns, q3, v, hres, rfl, hnd, hn48, h5⟩ | ⟨⟨er, hres⟩, ⟨A, n, c, rfl⟩, h5⟩
  rotate_left
  · have HERR : Hid (∃ er, Zq.ruleP m l = .error er) := ⟨er, by rw [HR1.out, HP1.out]; simp only [hres]⟩
    clear hres
    have hgs := gbz_set w5 w1.heap.size 1 (.slice A n c)
    obtain ⟨⟨y0, y1, y2⟩, g0, g1, g2⟩ := HLV5.out.three3
    have hltV := HLV5.out.lt
    have h6 := h5.rewrite hgs HLB5.out (Nat.le_trans HG0.out.2.2 (Nat.le_of_lt HL1.out.lt)) HV0.out.1 HV0.out.2 hltV
    have hTk := takes_rb 15 (by decide) h6
    have HFX := Lib.hid (HF5.out.grown hgs (fun b e => .inr (.inr (by injection e with e; subst e; exact Nat.le_of_lt HL1.out.lt))))
    have HLGX := Lib.hid (HLG5.out.grown hgs (fun e => by have := HL1.out.lt; injection e with e; omega))
    have HLVX : Hid (Lies (w5.setCell ⟨w1.heap.size, 1, none⟩ (.slice A n c)) w1.heap.size 35 [.string (strOf (Zq.kText x)), .slice A n c, .slice none 0 0]) := by have := HLV5.out.put 1 (.slice A n c); exact this
    have HLB : Hid (w.heap.size < w1.heap.size) := HL1.out.lt
    have HB5 := HLB5
    clear hgs hltV h5
    go_wp2_with fail
    refine hTk.mono ?_
    rintro e w6 ⟨rfl, rfl⟩
    clear hTk
    have h5 := h6
    clear h6
    obtain ⟨w6, ew6⟩ : ∃ w6, w6 = w5.setCell ⟨w1.heap.size, 1, none⟩ (.slice A n c) := ⟨_, rfl⟩
    rw [← ew6] at HFX HLGX HLVX h5 ⊢
    clear ew6 y0 y1 y2 g0 g1 g2
    have hlG := HLGX.out
    have hlV := HLVX.out
    obtain ⟨⟨z0, z1, z2⟩, f0, f1, f2⟩ := hlG.three3
    obtain ⟨⟨y0, y1, y2⟩, _⟩ := hlV.three3
    have HE : Hid (RuleEnd W0 R S m l w (.returned (.agg #[.string (strOf (Zq.kText x)), (.slice A n c), (.slice none 0 0)])) (rput w6 w.heap.size (.string (strOf (Zq.kText x))) (.slice A n c) (.slice none 0 0))) := by
      have hgb := rput_gb w6 w.heap.size (.string (strOf (Zq.kText x))) (.slice A n c) (.slice none 0 0)
      refine ⟨HFX.out.grown hgb (fun b e => .inr (.inr (by injection e with e; subst e; exact Nat.le_refl _))), ?_⟩
      have hltG := hlG.lt
      have hltB := HLB.out
      exact .inr ⟨HERR.out, ⟨_, _, _, _, _, _, _, rfl⟩, (h5.rewrite hgb (by have := HB5.out; omega) HG0.out.2.2 HG0.out.1 HG0.out.2.1 hltG).down (by have := HB5.out; omega)⟩
    obtain ⟨⟨q0, q1, q2⟩, _⟩ := (hlG.rput (.string (strOf (Zq.kText x))) (.slice A n c) (.slice none 0 0)).three3
    clear hlG hlV h5
    go_wp2
    exact bodyPost_ret (v := .agg #[.string (strOf (Zq.kText x)), (.slice A n c), (.slice none 0 0)]) (by simp [results, Tryz.results38, go_sem, q0, q1, q2]) rfl HE.out
  obtain ⟨A, c, rfl⟩ := hnd.form
  have HR2 : Hid (Zq.ruleP m l = match Zq.isP Zq.wWhen q3 with
      | .error e => .error e
      | .ok more => if more then
          match Zq.past Zq.wWhen q3 with
          | .error e => .error e
          | .ok l4 => match Zq.exprP l4 with
            | .error e => .error e
            | .ok (c, l5) => .ok (⟨Zq.kText x, ns, c⟩, l5)
        else .ok (⟨Zq.kText x, ns, []⟩, q3)) := by
    unfold Hid
    rw [HR1.out, HP1.out]
    simp only [hres]
  have HN : Hid (ns.length ≤ 48) := hn48
  have hgs := gbz_set w5 w1.heap.size 1 (.slice A ns.length c)
  obtain ⟨⟨y0, y1, y2⟩, g0, g1, g2⟩ := HLV5.out.three3
  have hltV := HLV5.out.lt
  have h6 := h5.rewrite hgs HLB5.out (Nat.le_trans HG0.out.2.2 (Nat.le_of_lt HL1.out.lt)) HV0.out.1 HV0.out.2 hltV
  have HND6 : Hid (NdsIs (w5.setCell ⟨w1.heap.size, 1, none⟩ (.slice A ns.length c)) R S w4.heap.size (.slice A ns.length c) ns) := hnd.keep (Nat.le_refl _) hgs.size (fun b hb hlt _ _ => hgs.block b hlt (fun e => by have := HLB5.out; injection e with e; omega))
  have hTk := takes_ro HA.out 15 (by decide) h6
  have HF6 := Lib.hid (HF5.out.grown hgs (fun b e => .inr (.inr (by injection e with e; subst e; exact Nat.le_of_lt HL1.out.lt))))
  have HLG6 := Lib.hid (HLG5.out.grown hgs (fun e => by have := HL1.out.lt; injection e with e; omega))
  have HLV6 : Hid (Lies (w5.setCell ⟨w1.heap.size, 1, none⟩ (.slice A ns.length c)) w1.heap.size 35 [.string (strOf (Zq.kText x)), .slice A ns.length c, .slice none 0 0]) := by have := HLV5.out.put 1 (.slice A ns.length c); exact this
  have HLB : Hid (w.heap.size < w1.heap.size) := HL1.out.lt
  clear hgs hltV h5 h6 hres hnd hn48
  go_wp2_with fail
  refine hTk.mono ?_
  rintro e w7 ⟨hfr, hh⟩
  clear hTk y0 y1 y2 g0 g1 g2
  have HF7 := Lib.hid (HF6.out.trans hfr)
  have HLG7 := Lib.hid (hfr.lies HLG6.out HG0.out.1 HG0.out.2.1)
  have HLV7 := Lib.hid (hfr.lies HLV6.out HV0.out.1 HV0.out.2)
  have HND7 := Lib.hid (HND6.out.fr hfr)
  clear hfr
  rcases hh with ⟨y, q4, hy, hky, rfl, h7⟩ | ⟨y, q4, hy, hky, rfl, h7⟩ | ⟨hy, rfl, h7⟩
  rotate_left
  · have HFX := HF7
    have HLGX := HLG7
    have HLVX := HLV7
    have h5 := h7.ok hy
    have HR3 : Hid (Zq.ruleP m l = .ok (⟨Zq.kText x, ns, []⟩, q3)) := by unfold Hid; rw [HR2.out, isP_some hy, decide_eq_false hky]; rfl
    clear h7 hy hky
    have hlG := HLGX.out
    have hlV := HLVX.out
    obtain ⟨⟨z0, z1, z2⟩, f0, f1, f2⟩ := hlG.three3
    obtain ⟨⟨y0, y1, y2⟩, _⟩ := hlV.three3
    have HE : Hid (RuleEnd W0 R S m l w (.returned (.agg #[.string (strOf (Zq.kText x)), (.slice A ns.length c), (.slice none 0 0)])) (rput w7 w.heap.size (.string (strOf (Zq.kText x))) (.slice A ns.length c) (.slice none 0 0))) := by
      have hgb := rput_gb w7 w.heap.size (.string (strOf (Zq.kText x))) (.slice A ns.length c) (.slice none 0 0)
      refine ⟨HFX.out.grown hgb (fun b e => .inr (.inr (by injection e with e; subst e; exact Nat.le_refl _))), ?_⟩
      have hltG := hlG.lt
      have hltB := HLB.out
      have hl5 := HLB5.out
      exact .inl ⟨⟨Zq.kText x, ns, []⟩, q3, _, _, HR3.out, rfl, HND7.out.keep (by omega) hgb.size (fun b hb hlt _ _ => hgb.block b hlt (fun e => by injection e with e; omega)), NdsIs.nil _ _ _ _, HN.out, by simp, (h5.rewrite hgb (by omega) HG0.out.2.2 HG0.out.1 HG0.out.2.1 hltG).down (by omega)⟩
    obtain ⟨⟨q0, q1, q2⟩, _⟩ := (hlG.rput (.string (strOf (Zq.kText x))) (.slice A ns.length c) (.slice none 0 0)).three3
    clear hlG hlV h5
    go_wp2
    exact bodyPost_ret (v := .agg #[.string (strOf (Zq.kText x)), (.slice A ns.length c), (.slice none 0 0)]) (by simp [results, Tryz.results38, go_sem, q0, q1, q2]) rfl HE.out
  · have HFX := HF7
    have HLGX := HLG7
    have HLVX := HLV7
    have h5 := h7
    have HERR : Hid (∃ er, Zq.ruleP m l = .error er) := ⟨111, by rw [HR2.out]; unfold Zq.isP; simp only [hy]⟩
    clear h7 hy
    have hlG := HLGX.out
    have hlV := HLVX.out
    obtain ⟨⟨z0, z1, z2⟩, f0, f1, f2⟩ := hlG.three3
    obtain ⟨⟨y0, y1, y2⟩, _⟩ := hlV.three3
    have HE : Hid (RuleEnd W0 R S m l w (.returned (.agg #[.string (strOf (Zq.kText x)), (.slice A ns.length c), (.slice none 0 0)])) (rput w7 w.heap.size (.string (strOf (Zq.kText x))) (.slice A ns.length c) (.slice none 0 0))) := by
      have hgb := rput_gb w7 w.heap.size (.string (strOf (Zq.kText x))) (.slice A ns.length c) (.slice none 0 0)
      refine ⟨HFX.out.grown hgb (fun b e => .inr (.inr (by injection e with e; subst e; exact Nat.le_refl _))), ?_⟩
      have hltG := hlG.lt
      have hltB := HLB.out
      have hl5 := HLB5.out
      exact .inr ⟨HERR.out, ⟨_, _, _, _, _, _, _, rfl⟩, (h5.rewrite hgb (by omega) HG0.out.2.2 HG0.out.1 HG0.out.2.1 hltG).down (by omega)⟩
    obtain ⟨⟨q0, q1, q2⟩, _⟩ := (hlG.rput (.string (strOf (Zq.kText x))) (.slice A ns.length c) (.slice none 0 0)).three3
    clear hlG hlV h5
    go_wp2
    exact bodyPost_ret (v := .agg #[.string (strOf (Zq.kText x)), (.slice A ns.length c), (.slice none 0 0)]) (by simp [results, Tryz.results38, go_sem, q0, q1, q2]) rfl HE.out
  have HR3 : Hid (Zq.ruleP m l = match Zq.exprP q4 with
      | .error e => .error e
      | .ok (c, l5) => .ok (⟨Zq.kText x, ns, c⟩, l5)) := by
    unfold Hid
    rw [HR2.out, isP_some hy, decide_eq_true hky]
    simp only [if_true, past_here (s := Zq.wWhen) (n := 15) (by decide) ⟨y, hy, hky⟩]
  have hC := expression_any HA.out h7
  have HLB8 : Hid (w1.heap.size < w7.heap.size) := HLV7.out.lt
  clear h7 hy hky
  go_wp2_with fail
  refine hC.mono ?_
  rintro e w8 ⟨hfr, hh⟩
  clear hC
  have HF8 := Lib.hid (HF7.out.trans hfr)
  have HLG8 := Lib.hid (hfr.lies HLG7.out HG0.out.1 HG0.out.2.1)
  have HLV8 := Lib.hid (hfr.lies HLV7.out HV0.out.1 HV0.out.2)
  have HND8 := Lib.hid (HND7.out.fr hfr)
  clear hfr
  rcases hh with ⟨ns2, q5, v, hres, rfl, hnd, hn48, h8⟩ | ⟨⟨er, hres⟩, ⟨A2, n2, c2, rfl⟩, h8⟩
  · obtain ⟨A2, c2, rfl⟩ := hnd.form
    have HR4 : Hid (Zq.ruleP m l = .ok (⟨Zq.kText x, ns, ns2⟩, q5)) := by unfold Hid; rw [HR3.out]; simp only [hres]
    have HN2 : Hid (ns2.length ≤ 48) := hn48
    have hgs := gbz_set w8 w1.heap.size 2 (.slice A2 ns2.length c2)
    obtain ⟨⟨y0, y1, y2⟩, g0, g1, g2⟩ := HLV8.out.three3
    have h5 := h8.rewrite hgs HLB8.out (Nat.le_trans HG0.out.2.2 (Nat.le_of_lt HL1.out.lt)) HV0.out.1 HV0.out.2 HLV8.out.lt
    have HNDX : Hid (NdsIs (w8.setCell ⟨w1.heap.size, 2, none⟩ (.slice A2 ns2.length c2)) R S w4.heap.size (.slice A ns.length c) ns) := HND8.out.keep (Nat.le_refl _) hgs.size (fun b hb hlt _ _ => hgs.block b hlt (fun e => by have := HLB5.out; injection e with e; omega))
    have HNDY : Hid (NdsIs (w8.setCell ⟨w1.heap.size, 2, none⟩ (.slice A2 ns2.length c2)) R S w7.heap.size (.slice A2 ns2.length c2) ns2) := hnd.keep (Nat.le_refl _) hgs.size (fun b hb hlt _ _ => hgs.block b hlt (fun e => by have := HLB8.out; injection e with e; omega))
    have HFX := Lib.hid (HF8.out.grown hgs (fun b e => .inr (.inr (by injection e with e; subst e; exact Nat.le_of_lt HL1.out.lt))))
    have HLGX := Lib.hid (HLG8.out.grown hgs (fun e => by have := HL1.out.lt; injection e with e; omega))
    have HLVX : Hid (Lies (w8.setCell ⟨w1.heap.size, 2, none⟩ (.slice A2 ns2.length c2)) w1.heap.size 35 [.string (strOf (Zq.kText x)), .slice A ns.length c, .slice A2 ns2.length c2]) := by have := HLV8.out.put 2 (.slice A2 ns2.length c2); exact this
    clear hgs h8 hres hnd hn48
    go_upto_region 10 with (fail)
    obtain ⟨w9, ew9⟩ : ∃ w9, w9 = w8.setCell ⟨w1.heap.size, 2, none⟩ (.slice A2 ns2.length c2) := ⟨_, rfl⟩
    rw [← ew9] at HNDX HNDY HFX HLGX HLVX h5 ⊢
    clear ew9 y0 y1 y2 g0 g1 g2
    have hlG := HLGX.out
    have hlV := HLVX.out
    obtain ⟨⟨z0, z1, z2⟩, f0, f1, f2⟩ := hlG.three3
    obtain ⟨⟨y0, y1, y2⟩, _⟩ := hlV.three3
    have HE : Hid (RuleEnd W0 R S m l w (.returned (.agg #[.string (strOf (Zq.kText x)), (.slice A ns.length c), (.slice A2 ns2.length c2)])) (rput w9 w.heap.size (.string (strOf (Zq.kText x))) (.slice A ns.length c) (.slice A2 ns2.length c2))) := by
      have hgb := rput_gb w9 w.heap.size (.string (strOf (Zq.kText x))) (.slice A ns.length c) (.slice A2 ns2.length c2)
      refine ⟨HFX.out.grown hgb (fun b e => .inr (.inr (by injection e with e; subst e; exact Nat.le_refl _))), ?_⟩
      have hltG := hlG.lt
      have hltB := HLB.out
      have hl5 := HLB5.out
      have hl8 := HLB8.out
      exact .inl ⟨⟨Zq.kText x, ns, ns2⟩, q5, _, _, HR4.out, rfl, HNDX.out.keep (by omega) hgb.size (fun b hb hlt _ _ => hgb.block b hlt (fun e => by injection e with e; omega)), HNDY.out.keep (by omega) hgb.size (fun b hb hlt _ _ => hgb.block b hlt (fun e => by injection e with e; omega)), HN.out, HN2.out, (h5.rewrite hgb (by omega) HG0.out.2.2 HG0.out.1 HG0.out.2.1 hltG).down (by omega)⟩
    obtain ⟨⟨q0, q1, q2⟩, _⟩ := (hlG.rput (.string (strOf (Zq.kText x))) (.slice A ns.length c) (.slice A2 ns2.length c2)).three3
    clear hlG hlV h5
    go_wp2
    exact bodyPost_ret (v := .agg #[.string (strOf (Zq.kText x)), (.slice A ns.length c), (.slice A2 ns2.length c2)]) (by simp [results, Tryz.results38, go_sem, q0, q1, q2]) rfl HE.out
  · have HERR : Hid (∃ er, Zq.ruleP m l = .error er) := ⟨er, by rw [HR3.out]; simp only [hres]⟩
    have hgs := gbz_set w8 w1.heap.size 2 (.slice A2 n2 c2)
    obtain ⟨⟨y0, y1, y2⟩, g0, g1, g2⟩ := HLV8.out.three3
    have h5 := h8.rewrite hgs HLB8.out (Nat.le_trans HG0.out.2.2 (Nat.le_of_lt HL1.out.lt)) HV0.out.1 HV0.out.2 HLV8.out.lt
    have HFX := Lib.hid (HF8.out.grown hgs (fun b e => .inr (.inr (by injection e with e; subst e; exact Nat.le_of_lt HL1.out.lt))))
    have HLGX := Lib.hid (HLG8.out.grown hgs (fun e => by have := HL1.out.lt; injection e with e; omega))
    have HLVX : Hid (Lies (w8.setCell ⟨w1.heap.size, 2, none⟩ (.slice A2 n2 c2)) w1.heap.size 35 [.string (strOf (Zq.kText x)), .slice A ns.length c, .slice A2 n2 c2]) := by have := HLV8.out.put 2 (.slice A2 n2 c2); exact this
    clear hgs h8 hres
    go_upto_region 10 with (fail)
    obtain ⟨w9, ew9⟩ : ∃ w9, w9 = w8.setCell ⟨w1.heap.size, 2, none⟩ (.slice A2 n2 c2) := ⟨_, rfl⟩
    rw [← ew9] at HFX HLGX HLVX h5 ⊢
    clear ew9 y0 y1 y2 g0 g1 g2
    have hlG := HLGX.out
    have hlV := HLVX.out
    obtain ⟨⟨z0, z1, z2⟩, f0, f1, f2⟩ := hlG.three3
    obtain ⟨⟨y0, y1, y2⟩, _⟩ := hlV.three3
    have HE : Hid (RuleEnd W0 R S m l w (.returned (.agg #[.string (strOf (Zq.kText x)), (.slice A ns.length c), (.slice A2 n2 c2)])) (rput w9 w.heap.size (.string (strOf (Zq.kText x))) (.slice A ns.length c) (.slice A2 n2 c2))) := by
      have hgb := rput_gb w9 w.heap.size (.string (strOf (Zq.kText x))) (.slice A ns.length c) (.slice A2 n2 c2)
      refine ⟨HFX.out.grown hgb (fun b e => .inr (.inr (by injection e with e; subst e; exact Nat.le_refl _))), ?_⟩
      have hltG := hlG.lt
      have hltB := HLB.out
      have hl5 := HLB5.out
      have hl8 := HLB8.out
      exact .inr ⟨HERR.out, ⟨_, _, _, _, _, _, _, rfl⟩, (h5.rewrite hgb (by omega) HG0.out.2.2 HG0.out.1 HG0.out.2.1 hltG).down (by omega)⟩
    obtain ⟨⟨q0, q1, q2⟩, _⟩ := (hlG.rput (.string (strOf (Zq.kText x))) (.slice A ns.length c) (.slice A2 n2 c2)).three3
    clear hlG hlV h5
    go_wp2
    exact bodyPost_ret (v := .agg #[.string (strOf (Zq.kText x)), (.slice A ns.length c), (.slice A2 n2 c2)]) (by simp [results, Tryz.results38, go_sem, q0, q1, q2]) rfl HE.out
end
end Go.Proofs.YthhlmalpelgpeaaGreatDoor

/-
  The reader of rules: a rule behind a fault.
-/
namespace Go.Proofs.YthhlmalpelgpeaaGreatDoor
open Go.RowKit

/-- How rule ends behind a fault. -/
def RuleB (W0 : World) (R S : Nat) (w : World) (e : Ending) (w' : World) : Prop :=
  Fr w R S w' ∧ (∃ t A n c A' n' c', e = .returned (.agg #[.string t, .slice A n c, .slice A' n' c'])) ∧ Rb W0 R S w.heap.size w'
section
variable {W0 w : World} {R S B : Nat}
set_option maxHeartbeats 2000000 in
set_option maxRecDepth 100000 in
theorem rule_rb (h : Rb W0 R S B w) :
    Calls Tryz.prog 38 #[rp R] w (RuleB W0 R S w) := by
  obtain ⟨t1, t2, t3, t4, t5⟩ := h.lt
  have hb0 := box_below w (.cells zero3.toArray 35)
  have hlG : Lies (w.alloc (.cells zero3.toArray 35)) w.heap.size 35 zero3 := Lies.new_ rfl
  have hT := takes_rb 16 (by decide) (h.more hb0)
  have HG0 : Hid (w.heap.size ≠ R ∧ w.heap.size ≠ S ∧ W0.heap.size ≤ w.heap.size) := ⟨by omega, by omega, t5⟩
  have HLG := Lib.hid hlG
  have HF1 : Hid (Fr w R S (w.alloc (.cells zero3.toArray 35))) := (Fr.refl _ _ _).more hb0
  obtain ⟨w1, ew1⟩ : ∃ w1, w1 = w.alloc (.cells zero3.toArray 35) := ⟨_, rfl⟩
  have HW := Lib.hid ew1
  have h2 := h.more hb0
  rw [← ew1] at h2 HLG HF1
  have HL1 := HLG
  have HV0 : Hid (w1.heap.size ≠ R ∧ w1.heap.size ≠ S) := by
    obtain ⟨t1, t2, _⟩ := h2.lt
    exact ⟨by omega, by omega⟩
  clear h t1 t2 t3 t4 t5 hb0 hlG ew1 HLG
  go_enter Tryz.func38, Tryz.ntmps38
  go_wp2_with fail
  refine hT.mono ?_
  rintro e w1' ⟨rfl, rfl⟩
  clear hT
  rw [← HW.out]
  obtain ⟨tx, c2⟩ := h2.cell2
  have hbV := box_below w1 (.cells #[.string tx, .slice none 0 0, .slice none 0 0] 35)
  have hlV : Lies (w1.alloc (.cells #[.string tx, .slice none 0 0, .slice none 0 0] 35)) w1.heap.size 35 [.string tx, .slice none 0 0, .slice none 0 0] := Lies.new_ rfl
  have HLV0 := Lib.hid hlV
  have HF2 := Lib.hid (HF1.out.more hbV)
  have HLG2 := Lib.hid (HL1.out.below hbV HL1.out.lt)
  have hM1 := must_rb 14 (by decide) (h2.more hbV)
  have hlt := h2.lt.1
  clear h2 hbV hlV
  go_wp2_with fail
  refine hM1.mono ?_
  rintro e w3 ⟨rfl, hfr, h3⟩
  clear hM1 c2 hlt
  have HF3 := Lib.hid (HF2.out.trans hfr)
  have HLG3 := Lib.hid (hfr.lies HLG2.out HG0.out.1 HG0.out.2.1)
  have HLV3 := Lib.hid (hfr.lies HLV0.out HV0.out.1 HV0.out.2)
  clear hfr
  have hMb := must_rb 10 (by decide) h3
  clear h3
  go_wp2_with fail
  refine hMb.mono ?_
  rintro e w4 ⟨rfl, hfr, h4⟩
  clear hMb
  have HF4 := Lib.hid (HF3.out.trans hfr)
  have HLG4 := Lib.hid (hfr.lies HLG3.out HG0.out.1 HG0.out.2.1)
  have HLV4 := Lib.hid (hfr.lies HLV3.out HV0.out.1 HV0.out.2)
  clear hfr
  have hC := expression_rb h4
  have HLB5 : Hid (w1.heap.size < w4.heap.size) := HLV4.out.lt
  clear h4
  go_wp2_with fail
  refine hC.mono ?_
  rintro e w5 ⟨hfr, ⟨A, n, c, rfl⟩, h5⟩
  clear hC
  have HF5 := Lib.hid (HF4.out.trans hfr)
  have HLG5 := Lib.hid (hfr.lies HLG4.out HG0.out.1 HG0.out.2.1)
  have HLV5 := Lib.hid (hfr.lies HLV4.out HV0.out.1 HV0.out.2)
  clear hfr
  have hgs := gbz_set w5 w1.heap.size 1 (.slice A n c)
  obtain ⟨⟨y0, y1, y2⟩, g0, g1, g2⟩ := HLV5.out.three3
  have hltV := HLV5.out.lt
  have h6 := h5.rewrite hgs HLB5.out (Nat.le_trans HG0.out.2.2 (Nat.le_of_lt HL1.out.lt)) HV0.out.1 HV0.out.2 hltV
  have hTk := takes_rb 15 (by decide) h6
  have HFX := Lib.hid (HF5.out.grown hgs (fun b e => .inr (.inr (by injection e with e; subst e; exact Nat.le_of_lt HL1.out.lt))))
  have HLGX := Lib.hid (HLG5.out.grown hgs (fun e => by have := HL1.out.lt; injection e with e; omega))
  have HLVX : Hid (Lies (w5.setCell ⟨w1.heap.size, 1, none⟩ (.slice A n c)) w1.heap.size 35 [.string tx, .slice A n c, .slice none 0 0]) := by have := HLV5.out.put 1 (.slice A n c); exact this
  have HLB : Hid (w.heap.size < w1.heap.size) := HL1.out.lt
  have HB5 := HLB5
  clear hgs hltV h5
  go_wp2_with fail
  refine hTk.mono ?_
  rintro e w6 ⟨rfl, rfl⟩
  clear hTk
  have h5 := h6
  clear h6
  obtain ⟨w6, ew6⟩ : ∃ w6, w6 = w5.setCell ⟨w1.heap.size, 1, none⟩ (.slice A n c) := ⟨_, rfl⟩
  rw [← ew6] at HFX HLGX HLVX h5 ⊢
  clear ew6 y0 y1 y2 g0 g1 g2
  have hlG := HLGX.out
  have hlV := HLVX.out
  obtain ⟨⟨z0, z1, z2⟩, f0, f1, f2⟩ := hlG.three3
  obtain ⟨⟨y0, y1, y2⟩, _⟩ := hlV.three3
  have HE : Hid (RuleB W0 R S w (.returned (.agg #[.string tx, (.slice A n c), (.slice none 0 0)])) (rput w6 w.heap.size (.string tx) (.slice A n c) (.slice none 0 0))) := by
    have hgb := rput_gb w6 w.heap.size (.string tx) (.slice A n c) (.slice none 0 0)
    refine ⟨HFX.out.grown hgb (fun b e => .inr (.inr (by injection e with e; subst e; exact Nat.le_refl _))), ?_⟩
    have hltG := hlG.lt
    have hltB := HLB.out
    exact ⟨⟨_, _, _, _, _, _, _, rfl⟩, (h5.rewrite hgb (by have := HB5.out; omega) HG0.out.2.2 HG0.out.1 HG0.out.2.1 hltG).down (by have := HB5.out; omega)⟩
  obtain ⟨⟨q0, q1, q2⟩, _⟩ := (hlG.rput (.string tx) (.slice A n c) (.slice none 0 0)).three3
  clear hlG hlV h5
  go_wp2
  exact bodyPost_ret (v := .agg #[.string tx, (.slice A n c), (.slice none 0 0)]) (by simp [results, Tryz.results38, go_sem, q0, q1, q2]) rfl HE.out
end
end Go.Proofs.YthhlmalpelgpeaaGreatDoor
