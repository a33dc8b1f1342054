/-
  G05: ZI ZO, side by side.
-/
import Derived.Test.YthhlmalpelgpeaaGreatDoorG04

/-
  The reader of rules: what is inside a function's parentheses.
-/
namespace Go.Proofs.YthhlmalpelgpeaaGreatDoor
open Go.RowKit

/-! A block more that stays as it is. -/
def Cx.and (W : Cx) (g : Nat) (o : Obj) : Cx := ⟨W.w0, W.w, fun b => if b = g then some o else W.pr b⟩
section
variable {W : Cx} {w w' : World} {R S d m g : Nat} {l : List Nat} {ns : List Zq.Nd} {o : Obj}
theorem Rd0.fresh {k n d f : Int} {t s : ByteArray} {nv : Value} (h : Rd0 W R S k t n nv d f s ns w) : W.pr w.heap.size = none ∧ W.w.heap.size ≤ w.heap.size ∧ w.heap.size ≠ R ∧ w.heap.size ≠ S := by
  refine ⟨?_, h.fr.size, by have := h.lies.lt; omega, by have := h.text.lt; omega⟩
  cases e : W.pr w.heap.size with
  | none => rfl
  | some o =>
    have := (Array.getElem?_eq_some_iff.1 (h.keep _ _ e).1).1
    omega
theorem Rd0.protect {k n d f : Int} {t s : ByteArray} {nv : Value} (h : Rd0 W R S k t n nv d f s ns w) (o : Obj) : Rd0 (W.and w.heap.size o) R S k t n nv d f s ns (w.alloc o) := by
  have h1 := h.more (box_below w o)
  refine ⟨h1.held, h1.lies, h1.text, h1.ne, h1.ltR, h1.ltS, h1.fr, h1.own, h1.small, fun b o' e => ?_⟩
  by_cases hb : b = w.heap.size
  · subst hb
    have e : o' = o := by simp [Cx.and] at e; exact e.symm
    subst e
    refine ⟨heap_alloc_new w _, by have := h.lies.lt; omega, by have := h.text.lt; omega, fun e => ?_⟩
    have := (h.own.lt _ e).2
    omega
  · exact h1.keep b o' (by simpa [Cx.and, hb] using e)
theorem Rd0.unprotect {k n d f : Int} {t s : ByteArray} {nv : Value} (h : Rd0 (W.and g o) R S k t n nv d f s ns w) (hpr : W.pr g = none) (hW : W.w.heap.size ≤ g) (hg : w.grownBy w' (some g)) : Rd0 W R S k t n nv d f s ns w' := by
  obtain ⟨k1, k2, k3, k4⟩ := h.keep g o (by simp [Cx.and])
  have hR : R < W.w.heap.size := h.ltR
  have hS : S < W.w.heap.size := h.ltS
  refine ⟨?_, h.lies.grown hg (fun e => k2 (by injection e with e; exact e.symm)), h.text.grown hg (fun e => k3 (by injection e with e; exact e.symm)), h.ne, hR, hS, h.fr.grown hg (fun b e => .inr (.inr (by injection e with e; subst e; exact hW))), ?_, h.small, fun b o' e => ?_⟩
  · obtain ⟨h1, h2, h3, h4⟩ := h.held
    exact ⟨h1, h2.grown hg h2.size (fun b e => by injection e with e; omega), h3, h4⟩
  · refine ⟨h.own.1, ?_⟩
    rcases h.own.2 with hn | ⟨b, cap, cur, e1, e2, e3, e4⟩
    · exact .inl hn
    · exact .inr ⟨b, cap, cur, e1, e2, (hg.block b (Array.getElem?_eq_some_iff.1 e3).1 (fun e => k4 (by rw [e1]; simpa [Value.ownBlock] using e))).trans e3, e4⟩
  · have hb : b ≠ g := fun e' => by rw [e', hpr] at e; cases e
    obtain ⟨q1, q2, q3, q4⟩ := h.keep b o' (by simpa [Cx.and, hb] using e)
    exact ⟨(hg.block b (Array.getElem?_eq_some_iff.1 q1).1 (fun e => hb (by injection e))).trans q1, q2, q3, q4⟩
theorem Rok.protect (h : Rok W R S l d ns w) (o : Obj) : Rok (W.and w.heap.size o) R S l d ns (w.alloc o) := by
  obtain ⟨k, t, n, nv, s, h1, h2, h3, h4⟩ := h
  exact ⟨k, t, n, nv, s, h1, h2, h3, h4.protect o⟩
theorem Rf.protect (h : Rf W R S m w) (o : Obj) : Rf (W.and w.heap.size o) R S m (w.alloc o) := by
  obtain ⟨k, t, n, nv, d, f, s, ns, h1, h2, h3⟩ := h
  exact ⟨k, t, n, nv, d, f, s, ns, h1, h2, h3.protect o⟩
theorem Rok.fresh (h : Rok W R S l d ns w) : W.pr w.heap.size = none ∧ W.w.heap.size ≤ w.heap.size ∧ w.heap.size ≠ R ∧ w.heap.size ≠ S := by
  obtain ⟨k, t, n, nv, s, h1, h2, h3, h4⟩ := h
  exact h4.fresh
theorem Rf.fresh (h : Rf W R S m w) : W.pr w.heap.size = none ∧ W.w.heap.size ≤ w.heap.size ∧ w.heap.size ≠ R ∧ w.heap.size ≠ S := by
  obtain ⟨k, t, n, nv, d, f, s, ns, h1, h2, h3⟩ := h
  exact h3.fresh
theorem Rok.unprotect (h : Rok (W.and g o) R S l d ns w) (hpr : W.pr g = none) (hW : W.w.heap.size ≤ g) (hg : w.grownBy w' (some g)) : Rok W R S l d ns w' := by
  obtain ⟨k, t, n, nv, s, h1, h2, h3, h4⟩ := h
  exact ⟨k, t, n, nv, s, h1, h2, h3, h4.unprotect hpr hW hg⟩
theorem Rf.unprotect (h : Rf (W.and g o) R S m w) (hpr : W.pr g = none) (hW : W.w.heap.size ≤ g) (hg : w.grownBy w' (some g)) : Rf W R S m w' := by
  obtain ⟨k, t, n, nv, d, f, s, ns, h1, h2, h3⟩ := h
  exact ⟨k, t, n, nv, d, f, s, ns, h1, h2, h3.unprotect hpr hW hg⟩
theorem Rok.kept (h : Rok (W.and g o) R S l d ns w) : w.heap[g]? = some o := by
  obtain ⟨k, t, n, nv, s, h1, h2, h3, h4⟩ := h
  exact (h4.keep g o (by simp [Cx.and])).1
theorem Rf.kept (h : Rf (W.and g o) R S m w) : w.heap[g]? = some o := by
  obtain ⟨k, t, n, nv, d, f, s, ns, h1, h2, h3⟩ := h
  exact (h3.keep g o (by simp [Cx.and])).1
end

/-! Plain. -/
def argsP (f : Zq.PS) (k : Nat) (s : Zq.St) : Except Nat (Zq.Nd × Zq.St) :=
  if k = 26 then
    match claimP s.1 with
    | none => .error 111
    | some (t, q) => .ok (⟨4, 0, 0, 0, t⟩, (q, s.2))
  else
    match f s with
    | .error e => .error e
    | .ok (a, s2) =>
      if k = 27 then
        match Zq.past [44] s2.1 with
        | .error e => .error e
        | .ok l3 =>
          match f (l3, s2.2) with
          | .error e => .error e
          | .ok (b, s4) => .ok (⟨17, 0, a, b, []⟩, s4)
      else .ok (⟨oneOp k, 0, a, 0, []⟩, s2)
def fnP (inner : Option Zq.PS) (k : Nat) (s : Zq.St) : Except Nat (Int × Zq.St) :=
  match Zq.past [40] s.1 with
  | .error e => .error e
  | .ok l1 =>
    match inner with
    | none => .error 113
    | some f =>
      match argsP f k (l1, s.2) with
      | .error e => .error e
      | .ok (nd, s4) =>
        match Zq.past [41] s4.1 with
        | .error e => .error e
        | .ok l5 => Zq.add nd (l5, s4.2)
theorem claim_past {α : Type} (l : List Nat) (F : List Nat → List Nat → Except Nat α) :
    (match Zq.past [36] l with
      | .error e => (Except.error e : Except Nat α)
      | .ok l2 => match Zq.nameP l2 with
        | .error e => (Except.error e : Except Nat α)
        | .ok (t, l3) => F t l3) = (match claimP l with
      | none => Except.error 111
      | some (t, l3) => F t l3) := by
  unfold claimP
  cases hn : Zq.next l with
  | none => rw [Zq.past_none hn]
  | some y =>
    obtain ⟨x, q⟩ := y
    rw [Zq.past_some (n := 5) (by decide) hn]
    simp only
    by_cases hk : Zq.kOf x = 5
    · rw [if_pos hk, if_pos hk]
      simp only
      unfold Zq.nameP
      cases hq : Zq.next q with
      | none => rfl
      | some z =>
        obtain ⟨y, q2⟩ := z
        cases y <;> rfl
    · rw [if_neg hk, if_neg hk]
theorem call_fn (inner : Option Zq.PS) {op : Int} {k : Nat} (h : (op = 4 ∧ k = 26) ∨ (op = 17 ∧ k = 27) ∨ (op = oneOp k ∧ k ≠ 26 ∧ k ≠ 27)) (s : Zq.St) : Zq.call inner op s = fnP inner k s := by
  have h3 : oneOp k ≠ 4 ∧ oneOp k ≠ 17 := by
    unfold oneOp
    split
    · decide
    split
    · decide
    split <;> decide
  unfold Zq.call fnP
  cases Zq.past [40] s.1 with
  | error e => rfl
  | ok l1 =>
    cases inner with
    | none => rfl
    | some f =>
      simp only
      rcases h with ⟨rfl, rfl⟩ | ⟨rfl, rfl⟩ | ⟨rfl, h1, h2⟩
      · rw [if_pos rfl, argsP, if_pos rfl]
        refine (claim_past l1 (fun t l3 => match Zq.past [41] l3 with
          | .error e => .error e
          | .ok l4 => Zq.add ⟨4, 0, 0, 0, t⟩ (l4, s.2))).trans ?_
        simp only
        cases claimP l1 with
        | none => rfl
        | some x => obtain ⟨t, q⟩ := x; rfl
      · rw [if_neg (by decide), argsP, if_neg (by decide)]
        cases f (l1, s.2) with
        | error e => rfl
        | ok x =>
          obtain ⟨a, s2⟩ := x
          simp only [if_true]
          cases Zq.past [44] s2.1 with
          | error e => rfl
          | ok l3 =>
            simp only
            cases f (l3, s2.2) with
            | error e => rfl
            | ok y => obtain ⟨b, s4⟩ := y; rfl
      · rw [if_neg h3.1, argsP, if_neg h1]
        cases f (l1, s.2) with
        | error e => rfl
        | ok x =>
          obtain ⟨a, s2⟩ := x
          simp only [if_neg h2, if_neg h3.2]
          rfl

/-! What is inside the parentheses. -/
abbrev zeroN : List Value := [.int .i64 0, .int .i64 0, .int .i64 0, .int .i64 0, .string { data := #[] }]
abbrev putN (w : World) (g : Nat) (a b c d : Int) (t : ByteArray) : World := ((((w.setCell ⟨g, 0, none⟩ (.int .i64 a)).setCell ⟨g, 1, none⟩ (.int .i64 b)).setCell ⟨g, 2, none⟩ (.int .i64 c)).setCell ⟨g, 3, none⟩ (.int .i64 d)).setCell ⟨g, 4, none⟩ (.string t)
theorem putN_gb (w : World) (g : Nat) (a b c d : Int) (t : ByteArray) : w.grownBy (putN w g a b c d t) (some g) :=
  gbz_trans (gbz_trans (gbz_trans (gbz_trans (gbz_set _ _ _ _) (gbz_set _ _ _ _)) (gbz_set _ _ _ _)) (gbz_set _ _ _ _)) (gbz_set _ _ _ _)
theorem Lies.putN {w : World} {g : Nat} {ty : TypeId} {x0 x1 x2 x3 x4 : Value} (h : Lies w g ty [x0, x1, x2, x3, x4]) (a b c d : Int) (t : ByteArray) : Lies (Go.Proofs.YthhlmalpelgpeaaGreatDoor.putN w g a b c d t) g ty [.int .i64 a, .int .i64 b, .int .i64 c, .int .i64 d, .string t] := by
  have := ((((h.put 0 (.int .i64 a)).put 1 (.int .i64 b)).put 2 (.int .i64 c)).put 3 (.int .i64 d)).put 4 (.string t)
  exact this
theorem Lies.five {w : World} {g : Nat} {ty : TypeId} {a b c d e : Value} (h : Lies w g ty [a, b, c, d, e]) : (w.cell? ⟨g, 0, none⟩ = some a ∧ w.cell? ⟨g, 1, none⟩ = some b ∧ w.cell? ⟨g, 2, none⟩ = some c ∧ w.cell? ⟨g, 3, none⟩ = some d ∧ w.cell? ⟨g, 4, none⟩ = some e) ∧
    (w.frozen? ⟨g, 0, none⟩ = false ∧ w.frozen? ⟨g, 1, none⟩ = false ∧ w.frozen? ⟨g, 2, none⟩ = false ∧ w.frozen? ⟨g, 3, none⟩ = false ∧ w.frozen? ⟨g, 4, none⟩ = false) :=
  ⟨⟨h.cell 0, h.cell 1, h.cell 2, h.cell 3, h.cell 4⟩, h.free 0, h.free 1, h.free 2, h.free 3, h.free 4⟩
/-- How arguments ends. -/
def ArgEnd (W : Cx) (R S d mb n0 : Nat) (res : Except Nat (Zq.Nd × Zq.St)) (e : Ending) (w' : World) : Prop :=
  (∃ nd l' ns', res = .ok (nd, (l', ns')) ∧ e = .returned (ndv nd) ∧ Rok W R S l' d ns' w' ∧ n0 ≤ ns'.length) ∨ (∃ er, res = .error er ∧ (∃ nd, e = .returned (ndv nd)) ∧ Rf W R S mb w')
section
variable {W : Cx} {w : World} {R S d m : Nat} {l : List Nat} {ns : List Zq.Nd}
abbrev zobj : Obj := .cells zeroN.toArray 37 (0, 0)
set_option maxHeartbeats 4000000 in
set_option maxRecDepth 100000 in
theorem arguments_any (hAdv : AdvOk) (kx : Nat) (hd : d ≤ 16) (hor : LevOk 6 82 d) (h : Rok W R S l (16 - d) ns w) :
    Calls Tryz.prog 143 #[rp R, .int .i64 (kx : Int)] w (ArgEnd W R S (16 - d) (50 + 8 * d + 6) ns.length (argsP (Zq.row d 6) kx (l, ns))) := by
  obtain ⟨p1, p2, p3, p4⟩ := h.fresh
  have h1 := h.protect zobj
  obtain ⟨W1, eW1⟩ : ∃ W1, W1 = w.alloc zobj := ⟨_, rfl⟩
  rw [← eW1] at h1
  obtain ⟨res, eres⟩ : ∃ res, argsP (Zq.row d 6) kx (l, ns) = res := ⟨_, rfl⟩
  rw [eres]
  have HRES := Lib.hid eres
  have H48 : Hid (ns.length ≤ 48) := h.le.2
  have HD := Lib.hid hd
  have HA := Lib.hid hAdv
  have HP : Hid (W.pr w.heap.size = none ∧ W.w.heap.size ≤ w.heap.size) := ⟨p1, p2⟩
  by_cases h26 : kx = 26
  · subst h26
    have hC := claim_any hAdv h1
    rw [eW1] at hC
    clear h h1 eres hAdv hor hd eW1 p1 p2 p3 p4
    go_enter Tryz.func143, Tryz.ntmps143
    go_wp2_with fail
    refine hC.mono ?_
    rintro e w2 ⟨_, ⟨t, q, hc, rfl, h2⟩ | ⟨hc, ⟨s, rfl⟩, h2⟩⟩
    · have hl2 : Lies w2 w.heap.size 37 zeroN := h2.kept
      obtain ⟨⟨z0, z1, z2, z3, z4⟩, f0, f1, f2, f3, f4⟩ := hl2.five
      have HE : Hid (ArgEnd W R S (16 - d) (50 + 8 * d + 6) ns.length res (.returned (ndv ⟨4, 0, 0, 0, t⟩)) (putN w2 w.heap.size 4 0 0 0 (strOf t))) :=
        .inl ⟨_, q, ns, by rw [← HRES.out, argsP, if_pos rfl, hc], rfl, h2.unprotect HP.out.1 HP.out.2 (putN_gb _ _ _ _ _ _ _), Nat.le_refl _⟩
      obtain ⟨⟨q0, q1, q2, q3, q4⟩, _⟩ := (hl2.putN 4 0 0 0 (strOf t)).five
      clear hC h2 hc hl2
      go_wp2
      exact bodyPost_ret (v := ndv ⟨4, 0, 0, 0, t⟩) (by simp [results, Tryz.results143, go_sem, q0, q1, q2, q3, q4]) rfl HE.out
    · have hl2 : Lies w2 w.heap.size 37 zeroN := h2.kept
      obtain ⟨⟨z0, z1, z2, z3, z4⟩, f0, f1, f2, f3, f4⟩ := hl2.five
      have HE : Hid (ArgEnd W R S (16 - d) (50 + 8 * d + 6) ns.length res (.returned (.agg #[.int .i64 4, .int .i64 0, .int .i64 0, .int .i64 0, .string s])) (putN w2 w.heap.size 4 0 0 0 s)) :=
        .inr ⟨111, by rw [← HRES.out, argsP, if_pos rfl, hc], ⟨⟨4, 0, 0, 0, numsOf s⟩, by rw [ndv, strOf_numsOf]⟩, (h2.unprotect HP.out.1 HP.out.2 (putN_gb _ _ _ _ _ _ _)).le (by have := H48.out; omega)⟩
      obtain ⟨⟨q0, q1, q2, q3, q4⟩, _⟩ := (hl2.putN 4 0 0 0 s).five
      clear hC h2 hc hl2
      go_wp2
      exact bodyPost_ret (v := .agg #[.int .i64 4, .int .i64 0, .int .i64 0, .int .i64 0, .string s]) (by simp [results, Tryz.results143, go_sem, q0, q1, q2, q3, q4]) rfl HE.out
  have hb26 : ((kx : Int) == 26) = false := ne_int (by omega)
  have hC := hor _ R S l ns W1 h1
  rw [eW1] at hC
  have HOR := Lib.hid (hor (W.and w.heap.size zobj) R S)
  by_cases h27 : kx = 27
  · subst h27
    have HRES1 : Hid (res = match Zq.row d 6 (l, ns) with
      | .error e => .error e
      | .ok (a, s2) => match Zq.past [44] s2.1 with
        | .error e => .error e
        | .ok l3 => match Zq.row d 6 (l3, s2.2) with
          | .error e => .error e
          | .ok (b, s4) => .ok (⟨17, 0, a, b, []⟩, s4)) := by
      unfold Hid
      rw [← eres, argsP, if_neg h26]
      rcases Zq.row d 6 (l, ns) with er | ⟨a, s2⟩
      · rfl
      · simp only [if_true]
    clear h h1 eres hAdv hor hd eW1 p1 p2 p3 p4 h26
    go_enter Tryz.func143, Tryz.ntmps143
    go_wp2_with fail
    refine hC.mono ?_
    intro e w3 hh
    clear hC
    rcases hh with ⟨a, l2, ns2, hres, rfl, h2, hle, _⟩ | ⟨er, hres, ⟨a, rfl⟩, h2⟩
    · have hM := must_any HA.out 8 (by decide) h2
      have HRES2 : Hid (res = match Zq.past [44] l2 with
        | .error e => .error e
        | .ok l3 => match Zq.row d 6 (l3, ns2) with
          | .error e => .error e
          | .ok (b, s4) => .ok (⟨17, 0, a, b, []⟩, s4)) := by unfold Hid; rw [HRES1.out, hres]
      have HLE : Hid (ns.length ≤ ns2.length ∧ ns2.length ≤ 48) := ⟨hle, h2.le.2⟩
      clear h2 hres hle
      go_wp2_with fail
      refine hM.mono ?_
      rintro e w4 ⟨rfl, _, ⟨q, ⟨x, hx, hk⟩, h2⟩ | ⟨hq, h2⟩⟩
      · have hC := HOR.out q ns2 w4 h2
        have HRES3 : Hid (res = match Zq.row d 6 (q, ns2) with
          | .error e => .error e
          | .ok (b, s4) => .ok (⟨17, 0, a, b, []⟩, s4)) := by
          unfold Hid
          rw [HRES2.out, Zq.past_some (n := 8) (by decide) hx, if_pos hk]
        clear hM h2 hx hk
        go_wp2_with fail
        refine hC.mono ?_
        intro e w5 hh
        clear hC
        rcases hh with ⟨b, l4, ns4, hres, rfl, h2, hle, _⟩ | ⟨er, hres, ⟨b, rfl⟩, h2⟩
        · have hle2 : ns.length ≤ ns4.length := Nat.le_trans HLE.out.1 hle
          have hl2 : Lies w5 w.heap.size 37 zeroN := h2.kept
          obtain ⟨⟨z0, z1, z2, z3, z4⟩, f0, f1, f2, f3, f4⟩ := hl2.five
          have HE : Hid (ArgEnd W R S (16 - d) (50 + 8 * d + 6) ns.length res (.returned (.agg #[.int .i64 17, .int .i64 0, .int .i64 a, .int .i64 b, .string { data := #[] }])) (putN w5 w.heap.size 17 0 a b { data := #[] })) :=
            .inl ⟨⟨17, 0, a, b, []⟩, l4, ns4, by rw [HRES3.out, hres], rfl, h2.unprotect HP.out.1 HP.out.2 (putN_gb _ _ _ _ _ _ _), hle2⟩
          obtain ⟨⟨q0, q1, q2, q3, q4⟩, _⟩ := (hl2.putN 17 0 a b { data := #[] }).five
          clear h2 hl2 hres hle hle2
          go_wp2
          exact bodyPost_ret (v := .agg #[.int .i64 17, .int .i64 0, .int .i64 a, .int .i64 b, .string { data := #[] }]) (by simp [results, Tryz.results143, go_sem, q0, q1, q2, q3, q4]) rfl HE.out
        · have hl2 : Lies w5 w.heap.size 37 zeroN := h2.kept
          obtain ⟨⟨z0, z1, z2, z3, z4⟩, f0, f1, f2, f3, f4⟩ := hl2.five
          have HE : Hid (ArgEnd W R S (16 - d) (50 + 8 * d + 6) ns.length res (.returned (.agg #[.int .i64 17, .int .i64 0, .int .i64 a, .int .i64 b, .string { data := #[] }])) (putN w5 w.heap.size 17 0 a b { data := #[] })) :=
            .inr ⟨er, by rw [HRES3.out, hres], ⟨⟨17, 0, a, b, []⟩, rfl⟩, h2.unprotect HP.out.1 HP.out.2 (putN_gb _ _ _ _ _ _ _)⟩
          obtain ⟨⟨q0, q1, q2, q3, q4⟩, _⟩ := (hl2.putN 17 0 a b { data := #[] }).five
          clear h2 hl2 hres
          go_wp2
          exact bodyPost_ret (v := .agg #[.int .i64 17, .int .i64 0, .int .i64 a, .int .i64 b, .string { data := #[] }]) (by simp [results, Tryz.results143, go_sem, q0, q1, q2, q3, q4]) rfl HE.out
      · have hC := or_rf h2
        have HERR : Hid (res = .error 111) := by
          unfold Hid
          rw [HRES2.out]
          cases hn : Zq.next l2 with
          | none => rw [Zq.past_none hn]
          | some y =>
            obtain ⟨x, q⟩ := y
            rw [Zq.past_some (n := 8) (by decide) hn, if_neg (fun e => hq q ⟨x, hn, e⟩)]
        clear hM h2 hq
        go_wp2_with fail
        refine hC.mono ?_
        rintro e w5 ⟨⟨b, rfl⟩, h2⟩
        clear hC
        have hl2 : Lies w5 w.heap.size 37 zeroN := h2.kept
        obtain ⟨⟨z0, z1, z2, z3, z4⟩, f0, f1, f2, f3, f4⟩ := hl2.five
        have HE : Hid (ArgEnd W R S (16 - d) (50 + 8 * d + 6) ns.length res (.returned (.agg #[.int .i64 17, .int .i64 0, .int .i64 a, .int .i64 b, .string { data := #[] }])) (putN w5 w.heap.size 17 0 a b { data := #[] })) :=
          .inr ⟨111, HERR.out, ⟨⟨17, 0, a, b, []⟩, rfl⟩, (h2.unprotect HP.out.1 HP.out.2 (putN_gb _ _ _ _ _ _ _)).le (by have := HLE.out; omega)⟩
        obtain ⟨⟨q0, q1, q2, q3, q4⟩, _⟩ := (hl2.putN 17 0 a b { data := #[] }).five
        clear h2 hl2
        go_wp2
        exact bodyPost_ret (v := .agg #[.int .i64 17, .int .i64 0, .int .i64 a, .int .i64 b, .string { data := #[] }]) (by simp [results, Tryz.results143, go_sem, q0, q1, q2, q3, q4]) rfl HE.out
    · have hM := must_rf 8 (by decide) h2
      have HERR : Hid (res = .error er) := by unfold Hid; rw [HRES1.out, hres]
      clear h2 hres
      go_wp2_with fail
      refine hM.mono ?_
      rintro e w4 ⟨rfl, h2, _⟩
      have hC := or_rf h2
      clear hM h2
      go_wp2_with fail
      refine hC.mono ?_
      rintro e w5 ⟨⟨b, rfl⟩, h2⟩
      clear hC
      have hl2 : Lies w5 w.heap.size 37 zeroN := h2.kept
      obtain ⟨⟨z0, z1, z2, z3, z4⟩, f0, f1, f2, f3, f4⟩ := hl2.five
      have HE : Hid (ArgEnd W R S (16 - d) (50 + 8 * d + 6) ns.length res (.returned (.agg #[.int .i64 17, .int .i64 0, .int .i64 a, .int .i64 b, .string { data := #[] }])) (putN w5 w.heap.size 17 0 a b { data := #[] })) :=
        .inr ⟨er, HERR.out, ⟨⟨17, 0, a, b, []⟩, rfl⟩, h2.unprotect HP.out.1 HP.out.2 (putN_gb _ _ _ _ _ _ _)⟩
      obtain ⟨⟨q0, q1, q2, q3, q4⟩, _⟩ := (hl2.putN 17 0 a b { data := #[] }).five
      clear h2 hl2
      go_wp2
      exact bodyPost_ret (v := .agg #[.int .i64 17, .int .i64 0, .int .i64 a, .int .i64 b, .string { data := #[] }]) (by simp [results, Tryz.results143, go_sem, q0, q1, q2, q3, q4]) rfl HE.out
  have hb27 : ((kx : Int) == 27) = false := ne_int (by omega)
  have hone := takesOne_any kx
  have HRES1 : Hid (res = match Zq.row d 6 (l, ns) with
    | .error e => .error e
    | .ok (a, s2) => .ok (⟨oneOp kx, 0, a, 0, []⟩, s2)) := by
    unfold Hid
    rw [← eres, argsP, if_neg h26]
    rcases Zq.row d 6 (l, ns) with er | ⟨a, s2⟩
    · rfl
    · simp only [if_neg h27]
  clear h h1 eres hAdv hor hd eW1 p1 p2 p3 p4 h26 h27
  obtain ⟨o, eo⟩ : ∃ o, oneOp kx = o := ⟨_, rfl⟩
  rw [eo] at hone HRES1
  clear eo
  go_enter Tryz.func143, Tryz.ntmps143
  go_wp2_with fail
  refine (hone _).mono ?_
  rintro e w2 ⟨rfl, rfl⟩
  clear hone
  go_wp2_with fail
  refine hC.mono ?_
  intro e w3 hh
  clear hC
  rcases hh with ⟨a, l2, ns2, hres, rfl, h2, hle, _⟩ | ⟨er, hres, ⟨a, rfl⟩, h2⟩
  · have hl2 : Lies w3 w.heap.size 37 zeroN := h2.kept
    obtain ⟨⟨z0, z1, z2, z3, z4⟩, f0, f1, f2, f3, f4⟩ := hl2.five
    have HE : Hid (ArgEnd W R S (16 - d) (50 + 8 * d + 6) ns.length res (.returned (.agg #[.int .i64 o, .int .i64 0, .int .i64 a, .int .i64 0, .string { data := #[] }])) (putN w3 w.heap.size o 0 a 0 { data := #[] })) :=
      .inl ⟨⟨o, 0, a, 0, []⟩, l2, ns2, by rw [HRES1.out, hres], rfl, h2.unprotect HP.out.1 HP.out.2 (putN_gb _ _ _ _ _ _ _), hle⟩
    obtain ⟨⟨q0, q1, q2, q3, q4⟩, _⟩ := (hl2.putN o 0 a 0 { data := #[] }).five
    clear h2 hres hl2 hle
    go_wp2
    exact bodyPost_ret (v := .agg #[.int .i64 o, .int .i64 0, .int .i64 a, .int .i64 0, .string { data := #[] }]) (by simp [results, Tryz.results143, go_sem, q0, q1, q2, q3, q4]) rfl HE.out
  · have hl2 : Lies w3 w.heap.size 37 zeroN := h2.kept
    obtain ⟨⟨z0, z1, z2, z3, z4⟩, f0, f1, f2, f3, f4⟩ := hl2.five
    have HE : Hid (ArgEnd W R S (16 - d) (50 + 8 * d + 6) ns.length res (.returned (.agg #[.int .i64 o, .int .i64 0, .int .i64 a, .int .i64 0, .string { data := #[] }])) (putN w3 w.heap.size o 0 a 0 { data := #[] })) :=
      .inr ⟨er, by rw [HRES1.out, hres], ⟨⟨o, 0, a, 0, []⟩, rfl⟩, h2.unprotect HP.out.1 HP.out.2 (putN_gb _ _ _ _ _ _ _)⟩
    obtain ⟨⟨q0, q1, q2, q3, q4⟩, _⟩ := (hl2.putN o 0 a 0 { data := #[] }).five
    clear h2 hres hl2
    go_wp2
    exact bodyPost_ret (v := .agg #[.int .i64 o, .int .i64 0, .int .i64 a, .int .i64 0, .string { data := #[] }]) (by simp [results, Tryz.results143, go_sem, q0, q1, q2, q3, q4]) rfl HE.out
def ArgFEnd (W : Cx) (R S m : Nat) (e : Ending) (w' : World) : Prop := (∃ nd, e = .returned (ndv nd)) ∧ Rf W R S m w'
set_option maxHeartbeats 1000000 in
set_option maxRecDepth 100000 in
theorem claim_rf (h : Rf W R S m w) : Calls Tryz.prog 141 #[rp R] w fun e w' => (∃ s, e = .returned (.string s)) ∧ Rf W R S m w' := by
  have hM := must_rf 5 (by decide) h
  have hI := isWord_any
  have hfld := tok_field1
  clear h
  go_enter Tryz.func141, Tryz.ntmps141
  go_wp2_with fail
  refine hM.mono ?_
  rintro e w1 ⟨rfl, h1, _⟩
  have hN := next_rf h1
  have hI2 := hI 1 w1
  have hF := fail_rf (c := 111) h1
  clear hM hI h1
  rw [show decide ((14 : Int) ≤ 1) = false from rfl] at hI2
  go_wp2_with fail
  refine hN.mono ?_
  rintro e w2 ⟨rfl, rfl⟩
  clear hN
  go_wp2_with fail
  refine hI2.mono ?_
  rintro e w3 ⟨rfl, rfl⟩
  clear hI2
  go_wp2_with fail
  refine hF.mono ?_
  rintro e w3 ⟨rfl, h3, _⟩
  have hT := take_rf h3
  clear hF h3
  go_wp2_with fail
  refine hT.mono ?_
  rintro e w4 ⟨k4, t4, n4, rfl, h4, _⟩
  have HE := Lib.hid h4
  clear hT h4
  go_wp2
  go_ret
  exact ⟨⟨_, rfl⟩, HE.out⟩
set_option maxHeartbeats 4000000 in
set_option maxRecDepth 100000 in
theorem arguments_rf (kx : Nat) (h : Rf W R S m w) :
    Calls Tryz.prog 143 #[rp R, .int .i64 (kx : Int)] w (ArgFEnd W R S m) := by
  obtain ⟨p1, p2, p3, p4⟩ := h.fresh
  have h1 := h.protect zobj
  have HP : Hid (W.pr w.heap.size = none ∧ W.w.heap.size ≤ w.heap.size) := ⟨p1, p2⟩
  by_cases h26 : kx = 26
  · subst h26
    have hC := claim_rf h1
    clear h h1 p1 p2 p3 p4
    go_enter Tryz.func143, Tryz.ntmps143
    go_wp2_with fail
    refine hC.mono ?_
    rintro e w2 ⟨⟨s, rfl⟩, h2⟩
    clear hC
    have hl2 : Lies w2 w.heap.size 37 zeroN := h2.kept
    obtain ⟨⟨z0, z1, z2, z3, z4⟩, f0, f1, f2, f3, f4⟩ := hl2.five
    have HE : Hid (ArgFEnd W R S m (.returned (.agg #[.int .i64 4, .int .i64 0, .int .i64 0, .int .i64 0, .string s])) (putN w2 w.heap.size 4 0 0 0 s)) :=
      ⟨⟨⟨4, 0, 0, 0, numsOf s⟩, by rw [ndv, strOf_numsOf]⟩, h2.unprotect HP.out.1 HP.out.2 (putN_gb _ _ _ _ _ _ _)⟩
    obtain ⟨⟨q0, q1, q2, q3, q4⟩, _⟩ := (hl2.putN 4 0 0 0 s).five
    clear h2 hl2
    go_wp2
    exact bodyPost_ret (v := .agg #[.int .i64 4, .int .i64 0, .int .i64 0, .int .i64 0, .string s]) (by simp [results, Tryz.results143, go_sem, q0, q1, q2, q3, q4]) rfl HE.out
  have hb26 : ((kx : Int) == 26) = false := ne_int (by omega)
  have hC := or_rf h1
  by_cases h27 : kx = 27
  · subst h27
    clear h h1 p1 p2 p3 p4 h26
    go_enter Tryz.func143, Tryz.ntmps143
    go_wp2_with fail
    refine hC.mono ?_
    rintro e w3 ⟨⟨a, rfl⟩, h2⟩
    have hM := must_rf 8 (by decide) h2
    clear hC h2
    go_wp2_with fail
    refine hM.mono ?_
    rintro e w4 ⟨rfl, h2, _⟩
    have hC := or_rf h2
    clear hM h2
    go_wp2_with fail
    refine hC.mono ?_
    rintro e w5 ⟨⟨b, rfl⟩, h2⟩
    clear hC
    have hl2 : Lies w5 w.heap.size 37 zeroN := h2.kept
    obtain ⟨⟨z0, z1, z2, z3, z4⟩, f0, f1, f2, f3, f4⟩ := hl2.five
    have HE : Hid (ArgFEnd W R S m (.returned (.agg #[.int .i64 17, .int .i64 0, .int .i64 a, .int .i64 b, .string { data := #[] }])) (putN w5 w.heap.size 17 0 a b { data := #[] })) :=
      ⟨⟨⟨17, 0, a, b, numsOf { data := #[] }⟩, by rw [ndv, strOf_numsOf]⟩, h2.unprotect HP.out.1 HP.out.2 (putN_gb _ _ _ _ _ _ _)⟩
    obtain ⟨⟨q0, q1, q2, q3, q4⟩, _⟩ := (hl2.putN 17 0 a b { data := #[] }).five
    clear h2 hl2
    go_wp2
    exact bodyPost_ret (v := .agg #[.int .i64 17, .int .i64 0, .int .i64 a, .int .i64 b, .string { data := #[] }]) (by simp [results, Tryz.results143, go_sem, q0, q1, q2, q3, q4]) rfl HE.out
  have hb27 : ((kx : Int) == 27) = false := ne_int (by omega)
  have hone := takesOne_any kx
  clear h h1 p1 p2 p3 p4 h26 h27
  obtain ⟨o, eo⟩ : ∃ o, oneOp kx = o := ⟨_, rfl⟩
  rw [eo] at hone
  clear eo
  go_enter Tryz.func143, Tryz.ntmps143
  go_wp2_with fail
  refine (hone _).mono ?_
  rintro e w2 ⟨rfl, rfl⟩
  clear hone
  go_wp2_with fail
  refine hC.mono ?_
  rintro e w3 ⟨⟨a, rfl⟩, h2⟩
  clear hC
  have hl2 : Lies w3 w.heap.size 37 zeroN := h2.kept
  obtain ⟨⟨z0, z1, z2, z3, z4⟩, f0, f1, f2, f3, f4⟩ := hl2.five
  have HE : Hid (ArgFEnd W R S m (.returned (.agg #[.int .i64 o, .int .i64 0, .int .i64 a, .int .i64 0, .string { data := #[] }])) (putN w3 w.heap.size o 0 a 0 { data := #[] })) :=
    ⟨⟨⟨o, 0, a, 0, numsOf { data := #[] }⟩, by rw [ndv, strOf_numsOf]⟩, h2.unprotect HP.out.1 HP.out.2 (putN_gb _ _ _ _ _ _ _)⟩
  obtain ⟨⟨q0, q1, q2, q3, q4⟩, _⟩ := (hl2.putN o 0 a 0 { data := #[] }).five
  clear h2 hl2
  go_wp2
  exact bodyPost_ret (v := .agg #[.int .i64 o, .int .i64 0, .int .i64 a, .int .i64 0, .string { data := #[] }]) (by simp [results, Tryz.results143, go_sem, q0, q1, q2, q3, q4]) rfl HE.out
end
end Go.Proofs.YthhlmalpelgpeaaGreatDoor

/-
  The reader of rules: atoms; all levels at all depths.
-/
namespace Go.Proofs.YthhlmalpelgpeaaGreatDoor
open Go.RowKit

/-! Atoms, plain. -/
theorem row_atom (d : Nat) (s : Zq.St) : Zq.row d 0 s = Zq.atom (inOf d 6) s := by
  cases d with
  | zero => rfl
  | succ d => rfl
theorem atom_none {inner : Option Zq.PS} {l : List Nat} {ns : List Zq.Nd} (h : Zq.next l = none) : Zq.atom inner (l, ns) = .error 111 := by
  unfold Zq.atom; simp only [h]
section
variable {inner : Option Zq.PS} {l q : List Nat} {ns : List Zq.Nd} {x : Zq.Tok}
theorem atom_text (h : Zq.next l = some (x, q)) (hk : Zq.kOf x = 3) : Zq.atom inner (l, ns) = Zq.add ⟨1, 0, 0, 0, Zq.kText x⟩ (q, ns) := by
  rcases Zq.next_form h with rfl | ⟨t, rfl⟩ | ⟨n, rfl, _⟩ | ⟨t, rfl, rfl | ⟨c, hc, rfl⟩⟩ | ⟨c, r, rfl, hc, _⟩
  · exact absurd hk (by decide)
  · unfold Zq.atom; simp only [h]; rfl
  · exact absurd hk (by rw [Zq.kOf_num]; decide)
  · exact absurd hk (by decide)
  · exact absurd hk (by
      have : ∀ c ∈ Zq.signs, Zq.kOf (.sign [c]) ≠ 3 := by decide
      exact this c hc)
  · have := Zq.kOf_word (r := r) hc; omega
theorem atom_num (h : Zq.next l = some (x, q)) (hk : Zq.kOf x = 4) : Zq.atom inner (l, ns) = Zq.add ⟨2, (Zq.kNum x : Nat), 0, 0, []⟩ (q, ns) := by
  rcases Zq.next_form h with rfl | ⟨t, rfl⟩ | ⟨n, rfl, _⟩ | ⟨t, rfl, rfl | ⟨c, hc, rfl⟩⟩ | ⟨c, r, rfl, hc, _⟩
  · exact absurd hk (by decide)
  · exact absurd hk (by rw [Zq.kOf_text]; decide)
  · unfold Zq.atom; simp only [h]; rfl
  · exact absurd hk (by decide)
  · exact absurd hk (by
      have : ∀ c ∈ Zq.signs, Zq.kOf (.sign [c]) ≠ 4 := by decide
      exact this c hc)
  · have := Zq.kOf_word (r := r) hc; omega
/-- A sign of one byte is its kind's. -/
theorem sign_of (h : Zq.next l = some (x, q)) {s : List Nat} {n : Nat} (hs : (s, n) ∈ Zq.kinds) (hn : n < 14) (hk : Zq.kOf x = n) : x = .sign s := by
  have hT := (Zq.isTok_iff hs).2 hk
  unfold Zq.isTok at hT
  rw [Bool.or_eq_true, decide_eq_true_iff, decide_eq_true_iff] at hT
  rcases hT with rfl | rfl
  · have := (Zq.kOf_nonword h).2 ⟨_, rfl⟩
    omega
  · rfl
theorem word_of (h : Zq.next l = some (x, q)) {s : List Nat} {n : Nat} (hs : (s, n) ∈ Zq.kinds) (hn : 14 ≤ n) (hk : Zq.kOf x = n) : x = .name s := by
  have hT := (Zq.isTok_iff hs).2 hk
  unfold Zq.isTok at hT
  rw [Bool.or_eq_true, decide_eq_true_iff, decide_eq_true_iff] at hT
  rcases hT with rfl | rfl
  · rfl
  · obtain ⟨t, ht⟩ := (Zq.kOf_nonword h).1 (by omega)
    cases ht
theorem atom_claim (h : Zq.next l = some (x, q)) (hk : Zq.kOf x = 5) : Zq.atom inner (l, ns) = match claimP l with
    | none => .error 111
    | some (t, q2) => Zq.add ⟨3, 0, 0, 0, t⟩ (q2, ns) := by
  obtain rfl := sign_of h (s := [36]) (n := 5) (by decide) (by decide) hk
  unfold Zq.atom
  simp only [h, if_true]
  rw [claimP_on ⟨_, h, rfl⟩]
  unfold Zq.nameP
  cases hq : Zq.next q with
  | none => rfl
  | some y =>
    obtain ⟨y, q2⟩ := y
    cases y <;> rfl
theorem atom_open (h : Zq.next l = some (x, q)) (hk : Zq.kOf x = 6) : Zq.atom inner (l, ns) = match inner with
    | none => .error 113
    | some f => match f (q, ns) with
      | .error e => .error e
      | .ok (n, s2) => match Zq.past [41] s2.1 with
        | .error e => .error e
        | .ok l3 => .ok (n, (l3, s2.2)) := by
  obtain rfl := sign_of h (s := [40]) (n := 6) (by decide) (by decide) hk
  unfold Zq.atom
  simp only [h]
  rw [if_neg (by decide), if_pos trivial]
  cases inner with
  | none => rfl
  | some f => rfl
theorem atom_fn (h : Zq.next l = some (x, q)) (hk : 22 ≤ Zq.kOf x) (hk2 : Zq.kOf x ≤ 27) : Zq.atom inner (l, ns) = fnP inner (Zq.kOf x) (q, ns) := by
  have key : ∀ (s : List Nat) (n : Nat) (op : Int), (s, n) ∈ Zq.kinds → 14 ≤ n → Zq.fnOp s = op → op ≠ 0 → ((op = 4 ∧ n = 26) ∨ (op = 17 ∧ n = 27) ∨ (op = oneOp n ∧ n ≠ 26 ∧ n ≠ 27)) → Zq.kOf x = n → Zq.atom inner (l, ns) = fnP inner (Zq.kOf x) (q, ns) := fun s n op hs hn ho h0 hf hkx => by
    obtain rfl := word_of h hs hn hkx
    unfold Zq.atom
    simp only [h]
    rw [if_neg (by rw [ho]; exact h0), ho, call_fn inner hf, hkx]
  rcases (by omega : Zq.kOf x = 22 ∨ Zq.kOf x = 23 ∨ Zq.kOf x = 24 ∨ Zq.kOf x = 25 ∨ Zq.kOf x = 26 ∨ Zq.kOf x = 27) with e | e | e | e | e | e
  · exact key Zq.wLower 22 6 (by decide) (by decide) (by decide) (by decide) (by decide) e
  · exact key Zq.wFirst 23 7 (by decide) (by decide) (by decide) (by decide) (by decide) e
  · exact key Zq.wHead 24 8 (by decide) (by decide) (by decide) (by decide) (by decide) e
  · exact key Zq.wTail 25 9 (by decide) (by decide) (by decide) (by decide) (by decide) e
  · exact key Zq.wHas 26 4 (by decide) (by decide) (by decide) (by decide) (by decide) e
  · exact key Zq.wStarts 27 17 (by decide) (by decide) (by decide) (by decide) (by decide) e
theorem atom_else (h : Zq.next l = some (x, q)) (hk : Zq.kOf x < 3 ∨ (7 ≤ Zq.kOf x ∧ Zq.kOf x < 22)) : Zq.atom inner (l, ns) = .error 111 := by
  have hs : ∀ c ∈ Zq.signs, c ≠ 36 → c ≠ 40 → ([c] : List Nat) ≠ [36] ∧ ([c] : List Nat) ≠ [40] := fun c _ h1 h2 => ⟨by simpa using h1, by simpa using h2⟩
  have hf : ∀ y : List Nat, Zq.fnOp y ≠ 0 → 22 ≤ Zq.kOf (.name y) := fun y hy => by
    unfold Zq.fnOp at hy
    split at hy
    · rename_i e; subst e; decide
    split at hy
    · rename_i e; subst e; decide
    split at hy
    · rename_i e; subst e; decide
    split at hy
    · rename_i e; subst e; decide
    split at hy
    · rename_i e; subst e; decide
    split at hy
    · rename_i e; subst e; decide
    · exact absurd rfl hy
  rcases Zq.next_form h with rfl | ⟨t, rfl⟩ | ⟨n, rfl, _⟩ | ⟨t, rfl, rfl | ⟨c, hc, rfl⟩⟩ | ⟨c, r, rfl, hc, _⟩
  · unfold Zq.atom; simp only [h]
  · rw [Zq.kOf_text] at hk; omega
  · rw [Zq.kOf_num] at hk; omega
  · unfold Zq.atom; simp only [h]; rfl
  · have h36 : c ≠ 36 := fun e => by subst e; exact absurd hk (by decide)
    have h40 : c ≠ 40 := fun e => by subst e; exact absurd hk (by decide)
    obtain ⟨e1, e2⟩ := hs c hc h36 h40
    unfold Zq.atom
    simp only [h]
    rw [if_neg e1, if_neg e2]
  · unfold Zq.atom
    simp only [h]
    rw [if_pos]
    refine Decidable.byContradiction fun e => ?_
    have := hf _ e
    have := (Zq.kOf_nonword h).2 ⟨_, rfl⟩
    omega
end
/-- How an atom's node is made. -/
theorem add_end {W : Cx} {R S d mb n0 : Nat} {q : List Nat} {ns : List Zq.Nd} {nd : Zq.Nd} {res : Except Nat (Int × Zq.St)} {e : Ending} {w : World} (hr : res = Zq.add nd (q, ns)) (h0 : n0 ≤ ns.length) (hm : 49 ≤ mb)
    (h : (ns.length < 48 ∧ e = .returned (.int .i64 (ns.length : Nat)) ∧ Rok W R S q d (ns ++ [nd]) w) ∨ (ns.length = 48 ∧ (∃ a, e = .returned (.int .i64 a)) ∧ Rf W R S (ns.length + 1) w)) : REnd W R S d mb 0 n0 res e w := by
  rcases h with ⟨h1, h2, h3⟩ | ⟨h1, h2, h3⟩
  · exact .inl ⟨_, q, _, by rw [hr, Zq.add, if_neg (by simp; omega)], h2, h3, by simp; omega, fun h => absurd rfl h⟩
  · exact .inr ⟨112, by rw [hr, Zq.add, if_pos (by simp; omega)], h2, h3.le (by omega)⟩
theorem REnd.form {W : Cx} {R S d mb k n0 : Nat} {res : Except Nat (Int × Zq.St)} {e : Ending} {w : World} (h : REnd W R S d mb k n0 res e w) : ∃ a, e = .returned (.int .i64 a) := by
  rcases h with ⟨a, _, _, _, h, _⟩ | ⟨_, _, ⟨a, h⟩, _⟩ <;> exact ⟨a, h⟩
end Go.Proofs.YthhlmalpelgpeaaGreatDoor
