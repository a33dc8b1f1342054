/-
  G03: ZU ZW, side by side.
-/
import Derived.Test.YthhlmalpelgpeaaGreatDoorG02

/-
  The reader of rules: next, takes, must, open, close, operation, claim; with a fault met and without.
-/
namespace Go.Proofs.YthhlmalpelgpeaaGreatDoor
open Go.RowKit

theorem ne_int {a b : Int} (h : a ≠ b) : (a == b) = false := beq_eq_false_iff_ne.2 h
theorem bne_int {a b : Int} (h : a ≠ b) : (a != b) = true := bne_iff_ne.2 h
theorem gb_fr {w w' : World} {R S : Nat} (hg : w.grownBy w' (some S)) : Fr w R S w' := (Fr.refl _ _ _).grown hg (fun k e => .inr (.inl (by injection e with e; exact e.symm)))
set_option maxRecDepth 100000 in
theorem tok_field1 (k : Int) (t : ByteArray) (n : Int) (w : World) : (Instr.field 47 (.agg #[.int .i64 k, .string t, .int .i64 n]) 1).run Tryz.prog w = .ok (.string t) w := by kernel_rfl
set_option maxRecDepth 100000 in
theorem tok_field2 (k : Int) (t : ByteArray) (n : Int) (w : World) : (Instr.field 47 (.agg #[.int .i64 k, .string t, .int .i64 n]) 2).run Tryz.prog w = .ok (.int .i64 n) w := by kernel_rfl
section
variable {W : Cx} {w : World} {R S d m : Nat} {l : List Nat} {ns : List Zq.Nd}
/-- How next ends. -/
def NextEnd (W : Cx) (R S : Nat) (l : List Nat) (d : Nat) (ns : List Zq.Nd) (w : World) (e : Ending) (w' : World) : Prop :=
  Fr w R S w' ∧ ((∃ x q, Zq.next l = some (x, q) ∧ e = .returned (.int .i64 (Zq.kOf x : Nat)) ∧ Rex W R S x q d ns w') ∨ (Zq.next l = none ∧ e = .returned (.int .i64 1) ∧ Rf W R S ns.length w'))
set_option maxRecDepth 100000 in
theorem next_rex {x : Zq.Tok} {q : List Nat} (hx : Zq.next l = some (x, q)) (h : Rex W R S x q d ns w) :
    Calls Tryz.prog 35 #[.pointer (some ⟨R, 0, none⟩)] w fun e w' => e = .returned (.int .i64 (Zq.kOf x : Nat)) ∧ w = w' := by
  obtain ⟨nv, s, _, _, _, h⟩ := h
  obtain ⟨_, c1, _, _, _, _, c6⟩ := h.cells
  obtain ⟨g1, g2⟩ := Zq.next_good hx
  obtain ⟨k, ek⟩ : ∃ k, Zq.kOf x = k := ⟨_, rfl⟩
  rw [ek] at c1 g1 g2 ⊢
  have d0 : ((k : Int) == 0) = false := ne_int (by omega)
  have d1 : ((k : Int) == 1) = false := ne_int (by omega)
  clear h g1 g2 hx
  go_enter Tryz.func35, Tryz.ntmps35
  go_wp2
  go_ret
  exact ⟨rfl, rfl⟩
set_option maxRecDepth 100000 in
theorem next_rf (h : Rf W R S m w) : Calls Tryz.prog 35 #[.pointer (some ⟨R, 0, none⟩)] w fun e w' => e = .returned (.int .i64 1) ∧ w = w' := by
  obtain ⟨k, t, n, nv, d, f, s, ns, h1, h2, h⟩ := h
  obtain ⟨_, c1, _, _, _, _, c6⟩ := h.cells
  have d0 : (f != 0) = true := bne_int h1
  clear h h1 h2
  go_enter Tryz.func35, Tryz.ntmps35
  go_wp2
  go_ret
  exact ⟨rfl, rfl⟩
theorem Rd0.ahead {k k' n n' d f : Int} {t t' s : ByteArray} {nv : Value} (h : Rd0 W R S k t n nv d f s ns w) : Rd0 W R S k' t' n' nv d f s ns (((w.setCell ⟨R, 1, none⟩ (.int .i64 k')).setCell ⟨R, 2, none⟩ (.string t')).setCell ⟨R, 3, none⟩ (.int .i64 n')) ∧ Fr w R S (((w.setCell ⟨R, 1, none⟩ (.int .i64 k')).setCell ⟨R, 2, none⟩ (.string t')).setCell ⟨R, 3, none⟩ (.int .i64 n')) := by
  have hg := gbz_trans (gbz_trans (gbz_set w R 1 (.int .i64 k')) (gbz_set _ R 2 (.string t'))) (gbz_set _ R 3 (.int .i64 n'))
  refine ⟨h.reR hg ?_, (Fr.refl _ _ _).grown hg (fun k e => .inl (by injection e with e; exact e.symm))⟩
  have := ((h.lies.put 1 (.int .i64 k')).put 2 (.string t')).put 3 (.int .i64 n')
  exact this
set_option maxHeartbeats 1000000 in
set_option maxRecDepth 100000 in
theorem next_any (hAdv : AdvOk) (h : Rok W R S l d ns w) : Calls Tryz.prog 35 #[.pointer (some ⟨R, 0, none⟩)] w (NextEnd W R S l d ns w) := by
  obtain ⟨k, t, n, nv, s, ha, hd, hn, h⟩ := h
  rcases ha with ⟨rfl, hs⟩ | ⟨x, q, hx, hs, rfl, rfl, rfl⟩
  rotate_left
  · exact (next_rex hx ⟨nv, s, hs, hd, hn, h⟩).mono fun e w' ⟨h1, h2⟩ => ⟨h2 ▸ Fr.refl _ _ _, .inl ⟨x, q, hx, h1, h2 ▸ ⟨nv, s, hs, hd, hn, h⟩⟩⟩
  have hA := hAdv S s w W.w0 h.held.1 h.held.2.1 h.held.2.2.2 h.text h.small
  obtain ⟨c0, c1, c2, c3, _, _, c6⟩ := h.cells
  have H := Lib.hid h
  have HS := Lib.hid hs
  clear h hs
  go_enter Tryz.func35, Tryz.ntmps35
  go_wp2_with fail
  refine hA.mono ?_
  rintro e w1 ⟨hg, s1, hl1, hs1, hh⟩
  clear hA c0 c1 c2 c3 c6
  have h1 := H.out.reS hg hl1 (Nat.le_trans hs1 H.out.small)
  have hfr1 := gb_fr (R := R) hg
  obtain ⟨c0, c1, c2, c3, c4, c5, c6⟩ := h1.cells
  obtain ⟨_, f1, f2, f3, _, _, _⟩ := h1.frees
  rcases hh with ⟨x, q, hx, rfl, hq⟩ | ⟨hx, t1, n1, rfl⟩
  · rw [HS.out] at hx
    obtain ⟨g1, g2⟩ := Zq.next_good hx
    obtain ⟨k, ek⟩ : ∃ k, Zq.kOf x = k := ⟨_, rfl⟩
    have HE : Hid (NextEnd W R S l d ns w (.returned (.int .i64 (k : Nat))) (((w1.setCell ⟨R, 1, none⟩ (.int .i64 (k : Nat))).setCell ⟨R, 2, none⟩ (.string (strOf (Zq.kText x)))).setCell ⟨R, 3, none⟩ (.int .i64 (Zq.kNum x : Nat)))) := by
      obtain ⟨q1, q2⟩ := h1.ahead (k' := (k : Nat)) (t' := strOf (Zq.kText x)) (n' := (Zq.kNum x : Nat))
      exact ⟨hfr1.trans q2, .inl ⟨x, q, hx, by rw [ek], nv, s1, hq, hd, hn, by rw [ek]; exact q1⟩⟩
    rw [ek] at g1 g2 ⊢
    have d1 : ((k : Int) == 1) = false := ne_int (by omega)
    clear h1 hfr1 hg hl1 hs1 hx hq g1 g2 ek
    go_wp2
    go_ret
    exact HE.out
  · rw [HS.out] at hx
    obtain ⟨q1, q2⟩ := h1.ahead (k' := 1) (t' := t1) (n' := n1)
    obtain ⟨W2, eW2⟩ : ∃ W2, W2 = (((w1.setCell ⟨R, 1, none⟩ (.int .i64 1)).setCell ⟨R, 2, none⟩ (.string t1)).setCell ⟨R, 3, none⟩ (.int .i64 n1)) := ⟨_, rfl⟩
    rw [← eW2] at q1 q2
    have hF := fail_any 111 q1
    rw [eW2] at hF
    have HX := Lib.hid hx
    have HFR := Lib.hid (hfr1.trans q2)
    have HW := Lib.hid eW2
    clear h1 hfr1 hg hl1 hs1 hx q1 q2 eW2
    go_wp2_with fail
    refine hF.mono ?_
    rintro e w3 ⟨rfl, h3, hfr3⟩
    rw [← HW.out] at hfr3
    clear hF
    obtain ⟨_, c1, _, _, _, _, _⟩ := h3.cells
    have HE : Hid (NextEnd W R S l d ns w (.returned (.int .i64 1)) w3) := ⟨HFR.out.trans hfr3, .inr ⟨HX.out, rfl, 1, t1, n1, nv, d, _, s1, ns, (by decide), Nat.le_refl _, h3⟩⟩
    clear h3 hfr3
    go_wp2
    go_ret
    exact HE.out

theorem Rex.taken {q : List Nat} {nv : Value} {s : ByteArray} (h1 : numsOf s = q) (h2 : d ≤ 16) (h3 : ns.length ≤ 48) (h : Rd0 W R S 0 ByteArray.empty 0 nv d 0 s ns w) : Rok W R S q d ns w :=
  ⟨0, _, _, nv, s, .inl ⟨rfl, h1⟩, h2, h3, h⟩
/-- The token ahead is taken. -/
theorem take_rex {x : Zq.Tok} {q : List Nat} (h : Rex W R S x q d ns w) :
    Calls Tryz.prog 65 #[.pointer (some ⟨R, 0, none⟩)] w fun e w' => e = .returned (tokc (Zq.kOf x : Nat) (strOf (Zq.kText x)) (Zq.kNum x : Nat)) ∧ Rok W R S q d ns w' ∧ Fr w R S w' := by
  obtain ⟨nv, s, h1, h2, h3, h⟩ := h
  exact (take_any h).mono fun e w' ⟨k1, k2, k3⟩ => ⟨k1, Rex.taken h1 h2 h3 k2, k3⟩
theorem take_rf (h : Rf W R S m w) :
    Calls Tryz.prog 65 #[.pointer (some ⟨R, 0, none⟩)] w fun e w' => ∃ k t n, e = .returned (tokc k t n) ∧ Rf W R S m w' ∧ Fr w R S w' := by
  obtain ⟨k, t, n, nv, d, f, s, ns, h1, h2, h⟩ := h
  exact (take_any h).mono fun e w' ⟨k1, k2, k3⟩ => ⟨k, t, n, k1, ⟨_, _, _, nv, d, f, s, ns, h1, h2, k2⟩, k3⟩
theorem fail_rex {x : Zq.Tok} {q : List Nat} {c : Int} (hc : c ≠ 0) (h : Rex W R S x q d ns w) :
    Calls Tryz.prog 37 #[.pointer (some ⟨R, 0, none⟩), .int .i64 c] w fun e w' => e = .returned (.tuple #[]) ∧ Rf W R S ns.length w' ∧ Fr w R S w' := by
  obtain ⟨nv, s, h1, h2, h3, h⟩ := h
  exact (fail_any c h).mono fun e w' ⟨k1, k2, k3⟩ => ⟨k1, ⟨_, _, _, nv, d, _, s, ns, by rw [if_pos rfl]; exact hc, Nat.le_refl _, k2⟩, k3⟩
theorem fail_rf {c : Int} (h : Rf W R S m w) :
    Calls Tryz.prog 37 #[.pointer (some ⟨R, 0, none⟩), .int .i64 c] w fun e w' => e = .returned (.tuple #[]) ∧ Rf W R S m w' ∧ Fr w R S w' := by
  obtain ⟨k, t, n, nv, d, f, s, ns, h1, h2, h⟩ := h
  exact (fail_any c h).mono fun e w' ⟨k1, k2, k3⟩ => ⟨k1, ⟨_, _, _, nv, d, _, s, ns, by rw [if_neg h1]; exact h1, h2, k2⟩, k3⟩

/-- How takes ends. -/
def TakesEnd (W : Cx) (R S : Nat) (kd : Nat) (l : List Nat) (d : Nat) (ns : List Zq.Nd) (w : World) (e : Ending) (w' : World) : Prop :=
  Fr w R S w' ∧ ((∃ x q, Zq.next l = some (x, q) ∧ Zq.kOf x = kd ∧ e = .returned (.bool true) ∧ Rok W R S q d ns w') ∨ (∃ x q, Zq.next l = some (x, q) ∧ Zq.kOf x ≠ kd ∧ e = .returned (.bool false) ∧ Rex W R S x q d ns w') ∨
    (Zq.next l = none ∧ e = .returned (.bool false) ∧ Rf W R S ns.length w'))
set_option maxHeartbeats 1000000 in
set_option maxRecDepth 100000 in
theorem takes_any (hAdv : AdvOk) (kd : Nat) (hk : 2 ≤ kd) (h : Rok W R S l d ns w) :
    Calls Tryz.prog 39 #[.pointer (some ⟨R, 0, none⟩), .int .i64 (kd : Int)] w (TakesEnd W R S kd l d ns w) := by
  have hN := next_any hAdv h
  clear h
  go_enter Tryz.func39, Tryz.ntmps39
  go_wp2_with fail
  refine hN.mono ?_
  rintro e w1 ⟨hfr, ⟨x, q, hx, rfl, h1⟩ | ⟨hx, rfl, h1⟩⟩
  · clear hN
    have hT := take_rex h1
    obtain ⟨k, ek⟩ : ∃ k, Zq.kOf x = k := ⟨_, rfl⟩
    have HX := Lib.hid hx
    have HFR := Lib.hid hfr
    have EK := Lib.hid ek
    rw [ek] at hT ⊢
    by_cases hkd : k = kd
    · subst hkd
      have hb : ((k : Int) != (k : Int)) = false := by simp
      clear h1 hx hfr ek
      go_wp2_with fail
      refine hT.mono ?_
      rintro e w2 ⟨rfl, h2, hfr2⟩
      have HE : Hid (TakesEnd W R S k l d ns w (.returned (.bool true)) w2) := ⟨HFR.out.trans hfr2, .inl ⟨x, q, HX.out, EK.out, rfl, h2⟩⟩
      clear hT h2 hfr2
      go_wp2
      go_ret
      exact HE.out
    · have hb : ((k : Int) != (kd : Int)) = true := bne_int (by omega)
      have HE : Hid (TakesEnd W R S kd l d ns w (.returned (.bool false)) w1) := ⟨hfr, .inr (.inl ⟨x, q, hx, by rw [ek]; exact hkd, rfl, h1⟩)⟩
      clear hT h1 hx hfr ek hkd
      go_wp2
      go_ret
      exact HE.out
  · have hb : ((1 : Int) != (kd : Int)) = true := bne_int (by omega)
    have HE : Hid (TakesEnd W R S kd l d ns w (.returned (.bool false)) w1) := ⟨hfr, .inr (.inr ⟨hx, rfl, h1⟩)⟩
    clear hN h1 hx hfr
    go_wp2
    go_ret
    exact HE.out
set_option maxRecDepth 100000 in
theorem takes_rf (kd : Nat) (hk : 2 ≤ kd) (h : Rf W R S m w) :
    Calls Tryz.prog 39 #[.pointer (some ⟨R, 0, none⟩), .int .i64 (kd : Int)] w fun e w' => e = .returned (.bool false) ∧ w = w' := by
  have hN := next_rf h
  have hb : ((1 : Int) != (kd : Int)) = true := bne_int (by omega)
  clear h
  go_enter Tryz.func39, Tryz.ntmps39
  go_wp2_with fail
  refine hN.mono ?_
  rintro e w1 ⟨rfl, rfl⟩
  clear hN
  go_wp2
  go_ret
  exact ⟨rfl, rfl⟩

/-- A token of this kind stands next, and this behind it. -/
def Here (kd : Nat) (l q : List Nat) : Prop := ∃ x, Zq.next l = some (x, q) ∧ Zq.kOf x = kd
theorem here_one {kd : Nat} {q q' : List Nat} (h : Here kd l q) (h' : Here kd l q') : q = q' := by
  obtain ⟨x, h1, _⟩ := h
  obtain ⟨x', h2, _⟩ := h'
  rw [h1] at h2
  simp at h2
  exact h2.2
/-- How must ends. -/
def MustEnd (W : Cx) (R S : Nat) (kd : Nat) (l : List Nat) (d : Nat) (ns : List Zq.Nd) (w : World) (e : Ending) (w' : World) : Prop :=
  e = .returned (.tuple #[]) ∧ Fr w R S w' ∧ ((∃ q, Here kd l q ∧ Rok W R S q d ns w') ∨ ((∀ q, ¬ Here kd l q) ∧ Rf W R S ns.length w'))
set_option maxHeartbeats 1000000 in
set_option maxRecDepth 100000 in
theorem must_any (hAdv : AdvOk) (kd : Nat) (hk : 2 ≤ kd) (h : Rok W R S l d ns w) :
    Calls Tryz.prog 40 #[.pointer (some ⟨R, 0, none⟩), .int .i64 (kd : Int)] w (MustEnd W R S kd l d ns w) := by
  have hN := takes_any hAdv kd hk h
  clear h
  go_enter Tryz.func40, Tryz.ntmps40
  go_wp2_with fail
  refine hN.mono ?_
  rintro e w1 ⟨hfr, ⟨x, q, hx, hkx, rfl, h1⟩ | ⟨x, q, hx, hkx, rfl, h1⟩ | ⟨hx, rfl, h1⟩⟩
  · have HE : Hid (MustEnd W R S kd l d ns w (.returned (.tuple #[])) w1) := ⟨rfl, hfr, .inl ⟨q, ⟨x, hx, hkx⟩, h1⟩⟩
    clear hN h1 hx hkx hfr
    go_wp2
    go_end0
    exact HE.out
  · have hF := fail_rex (c := 111) (by decide) h1
    have HE : Hid (∀ w2, Rf W R S ns.length w2 → Fr w1 R S w2 → MustEnd W R S kd l d ns w (.returned (.tuple #[])) w2) := fun w2 a b => ⟨rfl, hfr.trans b, .inr ⟨(fun q' ⟨x', h2, h3⟩ => by
      rw [hx] at h2
      simp at h2
      obtain ⟨rfl, rfl⟩ := h2
      exact hkx h3), a⟩⟩
    clear hN h1 hx hkx hfr
    go_wp2_with fail
    refine hF.mono ?_
    rintro e w2 ⟨rfl, h2, hfr2⟩
    have HE2 := Lib.hid (HE.out w2 h2 hfr2)
    clear hF h2 hfr2
    go_wp2
    go_end0
    exact HE2.out
  · have hF := fail_rf (c := 111) h1
    have HE : Hid (∀ w2, Rf W R S ns.length w2 → Fr w1 R S w2 → MustEnd W R S kd l d ns w (.returned (.tuple #[])) w2) := fun w2 a b => ⟨rfl, hfr.trans b, .inr ⟨(fun q' ⟨x', h2, h3⟩ => by
      rw [hx] at h2
      simp at h2), a⟩⟩
    clear hN h1 hx hfr
    go_wp2_with fail
    refine hF.mono ?_
    rintro e w2 ⟨rfl, h2, hfr2⟩
    have HE2 := Lib.hid (HE.out w2 h2 hfr2)
    clear hF h2 hfr2
    go_wp2
    go_end0
    exact HE2.out
set_option maxRecDepth 100000 in
theorem must_rf (kd : Nat) (hk : 2 ≤ kd) (h : Rf W R S m w) :
    Calls Tryz.prog 40 #[.pointer (some ⟨R, 0, none⟩), .int .i64 (kd : Int)] w fun e w' => e = .returned (.tuple #[]) ∧ Rf W R S m w' ∧ Fr w R S w' := by
  have hN := takes_rf kd hk h
  have hF := fail_rf (c := 111) h
  clear h
  go_enter Tryz.func40, Tryz.ntmps40
  go_wp2_with fail
  refine hN.mono ?_
  rintro e w1 ⟨rfl, rfl⟩
  clear hN
  go_wp2_with fail
  refine hF.mono ?_
  rintro e w2 ⟨rfl, h2, hfr2⟩
  have HE := Lib.hid h2
  have HF := Lib.hid hfr2
  clear hF h2 hfr2
  go_wp2
  go_end0
  exact ⟨rfl, HE.out, HF.out⟩

theorem Rd0.deep {k n d f d' : Int} {t s : ByteArray} {nv : Value} (h : Rd0 W R S k t n nv d f s ns w) : Rd0 W R S k t n nv d' f s ns (w.setCell ⟨R, 5, none⟩ (.int .i64 d')) ∧ Fr w R S (w.setCell ⟨R, 5, none⟩ (.int .i64 d')) := by
  have hg := gbz_set w R 5 (.int .i64 d')
  refine ⟨h.reR hg ?_, (Fr.refl _ _ _).grown hg (fun k e => .inl (by injection e with e; exact e.symm))⟩
  have := h.lies.put 5 (.int .i64 d')
  exact this
theorem Rok.deep (h : Rok W R S l d ns w) {d' : Nat} (hd : d' ≤ 16) : Rok W R S l d' ns (w.setCell ⟨R, 5, none⟩ (.int .i64 (d' : Int))) ∧ Fr w R S (w.setCell ⟨R, 5, none⟩ (.int .i64 (d' : Int))) := by
  obtain ⟨k, t, n, nv, s, h1, h2, h3, h⟩ := h
  exact ⟨⟨k, t, n, nv, s, h1, hd, h3, h.deep.1⟩, h.deep.2⟩
theorem Rf.deep (h : Rf W R S m w) (d' : Int) : Rf W R S m (w.setCell ⟨R, 5, none⟩ (.int .i64 d')) ∧ Fr w R S (w.setCell ⟨R, 5, none⟩ (.int .i64 d')) := by
  obtain ⟨k, t, n, nv, d, f, s, ns, h1, h2, h⟩ := h
  exact ⟨⟨k, t, n, nv, d', f, s, ns, h1, h2, h.deep.1⟩, h.deep.2⟩
theorem Rok.cell5 (h : Rok W R S l d ns w) : w.cell? ⟨R, 5, none⟩ = some (.int .i64 (d : Int)) ∧ w.frozen? ⟨R, 5, none⟩ = false := by
  obtain ⟨k, t, n, nv, s, h1, h2, h3, h⟩ := h
  exact ⟨h.cells.2.2.2.2.2.1, h.frees.2.2.2.2.2.1⟩
theorem Rok.le (h : Rok W R S l d ns w) : d ≤ 16 ∧ ns.length ≤ 48 := by
  obtain ⟨k, t, n, nv, s, h1, h2, h3, h⟩ := h
  exact ⟨h2, h3⟩
theorem Rf.cell5 (h : Rf W R S m w) : ∃ D, w.cell? ⟨R, 5, none⟩ = some (.int .i64 D) ∧ w.frozen? ⟨R, 5, none⟩ = false := by
  obtain ⟨k, t, n, nv, d, f, s, ns, h1, h2, h⟩ := h
  exact ⟨d, h.cells.2.2.2.2.2.1, h.frees.2.2.2.2.2.1⟩
/-- How open ends. -/
def OpenEnd (W : Cx) (R S : Nat) (kd : Nat) (l : List Nat) (d : Nat) (ns : List Zq.Nd) (w : World) (e : Ending) (w' : World) : Prop :=
  e = .returned (.tuple #[]) ∧ Fr w R S w' ∧ ((∃ q, Here kd l q ∧ d < 16 ∧ Rok W R S q (d + 1) ns w') ∨ (((∀ q, ¬ Here kd l q) ∨ d = 16) ∧ Rf W R S ns.length w'))
end
end Go.Proofs.YthhlmalpelgpeaaGreatDoor

/-
  The reader of rules: open, close, operation, claim.
-/
namespace Go.Proofs.YthhlmalpelgpeaaGreatDoor
open Go.RowKit

section
variable {W : Cx} {w : World} {R S d m : Nat} {l : List Nat} {ns : List Zq.Nd}
set_option maxHeartbeats 1000000 in
set_option maxRecDepth 100000 in
theorem open_any (hAdv : AdvOk) (kd : Nat) (hk : 2 ≤ kd) (h : Rok W R S l d ns w) :
    Calls Tryz.prog 126 #[.pointer (some ⟨R, 0, none⟩), .int .i64 (kd : Int)] w (OpenEnd W R S kd l d ns w) := by
  have hM := must_any hAdv kd hk h
  have hd16 := h.le.1
  clear h
  go_enter Tryz.func126, Tryz.ntmps126
  go_wp2_with fail
  refine hM.mono ?_
  rintro e w1 ⟨rfl, hfr, ⟨q, hq, h1⟩ | ⟨hq, h1⟩⟩
  · clear hM
    by_cases h16 : d = 16
    · subst h16
      obtain ⟨c5, f5⟩ := h1.cell5
      obtain ⟨k, t, n, nv, s, a1, a2, a3, a4⟩ := h1
      have hF := fail_any 113 a4
      have HFR := Lib.hid hfr
      clear a1 a4 hq hfr
      go_wp2_with fail
      refine hF.mono ?_
      rintro e w2 ⟨rfl, h2, hfr2⟩
      have h3 : Rf W R S ns.length w2 := ⟨_, _, _, _, _, _, _, _, by decide, Nat.le_refl _, h2⟩
      clear hF c5 f5 h2
      obtain ⟨D, c5, f5⟩ := h3.cell5
      have HE : Hid (∀ v : Int, OpenEnd W R S kd l 16 ns w (.returned (.tuple #[])) (w2.setCell ⟨R, 5, none⟩ (.int .i64 v))) := fun v => ⟨rfl, (HFR.out.trans hfr2).trans (h3.deep v).2, .inr ⟨.inr rfl, (h3.deep v).1⟩⟩
      clear h3 hfr2
      go_wp2
      go_end0
      exact HE.out _
    · obtain ⟨c5, f5⟩ := h1.cell5
      have hb : ((d : Int) == 16) = false := ne_int (by omega)
      obtain ⟨q1, q2⟩ := h1.deep (d' := d + 1) (by omega)
      have HE : Hid (OpenEnd W R S kd l d ns w (.returned (.tuple #[])) (w1.setCell ⟨R, 5, none⟩ (.int .i64 ((d : Int) + 1)))) := ⟨rfl, hfr.trans q2, .inl ⟨q, hq, by omega, q1⟩⟩
      have hd0 : 0 ≤ (d : Int) := by omega
      have hd1 : (d : Int) ≤ 16 := by omega
      clear h1 hq hfr q1 q2 h16
      go_wp2
      go_end0
      exact HE.out
  · obtain ⟨D, c5, f5⟩ := h1.cell5
    have hF := fail_rf (c := 113) h1
    have HFR := Lib.hid hfr
    have H1 := Lib.hid h1
    have HQ := Lib.hid hq
    clear hM h1 hq hfr
    by_cases h16 : D = 16
    · subst h16
      go_wp2_with fail
      refine hF.mono ?_
      rintro e w2 ⟨rfl, h3, hfr2⟩
      clear hF c5 f5
      obtain ⟨D, c5, f5⟩ := h3.cell5
      have HE : Hid (∀ v : Int, OpenEnd W R S kd l d ns w (.returned (.tuple #[])) (w2.setCell ⟨R, 5, none⟩ (.int .i64 v))) := fun v => ⟨rfl, (HFR.out.trans hfr2).trans (h3.deep v).2, .inr ⟨.inl HQ.out, (h3.deep v).1⟩⟩
      clear h3 hfr2
      go_wp2
      go_end0
      exact HE.out _
    · have hb : (D == 16) = false := ne_int h16
      have HE : Hid (∀ v : Int, OpenEnd W R S kd l d ns w (.returned (.tuple #[])) (w1.setCell ⟨R, 5, none⟩ (.int .i64 v))) := fun v => ⟨rfl, HFR.out.trans (H1.out.deep v).2, .inr ⟨.inl HQ.out, (H1.out.deep v).1⟩⟩
      clear hF h16
      go_wp2
      go_end0
      exact HE.out _
set_option maxHeartbeats 1000000 in
set_option maxRecDepth 100000 in
theorem open_rf (kd : Nat) (hk : 2 ≤ kd) (h : Rf W R S m w) :
    Calls Tryz.prog 126 #[.pointer (some ⟨R, 0, none⟩), .int .i64 (kd : Int)] w fun e w' => e = .returned (.tuple #[]) ∧ Rf W R S m w' ∧ Fr w R S w' := by
  have hM := must_rf kd hk h
  clear h
  go_enter Tryz.func126, Tryz.ntmps126
  go_wp2_with fail
  refine hM.mono ?_
  rintro e w1 ⟨rfl, h1, hfr⟩
  obtain ⟨D, c5, f5⟩ := h1.cell5
  have hF := fail_rf (c := 113) h1
  have HFR := Lib.hid hfr
  have H1 := Lib.hid h1
  clear hM h1 hfr
  by_cases h16 : D = 16
  · subst h16
    go_wp2_with fail
    refine hF.mono ?_
    rintro e w2 ⟨rfl, h3, hfr2⟩
    clear hF c5 f5
    obtain ⟨D, c5, f5⟩ := h3.cell5
    have HE : Hid (∀ v : Int, Rf W R S m (w2.setCell ⟨R, 5, none⟩ (.int .i64 v)) ∧ Fr w R S (w2.setCell ⟨R, 5, none⟩ (.int .i64 v))) := fun v => ⟨(h3.deep v).1, (HFR.out.trans hfr2).trans (h3.deep v).2⟩
    clear h3 hfr2
    go_wp2
    go_end0
    exact ⟨rfl, HE.out _⟩
  · have hb : (D == 16) = false := ne_int h16
    have HE : Hid (∀ v : Int, Rf W R S m (w1.setCell ⟨R, 5, none⟩ (.int .i64 v)) ∧ Fr w R S (w1.setCell ⟨R, 5, none⟩ (.int .i64 v))) := fun v => ⟨(H1.out.deep v).1, HFR.out.trans (H1.out.deep v).2⟩
    clear hF h16
    go_wp2
    go_end0
    exact ⟨rfl, HE.out _⟩
/-- How close ends. -/
def CloseEnd (W : Cx) (R S : Nat) (l : List Nat) (d : Nat) (ns : List Zq.Nd) (w : World) (e : Ending) (w' : World) : Prop :=
  e = .returned (.tuple #[]) ∧ Fr w R S w' ∧ ((∃ q, Here 7 l q ∧ Rok W R S q d ns w') ∨ ((∀ q, ¬ Here 7 l q) ∧ Rf W R S ns.length w'))
set_option maxHeartbeats 1000000 in
set_option maxRecDepth 100000 in
theorem close_any (hAdv : AdvOk) (h : Rok W R S l (d + 1) ns w) :
    Calls Tryz.prog 142 #[.pointer (some ⟨R, 0, none⟩)] w (CloseEnd W R S l d ns w) := by
  have hM := must_any hAdv 7 (by decide) h
  have hd16 := h.le.1
  clear h
  go_enter Tryz.func142, Tryz.ntmps142
  go_wp2_with fail
  refine hM.mono ?_
  rintro e w1 ⟨rfl, hfr, ⟨q, hq, h1⟩ | ⟨hq, h1⟩⟩
  · clear hM
    obtain ⟨c5, f5⟩ := h1.cell5
    obtain ⟨q1, q2⟩ := h1.deep (d' := d) (by omega)
    have HE : Hid (CloseEnd W R S l d ns w (.returned (.tuple #[])) (w1.setCell ⟨R, 5, none⟩ (.int .i64 (d : Int)))) := ⟨rfl, hfr.trans q2, .inl ⟨q, hq, q1⟩⟩
    have hd0 : ((d + 1 : Nat) : Int) - 1 = (d : Int) := by omega
    have hd1 : (d : Int) ≤ 16 := by omega
    clear h1 hq hfr q1 q2
    rw [show ((d + 1 : Nat) : Int) = (d : Int) + 1 from rfl] at c5
    have hd2 : (d : Int) + 1 - 1 = (d : Int) := by omega
    go_wp2
    go_end0
    exact HE.out
  · obtain ⟨D, c5, f5⟩ := h1.cell5
    have HE : Hid (∀ v : Int, CloseEnd W R S l d ns w (.returned (.tuple #[])) (w1.setCell ⟨R, 5, none⟩ (.int .i64 v))) := fun v => ⟨rfl, hfr.trans (h1.deep v).2, .inr ⟨hq, (h1.deep v).1⟩⟩
    clear hM h1 hq hfr
    go_wp2
    go_end0
    exact HE.out _
set_option maxRecDepth 100000 in
theorem close_rf (h : Rf W R S m w) :
    Calls Tryz.prog 142 #[.pointer (some ⟨R, 0, none⟩)] w fun e w' => e = .returned (.tuple #[]) ∧ Rf W R S m w' ∧ Fr w R S w' := by
  have hM := must_rf 7 (by decide) h
  clear h
  go_enter Tryz.func142, Tryz.ntmps142
  go_wp2_with fail
  refine hM.mono ?_
  rintro e w1 ⟨rfl, h1, hfr⟩
  obtain ⟨D, c5, f5⟩ := h1.cell5
  have HE : Hid (∀ v : Int, Rf W R S m (w1.setCell ⟨R, 5, none⟩ (.int .i64 v)) ∧ Fr w R S (w1.setCell ⟨R, 5, none⟩ (.int .i64 v))) := fun v => ⟨(h1.deep v).1, hfr.trans (h1.deep v).2⟩
  clear hM h1 hfr
  go_wp2
  go_end0
  exact ⟨rfl, HE.out _⟩

/-- How a node is made behind a token that is examined. -/
def OperEnd (W : Cx) (R S : Nat) (x : Zq.Nd) (l : List Nat) (d : Nat) (ns : List Zq.Nd) (e : Ending) (w' : World) : Prop :=
  (∃ y q, Zq.next l = some (y, q) ∧ ns.length < 48 ∧ e = .returned (.int .i64 (ns.length : Nat)) ∧ Rok W R S l d (ns ++ [x]) w') ∨ ((Zq.next l = none ∨ ns.length = 48) ∧ (∃ a, e = .returned (.int .i64 a)) ∧ Rf W R S (ns.length + 1) w')
theorem node_rok (x : Zq.Nd) (h : Rok W R S l d ns w) : Calls Tryz.prog 124 #[.pointer (some ⟨R, 0, none⟩), ndv x] w fun e w' =>
    (ns.length < 48 ∧ e = .returned (.int .i64 (ns.length : Nat)) ∧ Rok W R S l d (ns ++ [x]) w') ∨ (ns.length = 48 ∧ (∃ a, e = .returned (.int .i64 a)) ∧ Rf W R S (ns.length + 1) w') := by
  obtain ⟨k, t, n, nv, s, h1, h2, h3, h⟩ := h
  refine (node_any x (by omega) h).mono fun e w' ⟨k1, nv', k2⟩ => ?_
  rw [List.length_append, show ns.length + [x].length - 1 = ns.length from rfl] at k1
  by_cases h48 : ns.length = 48
  · rw [if_pos ⟨h48, rfl⟩] at k2
    exact .inr ⟨h48, ⟨_, k1⟩, _, _, _, _, _, _, _, _, by decide, by simp, k2⟩
  · rw [if_neg (fun e => h48 e.1)] at k2
    exact .inl ⟨by omega, k1, k, t, n, nv', s, h1, h2, by simp; omega, k2⟩
theorem node_rf (x : Zq.Nd) (hm : m ≤ 1000) (h : Rf W R S m w) : Calls Tryz.prog 124 #[.pointer (some ⟨R, 0, none⟩), ndv x] w fun e w' => (∃ a, e = .returned (.int .i64 a)) ∧ Rf W R S (m + 1) w' := by
  obtain ⟨k, t, n, nv, d, f, s, ns, h1, h2, h⟩ := h
  refine (node_any x (by omega) h).mono fun e w' ⟨k1, nv', k2⟩ => ⟨⟨_, k1⟩, k, t, n, nv', d, _, s, _, ?_, ?_, k2⟩
  · rw [if_neg (fun e => h1 e.2)]; exact h1
  · simp; omega
set_option maxHeartbeats 1000000 in
set_option maxRecDepth 100000 in
theorem operation_any (hAdv : AdvOk) (x : Zq.Nd) (h : Rok W R S l d ns w) :
    Calls Tryz.prog 109 #[.pointer (some ⟨R, 0, none⟩), ndv x] w (OperEnd W R S x l d ns) := by
  obtain ⟨W1, eW1⟩ : ∃ W1, W1 = w.alloc (.cells #[.int .i64 x.op, .int .i64 x.int, .int .i64 x.a, .int .i64 x.b, .string (strOf x.text)] 37) := ⟨_, rfl⟩
  have hl1 : Lies W1 w.heap.size 37 (ncell x) := by rw [eW1]; exact Lies.new_ rfl
  have hN := next_any hAdv (h.more (w' := W1) (by rw [eW1]; exact box_below _ _))
  have H48 := Lib.hid h.le.2
  obtain ⟨_, _, _, _, _, _, _, _, hRd⟩ := h
  have HB0 : Hid (w.heap.size ≠ R ∧ w.heap.size ≠ S) := ⟨by have := hRd.lies.lt; omega, by have := hRd.text.lt; omega⟩
  have HL := Lib.hid hl1
  have HW := Lib.hid eW1
  rw [eW1] at hN
  clear hRd hl1 eW1
  go_enter Tryz.func109, Tryz.ntmps109
  go_wp2_with fail
  refine hN.mono ?_
  rintro e w1 ⟨hfr, ⟨y, q, hx, rfl, h1⟩ | ⟨hx, rfl, h1⟩⟩
  all_goals
    rw [← HW.out] at hfr
    have hl2 := hfr.lies HL.out HB0.out.1 HB0.out.2
    obtain ⟨b0, b1, b2, b3, b4⟩ : w1.cell? ⟨w.heap.size, 0, none⟩ = some (.int .i64 x.op) ∧ w1.cell? ⟨w.heap.size, 1, none⟩ = some (.int .i64 x.int) ∧ w1.cell? ⟨w.heap.size, 2, none⟩ = some (.int .i64 x.a) ∧ w1.cell? ⟨w.heap.size, 3, none⟩ = some (.int .i64 x.b) ∧ w1.cell? ⟨w.heap.size, 4, none⟩ = some (.string (strOf x.text)) := ⟨hl2.cell 0, hl2.cell 1, hl2.cell 2, hl2.cell 3, hl2.cell 4⟩
    clear hN hfr hl2
  · have hX := node_rok x (h1.ok hx)
    have HX := Lib.hid hx
    clear h1 hx
    go_wp2_with fail
    refine hX.mono ?_
    rintro e w2 hh
    rcases hh with ⟨g1, rfl, g2⟩ | ⟨g1, ⟨a, rfl⟩, g2⟩
    · have HE : Hid (OperEnd W R S x l d ns (.returned (.int .i64 (ns.length : Nat))) w2) := .inl ⟨y, q, HX.out, g1, rfl, g2⟩
      clear hX g1 g2
      go_wp2
      go_ret
      exact HE.out
    · have HE : Hid (OperEnd W R S x l d ns (.returned (.int .i64 a)) w2) := .inr ⟨.inr g1, ⟨a, rfl⟩, g2⟩
      clear hX g1 g2
      go_wp2
      go_ret
      exact HE.out
  · have hX := node_rf x (Nat.le_trans H48.out (by decide)) h1
    have HX := Lib.hid hx
    clear h1 hx
    go_wp2_with fail
    refine hX.mono ?_
    rintro e w2 ⟨⟨a, rfl⟩, g2⟩
    have HE : Hid (OperEnd W R S x l d ns (.returned (.int .i64 a)) w2) := .inr ⟨.inl HX.out, ⟨a, rfl⟩, g2⟩
    clear hX g2
    go_wp2
    go_ret
    exact HE.out
set_option maxHeartbeats 1000000 in
set_option maxRecDepth 100000 in
theorem operation_rf (x : Zq.Nd) (hm : m ≤ 1000) (h : Rf W R S m w) :
    Calls Tryz.prog 109 #[.pointer (some ⟨R, 0, none⟩), ndv x] w fun e w' => (∃ a, e = .returned (.int .i64 a)) ∧ Rf W R S (m + 1) w' := by
  obtain ⟨W1, eW1⟩ : ∃ W1, W1 = w.alloc (.cells #[.int .i64 x.op, .int .i64 x.int, .int .i64 x.a, .int .i64 x.b, .string (strOf x.text)] 37) := ⟨_, rfl⟩
  have hl1 : Lies W1 w.heap.size 37 (ncell x) := by rw [eW1]; exact Lies.new_ rfl
  have h1 := h.more (w' := W1) (by rw [eW1]; exact box_below _ _)
  have hN := next_rf h1
  have hX := node_rf x hm h1
  obtain ⟨b0, b1, b2, b3, b4⟩ : W1.cell? ⟨w.heap.size, 0, none⟩ = some (.int .i64 x.op) ∧ W1.cell? ⟨w.heap.size, 1, none⟩ = some (.int .i64 x.int) ∧ W1.cell? ⟨w.heap.size, 2, none⟩ = some (.int .i64 x.a) ∧ W1.cell? ⟨w.heap.size, 3, none⟩ = some (.int .i64 x.b) ∧ W1.cell? ⟨w.heap.size, 4, none⟩ = some (.string (strOf x.text)) := ⟨hl1.cell 0, hl1.cell 1, hl1.cell 2, hl1.cell 3, hl1.cell 4⟩
  have HW := Lib.hid eW1
  rw [eW1] at hN hX
  clear h h1 hl1 eW1
  go_enter Tryz.func109, Tryz.ntmps109
  go_wp2_with fail
  refine hN.mono ?_
  rintro e w1 ⟨rfl, rfl⟩
  clear hN
  go_wp2_with fail
  refine hX.mono ?_
  rintro e w2 ⟨⟨a, rfl⟩, g2⟩
  have HE := Lib.hid g2
  clear hX g2
  go_wp2
  go_ret
  exact ⟨⟨_, rfl⟩, HE.out⟩

/-! A claim's name. -/
def claimP (l : List Nat) : Option (List Nat × List Nat) :=
  match Zq.next l with
  | some (x, q) => if Zq.kOf x = 5 then (match Zq.next q with | some (.name t, q2) => some (t, q2) | _ => none) else none
  | none => none
/-- How claim ends. -/
def ClaimEnd (W : Cx) (R S : Nat) (l : List Nat) (d : Nat) (ns : List Zq.Nd) (w : World) (e : Ending) (w' : World) : Prop :=
  Fr w R S w' ∧ ((∃ t q, claimP l = some (t, q) ∧ e = .returned (.string (strOf t)) ∧ Rok W R S q d ns w') ∨ (claimP l = none ∧ (∃ s, e = .returned (.string s)) ∧ Rf W R S ns.length w'))
theorem claimP_no (h : ∀ q, ¬ Here 5 l q) : claimP l = none := by
  unfold claimP
  cases hn : Zq.next l with
  | none => rfl
  | some y =>
    obtain ⟨x, q⟩ := y
    simp only
    rw [if_neg]
    exact fun e => h q ⟨x, hn, e⟩
theorem claimP_on {q : List Nat} (h : Here 5 l q) : claimP l = match Zq.next q with | some (.name t, q2) => some (t, q2) | _ => none := by
  obtain ⟨x, h1, h2⟩ := h
  unfold claimP
  rw [h1]
  simp only
  rw [if_pos h2]
set_option maxHeartbeats 2000000 in
set_option maxRecDepth 100000 in
theorem claim_any (hAdv : AdvOk) (h : Rok W R S l d ns w) :
    Calls Tryz.prog 141 #[.pointer (some ⟨R, 0, none⟩)] w (ClaimEnd W R S l d ns w) := by
  have hM := must_any hAdv 5 (by decide) h
  have hI := isWord_any
  have hfld := tok_field1
  have HA := Lib.hid hAdv
  clear h hAdv
  go_enter Tryz.func141, Tryz.ntmps141
  go_wp2_with fail
  refine hM.mono ?_
  rintro e w1 ⟨rfl, hfr, ⟨q, hq, h1⟩ | ⟨hq, h1⟩⟩
  · have hN := next_any HA.out h1
    have HQ := Lib.hid (claimP_on hq)
    have HFR := Lib.hid hfr
    clear hM hq h1 hfr
    go_wp2_with fail
    refine hN.mono ?_
    rintro e w2 ⟨hfr2, ⟨x, q2, hx, rfl, h2⟩ | ⟨hx, rfl, h2⟩⟩
    · clear hN
      have hI2 := hI (Zq.kOf x : Nat) w2
      have hT := take_rex h2
      have hF := fail_rex (c := 111) (by decide) h2
      have HX := Lib.hid hx
      have HFR2 := Lib.hid (HFR.out.trans hfr2)
      have HK := Lib.hid (Zq.kOf_nonword hx)
      clear hI h2 hx hfr2
      obtain ⟨k, ek⟩ : ∃ k, Zq.kOf x = k := ⟨_, rfl⟩
      have EK := Lib.hid ek
      rw [ek] at hI2 hT ⊢
      clear ek
      by_cases hk : 14 ≤ k
      · have hb : decide ((14 : Int) ≤ (k : Int)) = true := decide_eq_true (by omega)
        rw [hb] at hI2
        clear hF
        go_wp2_with fail
        refine hI2.mono ?_
        rintro e w3 ⟨rfl, rfl⟩
        clear hI2 hb
        go_wp2_with fail
        refine hT.mono ?_
        rintro e w3 ⟨rfl, h3, hfr3⟩
        have HE : Hid (ClaimEnd W R S l d ns w (.returned (.string (strOf (Zq.kText x)))) w3) := by
          refine ⟨HFR2.out.trans hfr3, .inl ⟨Zq.kText x, q2, ?_, rfl, h3⟩⟩
          obtain ⟨t, rfl⟩ := HK.out.1 (by rw [EK.out]; exact hk)
          rw [HQ.out, HX.out]
          rfl
        clear hT h3 hfr3 hk
        go_wp2
        go_ret
        exact HE.out
      · have hb : decide ((14 : Int) ≤ (k : Int)) = false := decide_eq_false (by omega)
        rw [hb] at hI2
        clear hT
        go_wp2_with fail
        refine hI2.mono ?_
        rintro e w3 ⟨rfl, rfl⟩
        clear hI2 hb
        go_wp2_with fail
        refine hF.mono ?_
        rintro e w3 ⟨rfl, h3, hfr3⟩
        have hT := take_rf h3
        have HFR3 := Lib.hid (HFR2.out.trans hfr3)
        clear hF h3 hfr3
        go_wp2_with fail
        refine hT.mono ?_
        rintro e w4 ⟨k4, t4, n4, rfl, h4, hfr4⟩
        have HE : Hid (ClaimEnd W R S l d ns w (.returned (.string t4)) w4) := by
          refine ⟨HFR3.out.trans hfr4, .inr ⟨?_, ⟨_, rfl⟩, h4⟩⟩
          rw [HQ.out, HX.out]
          have hne : ∀ t, x ≠ .name t := fun t e => hk (by rw [← EK.out]; exact HK.out.2 ⟨t, e⟩)
          cases x with
          | name t => exact absurd rfl (hne t)
          | _ => rfl
        clear hT h4 hfr4 hk
        go_wp2
        go_ret
        exact HE.out
    · clear hN
      have hI2 := hI 1 w2
      have hF := fail_rf (c := 111) h2
      have HX := Lib.hid hx
      have HFR2 := Lib.hid (HFR.out.trans hfr2)
      clear hI h2 hx hfr2
      rw [show decide ((14 : Int) ≤ 1) = false from rfl] at hI2
      go_wp2_with fail
      refine hI2.mono ?_
      rintro e w3 ⟨rfl, rfl⟩
      clear hI2
      go_wp2_with fail
      refine hF.mono ?_
      rintro e w3 ⟨rfl, h3, hfr3⟩
      have hT := take_rf h3
      have HFR3 := Lib.hid (HFR2.out.trans hfr3)
      clear hF h3 hfr3
      go_wp2_with fail
      refine hT.mono ?_
      rintro e w4 ⟨k4, t4, n4, rfl, h4, hfr4⟩
      have HE : Hid (ClaimEnd W R S l d ns w (.returned (.string t4)) w4) := ⟨HFR3.out.trans hfr4, .inr ⟨by rw [HQ.out, HX.out], ⟨_, rfl⟩, h4⟩⟩
      clear hT h4 hfr4
      go_wp2
      go_ret
      exact HE.out
  · have hN := next_rf h1
    have hI2 := hI 1 w1
    have hF := fail_rf (c := 111) h1
    have HQ := Lib.hid (claimP_no hq)
    have HFR := Lib.hid hfr
    clear hM hI hq h1 hfr
    rw [show decide ((14 : Int) ≤ 1) = false from rfl] at hI2
    go_wp2_with fail
    refine hN.mono ?_
    rintro e w2 ⟨rfl, rfl⟩
    clear hN
    go_wp2_with fail
    refine hI2.mono ?_
    rintro e w3 ⟨rfl, rfl⟩
    clear hI2
    go_wp2_with fail
    refine hF.mono ?_
    rintro e w3 ⟨rfl, h3, hfr3⟩
    have hT := take_rf h3
    have HFR3 := Lib.hid (HFR.out.trans hfr3)
    clear hF h3 hfr3
    go_wp2_with fail
    refine hT.mono ?_
    rintro e w4 ⟨k4, t4, n4, rfl, h4, hfr4⟩
    have HE : Hid (ClaimEnd W R S l d ns w (.returned (.string t4)) w4) := ⟨HFR3.out.trans hfr4, .inr ⟨HQ.out, ⟨_, rfl⟩, h4⟩⟩
    clear hT h4 hfr4
    go_wp2
    go_ret
    exact HE.out
end
end Go.Proofs.YthhlmalpelgpeaaGreatDoor
