/-
  G23: ZA, side by side.
-/
import Derived.Test.YthhlmalpelgpeaaGreatDoorG05

/-
  The reader of rules: atoms; all levels at all depths.
-/
namespace Go.Proofs.YthhlmalpelgpeaaGreatDoor
open Go.RowKit

theorem fn_on {f : Zq.PS} {k : Nat} {q q2 : List Nat} {ns : List Zq.Nd} {y : Zq.Tok} {res : Except Nat (Int × Zq.St)} (h : res = fnP (some f) k (q, ns)) (hy : Zq.next q = some (y, q2)) (hk : Zq.kOf y = 6) : res = match argsP f k (q2, ns) with
    | .error e => .error e
    | .ok (nd, s4) => match Zq.past [41] s4.1 with
      | .error e => .error e
      | .ok l5 => Zq.add nd (l5, s4.2) := by
  rw [h, fnP]
  simp only [Zq.past_some (s := [40]) (n := 6) (by decide) hy, if_pos hk]
  all_goals (rcases argsP f k (q2, ns) with er | ⟨nd, s4⟩ <;> rfl)
theorem fn_off {d D : Nat} {k : Nat} {q : List Nat} {ns : List Zq.Nd} {res : Except Nat (Int × Zq.St)} (hD : D = 16 → d = 0) (h : res = fnP (inOf d 6) k (q, ns)) (hq : (∀ q2, ¬ Here 6 q q2) ∨ D = 16) : ∃ er, res = .error er := by
  rw [h, fnP]
  cases hp : Zq.past [40] q with
  | error e => exact ⟨e, rfl⟩
  | ok l1 =>
    rcases hq with hq | hq
    · exfalso
      cases hn : Zq.next q with
      | none => rw [Zq.past_none hn] at hp; cases hp
      | some y =>
        obtain ⟨y, q4⟩ := y
        rw [Zq.past_some (n := 6) (by decide) hn, if_neg (fun e => hq q4 ⟨y, hn, e⟩)] at hp
        cases hp
    · obtain rfl := hD hq
      exact ⟨113, rfl⟩
theorem box_lies (w : World) (x : Zq.Nd) : Lies (w.alloc (.cells #[.int .i64 x.op, .int .i64 x.int, .int .i64 x.a, .int .i64 x.b, .string (strOf x.text)] 37)) w.heap.size 37 (ncell x) := Lies.new_ rfl
set_option maxHeartbeats 8000000 in
set_option maxRecDepth 100000 in
theorem atom_ok {d : Nat} (hAdv : AdvOk) (hd : d ≤ 16) (hin : ∀ d', d = d' + 1 → LevOk 6 82 d') : LevOk 0 140 d := by
  intro W R S l ns w h
  have hN := next_any hAdv h
  have H48 : Hid (ns.length ≤ 48) := h.le.2
  clear h
  obtain ⟨D, eD⟩ : ∃ D, 16 - d = D := ⟨_, rfl⟩
  obtain ⟨M, eM⟩ : ∃ M, 50 + 8 * d + 0 = M := ⟨_, rfl⟩
  obtain ⟨res, eres⟩ : ∃ res, Zq.row d 0 (l, ns) = res := ⟨_, rfl⟩
  rw [eD, eM, eres]
  rw [eD] at hN
  have HA := Lib.hid hAdv
  have HRES : Hid (res = Zq.atom (inOf d 6) (l, ns)) := by unfold Hid; rw [← eres, row_atom]
  have HM : Hid (50 ≤ M ∧ M ≤ 178) := ⟨by omega, by omega⟩
  have HD : Hid ((D = 16 → d = 0) ∧ (D < 16 → ∃ d', d = d' + 1)) := ⟨fun h => by omega, fun h => ⟨d - 1, by omega⟩⟩
  have HOR : Hid (∀ d', d = d' + 1 → 50 + 8 * d' + 6 + 1 ≤ M ∧ (∀ l ns w, Rok W R S l (D + 1) ns w → Calls Tryz.prog 82 #[rp R] w (REnd W R S (D + 1) (50 + 8 * d' + 6) 6 ns.length (Zq.row d' 6 (l, ns)))) ∧
      (∀ kx l ns w, Rok W R S l (D + 1) ns w → Calls Tryz.prog 143 #[rp R, .int .i64 ((kx : Nat) : Int)] w (ArgEnd W R S (D + 1) (50 + 8 * d' + 6) ns.length (argsP (Zq.row d' 6) kx (l, ns))))) := fun d' e => by
    subst e
    have e16 : 16 - d' = D + 1 := by omega
    rw [← e16]
    exact ⟨by omega, hin d' rfl W R S, fun kx l ns w h => arguments_any hAdv kx (by omega) (hin d' rfl) h⟩
  have hf1 := tok_field1
  have hf2 := tok_field2
  clear hAdv hin eD eM eres hd
  go_enter Tryz.func140, Tryz.ntmps140
  go_wp2_with fail
  refine hN.mono ?_
  rintro e w1 ⟨_, ⟨x, q, hx, rfl, h1⟩ | ⟨hx, rfl, h1⟩⟩
  rotate_left
  · have hF := fail_rf (c := 111) h1
    have HE : Hid (∀ w2, Rf W R S ns.length w2 → REnd W R S D M 0 ns.length res (.returned (.int .i64 0)) w2) := fun w2 h => .inr ⟨111, by rw [HRES.out, atom_none hx], ⟨_, rfl⟩, h.le (by have := H48.out; have := HM.out; omega)⟩
    clear hN h1 hx
    go_wp2_with fail
    refine hF.mono ?_
    rintro e w2 ⟨rfl, h2, _⟩
    have HE2 := Lib.hid (HE.out w2 h2)
    clear hF h2
    go_wp2
    go_ret
    exact HE2.out
  clear hN
  have HX := Lib.hid hx
  obtain ⟨g1, g2⟩ := Zq.next_good hx
  have g3 := (Zq.kOf_lt x).1
  have H1 := Lib.hid h1
  have hT := take_rex h1
  have hF := fail_rex (c := 111) (by decide) h1
  obtain ⟨k, ek⟩ : ∃ k, Zq.kOf x = k := ⟨_, rfl⟩
  have EK := Lib.hid ek
  rw [ek] at g1 g2 g3 hT ⊢
  clear h1 hx ek
  by_cases h3 : k = 3
  · subst h3
    have HR1 := Lib.hid (atom_text (inner := inOf d 6) (ns := ns) HX.out EK.out)
    clear hF g1 g2 g3
    go_wp2_with fail
    refine hT.mono ?_
    rintro e w2 ⟨rfl, h2, _⟩
    have hO := node_rok ⟨1, 0, 0, 0, Zq.kText x⟩ h2
    clear hT h2
    go_wp2_with fail
    refine hO.mono ?_
    intro e w3 hh
    have hh := add_end (mb := M) (d := D) (n0 := ns.length) (HRES.out.trans HR1.out) (Nat.le_refl _) (by have := HM.out; omega) hh
    obtain ⟨a, rfl⟩ := hh.form
    have HE := Lib.hid hh
    clear hO hh
    go_wp2
    go_ret
    exact HE.out
  by_cases h4 : k = 4
  · subst h4
    have HR1 := Lib.hid (atom_num (inner := inOf d 6) (ns := ns) HX.out EK.out)
    clear hF g1 g2 g3
    go_wp2_with fail
    refine hT.mono ?_
    rintro e w2 ⟨rfl, h2, _⟩
    have hO := node_rok ⟨2, (Zq.kNum x : Nat), 0, 0, []⟩ h2
    clear hT h2
    go_wp2_with fail
    refine hO.mono ?_
    intro e w3 hh
    have hh := add_end (mb := M) (d := D) (n0 := ns.length) (HRES.out.trans HR1.out) (Nat.le_refl _) (by have := HM.out; omega) hh
    obtain ⟨a, rfl⟩ := hh.form
    have HE := Lib.hid hh
    clear hO hh
    go_wp2
    go_ret
    exact HE.out
  by_cases h5 : k = 5
  · subst h5
    have HR1 := Lib.hid (atom_claim (inner := inOf d 6) (ns := ns) HX.out EK.out)
    have hC := claim_any HA.out (H1.out.ok HX.out)
    clear hF hT g1 g2 g3
    go_wp2_with fail
    refine hC.mono ?_
    rintro e w2 ⟨_, ⟨t, q2, hc, rfl, h2⟩ | ⟨hc, ⟨s, rfl⟩, h2⟩⟩
    · have hO := node_rok ⟨3, 0, 0, 0, t⟩ h2
      have HR2 : Hid (res = Zq.add ⟨3, 0, 0, 0, t⟩ (q2, ns)) := by unfold Hid; rw [HRES.out, HR1.out, hc]
      clear hC h2 hc
      go_wp2_with fail
      refine hO.mono ?_
      intro e w3 hh
      have hh := add_end (mb := M) (d := D) (n0 := ns.length) HR2.out (Nat.le_refl _) (by have := HM.out; omega) hh
      obtain ⟨a, rfl⟩ := hh.form
      have HE := Lib.hid hh
      clear hO hh
      go_wp2
      go_ret
      exact HE.out
    · have hO := node_rf ⟨3, 0, 0, 0, numsOf s⟩ (by have := H48.out; omega) h2
      rw [ndv, strOf_numsOf] at hO
      have HE : Hid (∀ a w3, Rf W R S (ns.length + 1) w3 → REnd W R S D M 0 ns.length res (.returned (.int .i64 a)) w3) := fun a w3 h => .inr ⟨111, by rw [HRES.out, HR1.out, hc], ⟨_, rfl⟩, h.le (by have := H48.out; have := HM.out; omega)⟩
      clear hC h2 hc
      go_wp2_with fail
      refine hO.mono ?_
      rintro e w3 ⟨⟨a, rfl⟩, h3⟩
      have HE3 := Lib.hid (HE.out a w3 h3)
      clear hO h3
      go_wp2
      go_ret
      exact HE3.out
  by_cases h6 : k = 6
  · subst h6
    have HR1 := Lib.hid (atom_open (inner := inOf d 6) (ns := ns) HX.out EK.out)
    have hO := open_any HA.out 6 (by decide) (H1.out.ok HX.out)
    have HH : Hid (Here 6 l q) := ⟨x, HX.out, EK.out⟩
    clear hF hT g1 g2 g3
    go_wp2_with fail
    refine hO.mono ?_
    rintro e w2 ⟨rfl, _, ⟨q2, hq, hlt, h2⟩ | ⟨hq, h2⟩⟩
    rotate_left
    · have hC := or_rf h2
      have HE : Hid (∀ a w3, Rf W R S ns.length w3 → REnd W R S D M 0 ns.length res (.returned (.int .i64 a)) w3) := fun a w3 h => .inr ⟨113, by
        rcases hq with hq | hq
        · exact absurd HH.out (hq q)
        · obtain rfl := HD.out.1 hq
          rw [HRES.out, HR1.out]; rfl, ⟨_, rfl⟩, h.le (by have := H48.out; have := HM.out; omega)⟩
      clear hO h2 hq
      go_wp2_with fail
      refine hC.mono ?_
      rintro e w3 ⟨⟨a, rfl⟩, h3⟩
      have hCl := close_rf h3
      clear hC h3
      go_wp2_with fail
      refine hCl.mono ?_
      rintro e w4 ⟨rfl, h4, _⟩
      have HE3 := Lib.hid (HE.out a w4 h4)
      clear hCl h4
      go_wp2
      go_ret
      exact HE3.out
    obtain rfl := here_one HH.out hq
    obtain ⟨d', rfl⟩ := HD.out.2 hlt
    obtain ⟨m1, m2, _⟩ := HOR.out d' rfl
    have hC := m2 q ns w2 h2
    have HM1 : Hid (50 + 8 * d' + 6 + 1 ≤ M) := m1
    clear hO h2 hq hlt m2 m1
    go_wp2_with fail
    refine hC.mono ?_
    intro e w3 hh
    clear hC
    rcases hh with ⟨a, l3, ns3, hres, rfl, h3, hle, _⟩ | ⟨er, hres, ⟨a, rfl⟩, h3⟩
    · have hCl := close_any HA.out h3
      have HR2 : Hid (res = match Zq.past [41] l3 with
        | .error e => .error e
        | .ok l4 => .ok (a, (l4, ns3))) := by
        unfold Hid
        rw [HRES.out, HR1.out]
        simp only [inOf]
        rw [hres]
        rfl
      have HLE : Hid (ns.length ≤ ns3.length ∧ ns3.length ≤ 48) := ⟨hle, h3.le.2⟩
      clear h3 hres hle
      go_wp2_with fail
      refine hCl.mono ?_
      rintro e w4 ⟨rfl, _, ⟨q4, ⟨y, hy, hk⟩, h4⟩ | ⟨hq, h4⟩⟩
      · have HE : Hid (REnd W R S D M 0 ns.length res (.returned (.int .i64 a)) w4) := .inl ⟨a, q4, ns3, by rw [HR2.out, Zq.past_some (n := 7) (by decide) hy, if_pos hk], rfl, h4, HLE.out.1, fun h => absurd rfl h⟩
        clear hCl h4 hy hk
        go_wp2
        go_ret
        exact HE.out
      · have HE : Hid (REnd W R S D M 0 ns.length res (.returned (.int .i64 a)) w4) := by
          refine .inr ⟨111, ?_, ⟨_, rfl⟩, h4.le (by have := HLE.out; have := HM.out; omega)⟩
          rw [HR2.out]
          cases hn : Zq.next l3 with
          | none => rw [Zq.past_none hn]
          | some y =>
            obtain ⟨y, q4⟩ := y
            rw [Zq.past_some (n := 7) (by decide) hn, if_neg (fun e => hq q4 ⟨y, hn, e⟩)]
        clear hCl h4 hq
        go_wp2
        go_ret
        exact HE.out
    · have hCl := close_rf h3
      have HE : Hid (∀ w4, Rf W R S (50 + 8 * d' + 6) w4 → REnd W R S D M 0 ns.length res (.returned (.int .i64 a)) w4) := fun w4 h => .inr ⟨er, by
        rw [HRES.out, HR1.out]
        simp only [inOf]
        rw [hres], ⟨_, rfl⟩, h.le (by have := HM1.out; omega)⟩
      clear h3 hres
      go_wp2_with fail
      refine hCl.mono ?_
      rintro e w4 ⟨rfl, h4, _⟩
      have HE4 := Lib.hid (HE.out w4 h4)
      clear hCl h4
      go_wp2
      go_ret
      exact HE4.out
  by_cases h22 : 22 ≤ k
  rotate_left
  · have HR1 := Lib.hid (atom_else (inner := inOf d 6) (ns := ns) HX.out (by rw [EK.out]; omega))
    have d3 : ((k : Int) == 3) = false := ne_int (by omega)
    have d4 : ((k : Int) == 4) = false := ne_int (by omega)
    have d5 : ((k : Int) == 5) = false := ne_int (by omega)
    have d6 : ((k : Int) == 6) = false := ne_int (by omega)
    have d26 : ((k : Int) == 26) = false := ne_int (by omega)
    have d22 : ((k : Int) == 22) = false := ne_int (by omega)
    have d23 : ((k : Int) == 23) = false := ne_int (by omega)
    have d24 : ((k : Int) == 24) = false := ne_int (by omega)
    have d25 : ((k : Int) == 25) = false := ne_int (by omega)
    have d27 : ((k : Int) == 27) = false := ne_int (by omega)
    have HE : Hid (∀ w2, Rf W R S ns.length w2 → REnd W R S D M 0 ns.length res (.returned (.int .i64 0)) w2) := fun w2 h => .inr ⟨111, by rw [HRES.out, HR1.out], ⟨_, rfl⟩, h.le (by have := H48.out; have := HM.out; omega)⟩
    clear hT g1 g2 g3 h3 h4 h5 h6 h22
    go_wp2_with fail
    refine hF.mono ?_
    rintro e w2 ⟨rfl, h2, _⟩
    have HE2 := Lib.hid (HE.out w2 h2)
    clear hF h2
    go_wp2
    go_ret
    exact HE2.out
  have HR1 : Hid (res = fnP (inOf d 6) k (q, ns)) := by unfold Hid; rw [HRES.out, atom_fn (inner := inOf d 6) (ns := ns) HX.out (by rw [EK.out]; exact h22) (by rw [EK.out]; omega), EK.out]
  clear hF g1 g2 h3 h4 h5 h6
  rcases (by omega : k = 22 ∨ k = 23 ∨ k = 24 ∨ k = 25 ∨ k = 26 ∨ k = 27) with rfl | rfl | rfl | rfl | rfl | rfl
  all_goals
    clear g3 h22
    go_wp2_with fail
    refine hT.mono ?_
    rintro e w2 ⟨rfl, h2, _⟩
    have hO := open_any HA.out 6 (by decide) h2
    clear hT h2
    go_wp2_with fail
    refine hO.mono ?_
    rintro e w3 ⟨rfl, _, ⟨q2, ⟨y, hy, hk⟩, hlt, h3⟩ | ⟨hq, h3⟩⟩
    · obtain ⟨d', rfl⟩ := HD.out.2 hlt
      obtain ⟨m1, _, m3⟩ := HOR.out d' rfl
      have hC := m3 (Zq.kOf x) q2 ns w3 h3
      rw [EK.out] at hC
      have HM1 : Hid (50 + 8 * d' + 6 + 1 ≤ M) := m1
      have HR2 := Lib.hid (fn_on (f := Zq.row d' 6) (HR1.out.trans rfl) hy hk)
      clear hO h3 hy hk hlt m3 m1 HR1
      go_wp2_with fail
      refine hC.mono ?_
      intro e w4 hh
      clear hC
      rcases hh with ⟨nd, l4, ns4, hres, rfl, h4, hle⟩ | ⟨er, hres, ⟨nd, rfl⟩, h4⟩
      · have hCl := close_any HA.out (h4.more (box_below w4 (.cells #[.int .i64 nd.op, .int .i64 nd.int, .int .i64 nd.a, .int .i64 nd.b, .string (strOf nd.text)] 37)))
        have HR3 : Hid (res = match Zq.past [41] l4 with
          | .error e => .error e
          | .ok l5 => Zq.add nd (l5, ns4)) := by
          unfold Hid
          rw [HR2.out, hres]
        have HLE : Hid (ns.length ≤ ns4.length ∧ ns4.length ≤ 48) := ⟨hle, h4.le.2⟩
        have HB0 : Hid (w4.heap.size ≠ R ∧ w4.heap.size ≠ S) := h4.fresh.2.2
        clear h4 hres hle
        go_wp2_with fail
        refine hCl.mono ?_
        rintro e w5 ⟨rfl, hfr, hh⟩
        have hl2 := hfr.lies (box_lies w4 nd) HB0.out.1 HB0.out.2
        obtain ⟨⟨b0, b1, b2, b3, b4⟩, _⟩ := hl2.five
        clear hCl hfr hl2
        rcases hh with ⟨q4, ⟨y, hy, hk⟩, h5⟩ | ⟨hq, h5⟩
        · have hX := node_rok nd h5
          have HR4 : Hid (res = Zq.add nd (q4, ns4)) := by unfold Hid; rw [HR3.out, Zq.past_some (n := 7) (by decide) hy, if_pos hk]
          clear h5 hy hk
          go_wp2_with fail
          refine hX.mono ?_
          intro e w6 hh
          have hh := add_end (mb := M) (d := D) (n0 := ns.length) HR4.out HLE.out.1 (by have := HM.out; omega) hh
          obtain ⟨a, rfl⟩ := hh.form
          have HE := Lib.hid hh
          clear hX hh
          go_wp2
          go_ret
          exact HE.out
        · have hX := node_rf nd (by have := HLE.out; omega) h5
          have HE : Hid (∀ a w6, Rf W R S (ns4.length + 1) w6 → REnd W R S D M 0 ns.length res (.returned (.int .i64 a)) w6) := fun a w6 h => by
            refine .inr ⟨111, ?_, ⟨_, rfl⟩, h.le (by have := HLE.out; have := HM.out; omega)⟩
            rw [HR3.out]
            cases hn : Zq.next l4 with
            | none => rw [Zq.past_none hn]
            | some y =>
              obtain ⟨y, q4⟩ := y
              rw [Zq.past_some (n := 7) (by decide) hn, if_neg (fun e => hq q4 ⟨y, hn, e⟩)]
          clear h5 hq
          go_wp2_with fail
          refine hX.mono ?_
          rintro e w6 ⟨⟨a, rfl⟩, h6⟩
          have HE6 := Lib.hid (HE.out a w6 h6)
          clear hX h6
          go_wp2
          go_ret
          exact HE6.out
      · have hCl := close_rf (h4.more (box_below w4 (.cells #[.int .i64 nd.op, .int .i64 nd.int, .int .i64 nd.a, .int .i64 nd.b, .string (strOf nd.text)] 37)))
        have HERR : Hid (res = .error er) := by unfold Hid; rw [HR2.out, hres]
        have HB0 : Hid (w4.heap.size ≠ R ∧ w4.heap.size ≠ S) := h4.fresh.2.2
        clear h4 hres
        go_wp2_with fail
        refine hCl.mono ?_
        rintro e w5 ⟨rfl, h5, hfr⟩
        have hl2 := hfr.lies (box_lies w4 nd) HB0.out.1 HB0.out.2
        obtain ⟨⟨b0, b1, b2, b3, b4⟩, _⟩ := hl2.five
        have hX := node_rf nd (by have := HM1.out; have := HM.out; omega) h5
        clear hCl hfr hl2 h5
        go_wp2_with fail
        refine hX.mono ?_
        rintro e w6 ⟨⟨a, rfl⟩, h6⟩
        have HE6 : Hid (REnd W R S D M 0 ns.length res (.returned (.int .i64 a)) w6) := .inr ⟨er, HERR.out, ⟨_, rfl⟩, h6.le HM1.out⟩
        clear hX h6
        go_wp2
        go_ret
        exact HE6.out
    · have hC := arguments_rf (Zq.kOf x) h3
      rw [EK.out] at hC
      have HE : Hid (∀ a w6, Rf W R S (ns.length + 1) w6 → REnd W R S D M 0 ns.length res (.returned (.int .i64 a)) w6) := fun a w6 h => by
        obtain ⟨er, her⟩ := fn_off (fun h => HD.out.1 h) HR1.out hq
        exact .inr ⟨er, her, ⟨_, rfl⟩, h.le (by have := H48.out; have := HM.out; omega)⟩
      clear hO h3 hq HR1
      go_wp2_with fail
      refine hC.mono ?_
      rintro e w4 ⟨⟨nd, rfl⟩, h4⟩
      have hCl := close_rf (h4.more (box_below w4 (.cells #[.int .i64 nd.op, .int .i64 nd.int, .int .i64 nd.a, .int .i64 nd.b, .string (strOf nd.text)] 37)))
      have HB0 : Hid (w4.heap.size ≠ R ∧ w4.heap.size ≠ S) := h4.fresh.2.2
      clear hC h4
      go_wp2_with fail
      refine hCl.mono ?_
      rintro e w5 ⟨rfl, h5, hfr⟩
      have hl2 := hfr.lies (box_lies w4 nd) HB0.out.1 HB0.out.2
      obtain ⟨⟨b0, b1, b2, b3, b4⟩, _⟩ := hl2.five
      have hX := node_rf nd (by have := H48.out; omega) h5
      clear hCl hfr hl2 h5
      go_wp2_with fail
      refine hX.mono ?_
      rintro e w6 ⟨⟨a, rfl⟩, h6⟩
      have HE6 := Lib.hid (HE.out a w6 h6)
      clear hX h6
      go_wp2
      go_ret
      exact HE6.out

/-- All levels keep their word, at all depths. -/
theorem levels_ok (hAdv : AdvOk) : ∀ d, d ≤ 16 → LevOk 6 82 d ∧ LevOk 4 110 d
  | 0, hd => by
    have h0 := atom_ok (d := 0) hAdv hd (fun d' e => by cases e)
    have h1 := choice_ok hAdv hd h0
    have h2 := sum_ok hAdv hd h1
    have h3 := comparison_ok hAdv hd h2
    have h4 := not_ok hAdv hd h3 (fun d' e => by cases e)
    have h5 := and_ok hAdv hd h4
    exact ⟨or_ok hAdv hd h5, h4⟩
  | d + 1, hd => by
    obtain ⟨i6, i4⟩ := levels_ok hAdv d (by omega)
    have h0 := atom_ok (d := d + 1) hAdv hd (fun d' e => by cases e; exact i6)
    have h1 := choice_ok hAdv hd h0
    have h2 := sum_ok hAdv hd h1
    have h3 := comparison_ok hAdv hd h2
    have h4 := not_ok hAdv hd h3 (fun d' e => by cases e; exact i4)
    have h5 := and_ok hAdv hd h4
    exact ⟨or_ok hAdv hd h5, h4⟩
end Go.Proofs.YthhlmalpelgpeaaGreatDoor
