/-
  G04: ZE ZH, side by side.
-/
import Derived.Test.YthhlmalpelgpeaaGreatDoorG03

/-
  The reader of rules: the chain of one level's operators; all levels behind a fault.
-/
namespace Go.Proofs.YthhlmalpelgpeaaGreatDoor
open Go.RowKit

/-- Some number, and a reader that has met a fault. -/
def FEnd (W : Cx) (R S m : Nat) (e : Ending) (w' : World) : Prop := (∃ a, e = .returned (.int .i64 a)) ∧ Rf W R S m w'
/-- How a level's reading ends. (k = 0: next to the atoms, where the token behind need not be examined.) -/
def REnd (W : Cx) (R S d mb k n0 : Nat) (res : Except Nat (Int × Zq.St)) (e : Ending) (w' : World) : Prop :=
  (∃ a l' ns', res = .ok (a, (l', ns')) ∧ e = .returned (.int .i64 a) ∧ Rok W R S l' d ns' w' ∧ n0 ≤ ns'.length ∧ (k ≠ 0 → ∃ y q, Zq.next l' = some (y, q))) ∨ (∃ er, res = .error er ∧ FEnd W R S mb e w')
abbrev rp (R : Nat) : Value := .pointer (some ⟨R, 0, none⟩)
/-- A level's chain, plain. -/
def chainP (f : Zq.PS) (lv : Nat) (s : Zq.St) : Except Nat (Int × Zq.St) :=
  match f s with
  | .error e => .error e
  | .ok (left, s2) => Zq.loop f lv 49 left s2
/-- How much may yet be read: nothing behind a fault. -/
def meas (R : Nat) (w : World) : Nat :=
  match w.cell? ⟨R, 6, none⟩, w.cell? ⟨R, 4, none⟩ with
  | some (.int _ f), some (.slice _ n _) => if f = 0 then 50 - n else 0
  | _, _ => 0
section
variable {W : Cx} {w : World} {R S d m : Nat} {l : List Nat} {ns : List Zq.Nd}
theorem Rok.meas (h : Rok W R S l d ns w) : meas R w = 50 - ns.length := by
  obtain ⟨k, t, n, nv, s, h1, h2, h3, h⟩ := h
  obtain ⟨_, _, _, _, c4, _, c6⟩ := h.cells
  obtain ⟨A, c, rfl⟩ := own_slice h.own
  unfold Go.Proofs.YthhlmalpelgpeaaGreatDoor.meas
  rw [c4, c6]
  simp
theorem Rf.meas (h : Rf W R S m w) : meas R w = 0 := by
  obtain ⟨k, t, n, nv, d, f, s, ns, h1, h2, h⟩ := h
  obtain ⟨_, _, _, _, c4, _, c6⟩ := h.cells
  obtain ⟨A, c, rfl⟩ := own_slice h.own
  unfold Go.Proofs.YthhlmalpelgpeaaGreatDoor.meas
  rw [c4, c6]
  simp [h1]
theorem Rex.le {x : Zq.Tok} {q : List Nat} (h : Rex W R S x q d ns w) : d ≤ 16 ∧ ns.length ≤ 48 := by
  obtain ⟨nv, s, _, h2, h3, _⟩ := h
  exact ⟨h2, h3⟩

set_option maxHeartbeats 1000000 in
set_option maxRecDepth 100000 in
theorem chain_rf (F kd : Nat) (hE : ∀ args w, (callFunc F args).run Tryz.prog w = .ok (.enter F args) w) (hk : 2 ≤ kd) (op : Int) (hF : ∀ w, Rf W R S m w → Calls Tryz.prog F #[rp R] w (FEnd W R S m)) (h : Rf W R S m w) :
    Calls Tryz.prog 95 #[rp R, .int .i64 (kd : Int), .int .i64 op, .func (.func F) #[rp R] #[]] w (FEnd W R S m) := by
  have hC := hF w h
  have hT := fun w' (h' : Rf W R S m w') => takes_rf kd hk h'
  clear hF h
  go_enter Tryz.func95, Tryz.ntmps95
  go_wp2_with fail
  refine hC.mono ?_
  rintro e w1 ⟨⟨a, rfl⟩, h1⟩
  clear hC
  go_wp2_with fail
  go_loopw [9] (fun v wr => ∃ a : Int, v = .int .i64 a ∧ Rf W R S m wr) (fun _ _ => 0)
  case atStart => exact ⟨a, rfl, h1⟩
  case round =>
    obtain ⟨b, rfl, hr⟩ := hrel
    have hT1 := hT wr hr
    have HR := Lib.hid hr
    clear hT hr h1
    go_wp2_with fail
    refine hT1.mono ?_
    rintro e w2 ⟨rfl, rfl⟩
    clear hT1
    go_wp2
    go_ret
    exact ⟨⟨_, rfl⟩, HR.out⟩

/-- What a chain has read so far. -/
def ChRel (W : Cx) (R S d mb n0 : Nat) (f : Zq.PS) (lv : Nat) (res : Except Nat (Int × Zq.St)) (a : Int) (wr : World) : Prop :=
  (∃ l ns n, Rok W R S l d ns wr ∧ 49 ≤ ns.length + n ∧ n0 ≤ ns.length ∧ res = Zq.loop f lv n a (l, ns)) ∨ (∃ er, res = .error er ∧ Rf W R S mb wr)
set_option maxHeartbeats 4000000 in
set_option maxRecDepth 100000 in
theorem chain_any (hAdv : AdvOk) (F kd lv mb : Nat) (hE : ∀ args w, (callFunc F args).run Tryz.prog w = .ok (.enter F args) w) (hk : 2 ≤ kd) (op : Int) {wd : List Nat} (f : Zq.PS) (hops : Zq.opsAt lv = [(wd, op)]) (hwd : (wd, kd) ∈ Zq.kinds) (hlv : lv ≠ 3) (hop : op ≠ 0) (hmb : 50 ≤ mb) (hmb2 : mb ≤ 900) {kf : Nat}
    (hF : ∀ l ns w, Rok W R S l d ns w → Calls Tryz.prog F #[rp R] w (REnd W R S d mb kf ns.length (f (l, ns))))
    (hFf : ∀ m w, m ≤ 1000 → Rf W R S m w → Calls Tryz.prog F #[rp R] w (FEnd W R S m)) (h : Rok W R S l d ns w) :
    Calls Tryz.prog 95 #[rp R, .int .i64 (kd : Int), .int .i64 op, .func (.func F) #[rp R] #[]] w (REnd W R S d (mb + 1) 1 ns.length (chainP f lv (l, ns))) := by
  have hC := hF l ns w h
  obtain ⟨n0, en0⟩ : ∃ n0, ns.length = n0 := ⟨_, rfl⟩
  obtain ⟨res, eres⟩ : ∃ res, chainP f lv (l, ns) = res := ⟨_, rfl⟩
  rw [en0, eres]
  rw [en0] at hC
  have HF : Hid (∀ l ns w, Rok W R S l d ns w → Calls Tryz.prog F #[rp R] w (REnd W R S d mb kf ns.length (f (l, ns)))) := hF
  have HFf : Hid (∀ m w, m ≤ 1000 → Rf W R S m w → Calls Tryz.prog F #[rp R] w (FEnd W R S m)) := hFf
  have HA := Lib.hid hAdv
  have HRES := Lib.hid eres
  have HOPS := Lib.hid hops
  have HWD := Lib.hid hwd
  have HOP : Hid (op ≠ 0) := hop
  have HLV : Hid (lv ≠ 3) := hlv
  clear hF hFf h hAdv eres hops hwd hop hlv en0
  go_enter Tryz.func95, Tryz.ntmps95
  go_wp2_with fail
  refine hC.mono ?_
  intro e w1 hh
  obtain ⟨a, rfl, hst⟩ : ∃ a, e = .returned (.int .i64 a) ∧ ChRel W R S d (mb + 1) n0 f lv res a w1 := by
    rcases hh with ⟨a, l1, ns1, hres, rfl, h1, h2, _⟩ | ⟨er, hres, ⟨a, rfl⟩, h1⟩
    · refine ⟨a, rfl, .inl ⟨l1, ns1, 49, h1, by omega, h2, ?_⟩⟩
      rw [← HRES.out, chainP, hres]
    · refine ⟨a, rfl, .inr ⟨er, ?_, h1.le (by omega)⟩⟩
      rw [← HRES.out, chainP, hres]
  clear hC hh
  go_wp2_with fail
  go_loopw [9] (fun v wr => ∃ a : Int, v = .int .i64 a ∧ ChRel W R S d (mb + 1) n0 f lv res a wr) (fun _ wr => meas R wr)
  case atStart => exact ⟨a, rfl, hst⟩
  case round =>
    obtain ⟨left, rfl, hr⟩ := hrel
    clear hst
    rcases hr with ⟨l2, ns2, n, h2, hn, hn0, hres⟩ | ⟨er, hres, h2⟩
    rotate_left
    · have hT := takes_rf kd hk h2
      have HE : Hid (REnd W R S d (mb + 1) 1 n0 res (.returned (.int .i64 left)) wr) := .inr ⟨er, hres, ⟨_, rfl⟩, h2⟩
      clear h2 hres
      go_wp2_with fail
      refine hT.mono ?_
      rintro e w2 ⟨rfl, rfl⟩
      clear hT
      go_wp2
      go_ret
      exact HE.out
    obtain ⟨_, h48⟩ := h2.le
    obtain ⟨n, rfl⟩ : ∃ n', n = n' + 1 := ⟨n - 1, by omega⟩
    have HM := Lib.hid h2.meas
    have hT := takes_any HA.out kd hk h2
    have HN2 : Hid (49 ≤ ns2.length + (n + 1)) := hn
    have HN0 : Hid (n0 ≤ ns2.length) := hn0
    have H48 : Hid (ns2.length ≤ 48) := h48
    have HR2 := Lib.hid hres
    clear h2 hn hn0 hres h48
    go_wp2_with fail
    refine hT.mono ?_
    rintro e w2 ⟨_, ⟨x, q, hx, hkx, rfl, h3⟩ | ⟨x, q, hx, hkx, rfl, h3⟩ | ⟨hx, rfl, h3⟩⟩
    rotate_left
    · have HE : Hid (REnd W R S d (mb + 1) 1 n0 res (.returned (.int .i64 left)) w2) := .inl ⟨left, l2, ns2, by rw [HR2.out, Zq.loop_stop HOPS.out HWD.out hx hkx], rfl, h3.ok hx, HN0.out, fun _ => ⟨x, q, hx⟩⟩
      clear hT h3 hx hkx
      go_wp2
      go_ret
      exact HE.out
    · have HE : Hid (REnd W R S d (mb + 1) 1 n0 res (.returned (.int .i64 left)) w2) := .inr ⟨111, by rw [HR2.out, Zq.loop_none (by rw [HOPS.out]; simp) hx], ⟨_, rfl⟩, h3.le (by have := H48.out; omega)⟩
      clear hT h3 hx
      go_wp2
      go_ret
      exact HE.out
    have hC := HF.out q ns2 w2 h3
    have HON := Lib.hid (Zq.loop_on (f := f) (n := n) (left := left) (ns := ns2) HOPS.out HLV.out HOP.out HWD.out hx hkx)
    clear hT h3 hx hkx
    go_wp2_with fail
    refine hC.mono ?_
    intro e w3 hh
    clear hC
    rcases hh with ⟨right, l3, ns3, hres, rfl, h3, hle, _⟩ | ⟨er, hres, ⟨right, rfl⟩, h3⟩
    · have hO := operation_any HA.out ⟨op, 0, left, right, []⟩ h3
      have h348 := h3.le.2
      have HLE : Hid (ns2.length ≤ ns3.length ∧ ns3.length ≤ 48) := ⟨hle, h348⟩
      have HRES3 : Hid (res = match Zq.add ⟨op, 0, left, right, []⟩ (l3, ns3) with
        | .error e => .error e
        | .ok (i, s3) => Zq.loop f lv n i s3) := by unfold Hid; rw [HR2.out, HON.out, hres]; rfl
      clear hres h3 hle h348
      go_wp2_with fail
      refine hO.mono ?_
      intro e w4 hh
      clear hO
      rcases hh with ⟨y, q3, hy, hlt, rfl, h4⟩ | ⟨hor, ⟨i, rfl⟩, h4⟩
      · have HQ : Hid (∃ a : Int, Value.int .i64 (ns3.length : Nat) = .int .i64 a ∧ ChRel W R S d (mb + 1) n0 f lv res a w4) := by
          refine ⟨_, rfl, .inl ⟨l3, ns3 ++ [⟨op, 0, left, right, []⟩], n, h4, ?_, ?_, ?_⟩⟩
          · have := HN2.out; have := HLE.out; simp; omega
          · have := HN0.out; have := HLE.out; simp; omega
          · rw [HRES3.out, Zq.add, if_neg (by simp; omega)]
        have HM2 : Hid (meas R w4 < meas R wr) := by
          unfold Hid
          rw [h4.meas, HM.out]
          have := HLE.out
          simp; omega
        clear hy h4
        go_wp2
        go_roundw
        case rel => exact HQ.out
        case measure => exact HM2.out
      · have HQ : Hid (∃ a : Int, Value.int .i64 i = .int .i64 a ∧ ChRel W R S d (mb + 1) n0 f lv res a w4) := by
          refine ⟨i, rfl, .inr ?_⟩
          by_cases hfull : ns3.length = 48
          · refine ⟨112, ?_, h4.le (by omega)⟩
            rw [HRES3.out, Zq.add, if_pos (by simp; omega)]
          · rcases hor with hor | hor
            · refine ⟨111, ?_, h4.le (by have := HLE.out; omega)⟩
              have h1 := HLE.out
              have h2 := HN2.out
              obtain ⟨n', rfl⟩ : ∃ n', n = n' + 1 := ⟨n - 1, by omega⟩
              rw [HRES3.out, Zq.add, if_neg (by simp; omega)]
              exact Zq.loop_none (by rw [HOPS.out]; simp) hor
            · exact absurd hor hfull
        have HM2 : Hid (meas R w4 < meas R wr) := by
          unfold Hid
          rw [h4.meas, HM.out]
          have := H48.out
          omega
        clear hor h4
        go_wp2
        go_roundw
        case rel => exact HQ.out
        case measure => exact HM2.out
    · have hO := operation_rf ⟨op, 0, left, right, []⟩ (by omega) h3
      have HERR : Hid (res = .error er) := by unfold Hid; rw [HR2.out, HON.out, hres]
      clear hres h3
      go_wp2_with fail
      refine hO.mono ?_
      rintro e w4 ⟨⟨i, rfl⟩, h4⟩
      clear hO
      have HQ : Hid (∃ a : Int, Value.int .i64 i = .int .i64 a ∧ ChRel W R S d (mb + 1) n0 f lv res a w4) := ⟨i, rfl, .inr ⟨er, HERR.out, h4⟩⟩
      have HM2 : Hid (meas R w4 < meas R wr) := by
        unfold Hid
        rw [h4.meas, HM.out]
        have := H48.out
        omega
      clear h4
      go_wp2
      go_roundw
      case rel => exact HQ.out
      case measure => exact HM2.out
end
end Go.Proofs.YthhlmalpelgpeaaGreatDoor

/-
  The reader of rules: the levels behind a fault; the levels of a chain, of a comparison, of not.
-/
namespace Go.Proofs.YthhlmalpelgpeaaGreatDoor
open Go.RowKit

theorem mf_any : ∀ (fn : Fn) (first cap : Array Value) (w : World), (Instr.makeFunc fn first cap).run Tryz.prog w = .ok (.func fn first cap) w := fun _ _ _ _ => rfl
section
variable {W : Cx} {w : World} {R S d m : Nat} {l : List Nat} {ns : List Zq.Nd}
set_option maxHeartbeats 1000000 in
set_option maxRecDepth 100000 in
theorem atom_rf (h : Rf W R S m w) : Calls Tryz.prog 140 #[rp R] w (FEnd W R S m) := by
  have hN := next_rf h
  have hF := fail_rf (c := 111) h
  clear h
  go_enter Tryz.func140, Tryz.ntmps140
  go_wp2_with fail
  refine hN.mono ?_
  rintro e w1 ⟨rfl, rfl⟩
  clear hN
  go_wp2_with fail
  refine hF.mono ?_
  rintro e w2 ⟨rfl, h2, _⟩
  have HE := Lib.hid h2
  clear hF h2
  go_wp2
  go_ret
  exact ⟨⟨_, rfl⟩, HE.out⟩
set_option maxRecDepth 100000 in
theorem choice_rf (h : Rf W R S m w) : Calls Tryz.prog 139 #[rp R] w (FEnd W R S m) := by
  have hC := chain_rf 140 21 (by intro args w; kernel_rfl) (by decide) 16 (fun w h => atom_rf h) h
  have hmf := mf_any
  clear h
  go_enter Tryz.func139, Tryz.ntmps139
  go_wp2_with fail
  refine hC.mono ?_
  rintro e w1 ⟨⟨a, rfl⟩, h1⟩
  have HE := Lib.hid h1
  clear hC h1
  go_wp2
  go_ret
  exact ⟨⟨_, rfl⟩, HE.out⟩
set_option maxRecDepth 100000 in
theorem sum_rf (h : Rf W R S m w) : Calls Tryz.prog 135 #[rp R] w (FEnd W R S m) := by
  have hC := chain_rf 139 13 (by intro args w; kernel_rfl) (by decide) 5 (fun w h => choice_rf h) h
  have hmf := mf_any
  clear h
  go_enter Tryz.func135, Tryz.ntmps135
  go_wp2_with fail
  refine hC.mono ?_
  rintro e w1 ⟨⟨a, rfl⟩, h1⟩
  have HE := Lib.hid h1
  clear hC h1
  go_wp2
  go_ret
  exact ⟨⟨_, rfl⟩, HE.out⟩
set_option maxRecDepth 100000 in
theorem comparison_rf (h : Rf W R S m w) : Calls Tryz.prog 125 #[rp R] w (FEnd W R S m) := by
  have hC := sum_rf h
  have hcmp := fun w => compares_any 1 w
  rw [show Zq.cmpOp 1 = 0 from rfl] at hcmp
  clear h
  go_enter Tryz.func125, Tryz.ntmps125
  go_wp2_with fail
  refine hC.mono ?_
  rintro e w1 ⟨⟨a, rfl⟩, h1⟩
  have hN := next_rf h1
  have hc1 := hcmp w1
  have HE := Lib.hid h1
  clear hC h1 hcmp
  go_wp2_with fail
  refine hN.mono ?_
  rintro e w2 ⟨rfl, rfl⟩
  clear hN
  go_wp2_with fail
  refine hc1.mono ?_
  rintro e w2 ⟨rfl, rfl⟩
  clear hc1
  go_wp2
  go_ret
  exact ⟨⟨_, rfl⟩, HE.out⟩
set_option maxRecDepth 100000 in
theorem not_rf (h : Rf W R S m w) : Calls Tryz.prog 110 #[rp R] w (FEnd W R S m) := by
  have hN := next_rf h
  have hC := comparison_rf h
  clear h
  go_enter Tryz.func110, Tryz.ntmps110
  go_wp2_with fail
  refine hN.mono ?_
  rintro e w1 ⟨rfl, rfl⟩
  clear hN
  go_wp2_with fail
  refine hC.mono ?_
  rintro e w1 ⟨⟨a, rfl⟩, h1⟩
  have HE := Lib.hid h1
  clear hC h1
  go_wp2
  go_ret
  exact ⟨⟨_, rfl⟩, HE.out⟩
set_option maxRecDepth 100000 in
theorem and_rf (h : Rf W R S m w) : Calls Tryz.prog 96 #[rp R] w (FEnd W R S m) := by
  have hC := chain_rf 110 18 (by intro args w; kernel_rfl) (by decide) 14 (fun w h => not_rf h) h
  have hmf := mf_any
  clear h
  go_enter Tryz.func96, Tryz.ntmps96
  go_wp2_with fail
  refine hC.mono ?_
  rintro e w1 ⟨⟨a, rfl⟩, h1⟩
  have HE := Lib.hid h1
  clear hC h1
  go_wp2
  go_ret
  exact ⟨⟨_, rfl⟩, HE.out⟩
set_option maxRecDepth 100000 in
theorem or_rf (h : Rf W R S m w) : Calls Tryz.prog 82 #[rp R] w (FEnd W R S m) := by
  have hC := chain_rf 96 17 (by intro args w; kernel_rfl) (by decide) 15 (fun w h => and_rf h) h
  have hmf := mf_any
  clear h
  go_enter Tryz.func82, Tryz.ntmps82
  go_wp2_with fail
  refine hC.mono ?_
  rintro e w1 ⟨⟨a, rfl⟩, h1⟩
  have HE := Lib.hid h1
  clear hC h1
  go_wp2
  go_ret
  exact ⟨⟨_, rfl⟩, HE.out⟩
end

/-- A level keeps its word, where so many may yet be opened. -/
def LevOk (k F d : Nat) : Prop := ∀ (W : Cx) (R S : Nat) (l : List Nat) (ns : List Zq.Nd) (w : World), Rok W R S l (16 - d) ns w →
  Calls Tryz.prog F #[rp R] w (REnd W R S (16 - d) (50 + 8 * d + k) k ns.length (Zq.row d k (l, ns)))
theorem row_chain (d k : Nat) (hk : k ≠ 3) (s : Zq.St) : Zq.row d (k + 1) s = chainP (Zq.row d k) (k + 1) s := by
  have key : ∀ inner : Option (Nat → Zq.PS), Zq.lvl inner (k + 1) s = chainP (Zq.lvl inner k) (k + 1) s := fun inner => by
    rw [Zq.lvl]
    rw [if_neg (by omega)]
    rfl
  cases d with
  | zero => exact key _
  | succ d => exact key _
theorem REnd.to {W : Cx} {R S d mb mb' k k' n0 : Nat} {res res' : Except Nat (Int × Zq.St)} {e : Ending} {w : World} (h : REnd W R S d mb k n0 res e w) (hm : mb ≤ mb') (hk : k ≠ 0 ∨ k' = 0) (hr : res = res') : REnd W R S d mb' k' n0 res' e w := by
  subst hr
  rcases h with ⟨a, l', ns', h1, h2, h3, h4, h5⟩ | ⟨er, h1, h2, h3⟩
  · exact .inl ⟨a, l', ns', h1, h2, h3, h4, fun h => hk.elim (fun e => h5 e) (fun e => absurd e h)⟩
  · exact .inr ⟨er, h1, h2, h3.le hm⟩
section
variable {d : Nat}
set_option maxRecDepth 100000 in
theorem choice_ok (hAdv : AdvOk) (hd : d ≤ 16) (hp : LevOk 0 140 d) : LevOk 1 139 d := by
  intro W R S l ns w h
  have hC := chain_any hAdv 140 21 1 (50 + 8 * d + 0) (by intro args w; kernel_rfl) (by decide) 16 (wd := Zq.wElse) (Zq.row d 0) rfl (by decide) (by decide) (by decide) (by omega) (by omega) (hp W R S) (fun m w _ h => atom_rf h) h
  have HE : Hid (∀ e w', REnd W R S (16 - d) (50 + 8 * d + 0 + 1) 1 ns.length (chainP (Zq.row d 0) 1 (l, ns)) e w' → REnd W R S (16 - d) (50 + 8 * d + 1) 1 ns.length (Zq.row d 1 (l, ns)) e w') := fun e w' h => h.to (by omega) (.inl (by decide)) (row_chain d 0 (by decide) _).symm
  have hC := hC.mono HE.out
  obtain ⟨res, eres⟩ : ∃ res, Zq.row d 1 (l, ns) = res := ⟨_, rfl⟩
  rw [eres] at hC ⊢
  have hmf := mf_any
  clear h HE eres hp
  go_enter Tryz.func139, Tryz.ntmps139
  go_wp2_with fail
  refine hC.mono ?_
  intro e w1 hh
  obtain ⟨a, rfl⟩ : ∃ a, e = .returned (.int .i64 a) := by
    rcases hh with ⟨a, _, _, _, h, _⟩ | ⟨_, _, ⟨a, h⟩, _⟩ <;> exact ⟨a, h⟩
  have HH := Lib.hid hh
  clear hC hh
  go_wp2
  go_ret
  exact HH.out
set_option maxRecDepth 100000 in
theorem sum_ok (hAdv : AdvOk) (hd : d ≤ 16) (hp : LevOk 1 139 d) : LevOk 2 135 d := by
  intro W R S l ns w h
  have hC := chain_any hAdv 139 13 2 (50 + 8 * d + 1) (by intro args w; kernel_rfl) (by decide) 5 (wd := [43]) (Zq.row d 1) rfl (by decide) (by decide) (by decide) (by omega) (by omega) (hp W R S) (fun m w _ h => choice_rf h) h
  have HE : Hid (∀ e w', REnd W R S (16 - d) (50 + 8 * d + 1 + 1) 1 ns.length (chainP (Zq.row d 1) 2 (l, ns)) e w' → REnd W R S (16 - d) (50 + 8 * d + 2) 2 ns.length (Zq.row d 2 (l, ns)) e w') := fun e w' h => h.to (by omega) (.inl (by decide)) (row_chain d 1 (by decide) _).symm
  have hC := hC.mono HE.out
  obtain ⟨res, eres⟩ : ∃ res, Zq.row d 2 (l, ns) = res := ⟨_, rfl⟩
  rw [eres] at hC ⊢
  have hmf := mf_any
  clear h HE eres hp
  go_enter Tryz.func135, Tryz.ntmps135
  go_wp2_with fail
  refine hC.mono ?_
  intro e w1 hh
  obtain ⟨a, rfl⟩ : ∃ a, e = .returned (.int .i64 a) := by
    rcases hh with ⟨a, _, _, _, h, _⟩ | ⟨_, _, ⟨a, h⟩, _⟩ <;> exact ⟨a, h⟩
  have HH := Lib.hid hh
  clear hC hh
  go_wp2
  go_ret
  exact HH.out
set_option maxRecDepth 100000 in
theorem and_ok (hAdv : AdvOk) (hd : d ≤ 16) (hp : LevOk 4 110 d) : LevOk 5 96 d := by
  intro W R S l ns w h
  have hC := chain_any hAdv 110 18 5 (50 + 8 * d + 4) (by intro args w; kernel_rfl) (by decide) 14 (wd := Zq.wAnd) (Zq.row d 4) rfl (by decide) (by decide) (by decide) (by omega) (by omega) (hp W R S) (fun m w _ h => not_rf h) h
  have HE : Hid (∀ e w', REnd W R S (16 - d) (50 + 8 * d + 4 + 1) 1 ns.length (chainP (Zq.row d 4) 5 (l, ns)) e w' → REnd W R S (16 - d) (50 + 8 * d + 5) 5 ns.length (Zq.row d 5 (l, ns)) e w') := fun e w' h => h.to (by omega) (.inl (by decide)) (row_chain d 4 (by decide) _).symm
  have hC := hC.mono HE.out
  obtain ⟨res, eres⟩ : ∃ res, Zq.row d 5 (l, ns) = res := ⟨_, rfl⟩
  rw [eres] at hC ⊢
  have hmf := mf_any
  clear h HE eres hp
  go_enter Tryz.func96, Tryz.ntmps96
  go_wp2_with fail
  refine hC.mono ?_
  intro e w1 hh
  obtain ⟨a, rfl⟩ : ∃ a, e = .returned (.int .i64 a) := by
    rcases hh with ⟨a, _, _, _, h, _⟩ | ⟨_, _, ⟨a, h⟩, _⟩ <;> exact ⟨a, h⟩
  have HH := Lib.hid hh
  clear hC hh
  go_wp2
  go_ret
  exact HH.out
set_option maxRecDepth 100000 in
theorem or_ok (hAdv : AdvOk) (hd : d ≤ 16) (hp : LevOk 5 96 d) : LevOk 6 82 d := by
  intro W R S l ns w h
  have hC := chain_any hAdv 96 17 6 (50 + 8 * d + 5) (by intro args w; kernel_rfl) (by decide) 15 (wd := Zq.wOr) (Zq.row d 5) rfl (by decide) (by decide) (by decide) (by omega) (by omega) (hp W R S) (fun m w _ h => and_rf h) h
  have HE : Hid (∀ e w', REnd W R S (16 - d) (50 + 8 * d + 5 + 1) 1 ns.length (chainP (Zq.row d 5) 6 (l, ns)) e w' → REnd W R S (16 - d) (50 + 8 * d + 6) 6 ns.length (Zq.row d 6 (l, ns)) e w') := fun e w' h => h.to (by omega) (.inl (by decide)) (row_chain d 5 (by decide) _).symm
  have hC := hC.mono HE.out
  obtain ⟨res, eres⟩ : ∃ res, Zq.row d 6 (l, ns) = res := ⟨_, rfl⟩
  rw [eres] at hC ⊢
  have hmf := mf_any
  clear h HE eres hp
  go_enter Tryz.func82, Tryz.ntmps82
  go_wp2_with fail
  refine hC.mono ?_
  intro e w1 hh
  obtain ⟨a, rfl⟩ : ∃ a, e = .returned (.int .i64 a) := by
    rcases hh with ⟨a, _, _, _, h, _⟩ | ⟨_, _, ⟨a, h⟩, _⟩ <;> exact ⟨a, h⟩
  have HH := Lib.hid hh
  clear hC hh
  go_wp2
  go_ret
  exact HH.out
theorem row_cmp (d : Nat) (s : Zq.St) : Zq.row d 3 s = chainP (Zq.row d 2) 3 s := by
  cases d with
  | zero => exact row_chain 0 2 (by decide) s
  | succ d => exact row_chain _ 2 (by decide) s
set_option maxHeartbeats 4000000 in
set_option maxRecDepth 100000 in
theorem comparison_ok (hAdv : AdvOk) (hd : d ≤ 16) (hp : LevOk 2 135 d) : LevOk 3 125 d := by
  intro W R S l ns w h
  have hC := hp W R S l ns w h
  have HP := Lib.hid (hp W R S)
  have HA := Lib.hid hAdv
  obtain ⟨res, eres⟩ : ∃ res, Zq.row d 3 (l, ns) = res := ⟨_, rfl⟩
  rw [eres]
  have HRES : Hid (res = chainP (Zq.row d 2) 3 (l, ns)) := by unfold Hid; rw [← eres, row_cmp]
  have hcmp := compares_any
  have hd1 : 50 + 8 * d + 2 + 1 = 50 + 8 * d + 3 := rfl
  have HD := Lib.hid hd
  clear h hp hAdv eres hd
  go_enter Tryz.func125, Tryz.ntmps125
  go_wp2_with fail
  refine hC.mono ?_
  intro e w1 hh
  clear hC
  rcases hh with ⟨left, l2, ns2, hres, rfl, h2, hle, hnx⟩ | ⟨er, hres, ⟨left, rfl⟩, h2⟩
  rotate_left
  · have hN := next_rf h2
    have hc1 := hcmp 1 w1
    rw [show Zq.cmpOp 1 = 0 from rfl] at hc1
    have HE : Hid (REnd W R S (16 - d) (50 + 8 * d + 3) 3 ns.length res (.returned (.int .i64 left)) w1) := .inr ⟨er, by rw [HRES.out, chainP, hres], ⟨_, rfl⟩, h2.le (by omega)⟩
    clear h2 hres hcmp hd1
    go_wp2_with fail
    refine hN.mono ?_
    rintro e w2 ⟨rfl, rfl⟩
    clear hN
    go_wp2_with fail
    refine hc1.mono ?_
    rintro e w2 ⟨rfl, rfl⟩
    clear hc1
    go_wp2
    go_ret
    exact HE.out
  have hN := next_any HA.out h2
  have HRES2 : Hid (res = Zq.loop (Zq.row d 2) 3 49 left (l2, ns2)) := by unfold Hid; rw [HRES.out, chainP, hres]
  have HLE : Hid (ns.length ≤ ns2.length) := hle
  have HNX := Lib.hid (hnx (by decide))
  clear h2 hres hnx hle
  go_wp2_with fail
  refine hN.mono ?_
  rintro e w2 ⟨_, ⟨x, q, hx, rfl, h3⟩ | ⟨hx, rfl, h3⟩⟩
  rotate_left
  · obtain ⟨y, q, hy⟩ := HNX.out
    rw [hx] at hy
    cases hy
  have hc1 := hcmp (Zq.kOf x) w2
  have hT := take_rex h3
  have H3 := Lib.hid h3
  have HX := Lib.hid hx
  obtain ⟨o, eo⟩ : ∃ o, Zq.cmpOp (Zq.kOf x) = o := ⟨_, rfl⟩
  have EO := Lib.hid eo
  rw [eo] at hc1
  clear hN hcmp h3 hx eo
  go_wp2_with fail
  refine hc1.mono ?_
  rintro e w3 ⟨rfl, rfl⟩
  clear hc1
  by_cases ho : o = 0
  · subst ho
    have HE : Hid (REnd W R S (16 - d) (50 + 8 * d + 3) 3 ns.length res (.returned (.int .i64 left)) w2) := .inl ⟨left, l2, ns2, by rw [HRES2.out]; exact Zq.cmp_stop HX.out EO.out, rfl, H3.out.ok HX.out, HLE.out, fun _ => ⟨x, q, HX.out⟩⟩
    clear hT hd1
    go_wp2
    go_ret
    exact HE.out
  have hb : (o == 0) = false := ne_int ho
  have HON : Hid (res = match Zq.row d 2 (q, ns2) with
      | .error e => .error e
      | .ok (right, s2) => Zq.add ⟨o, 0, left, right, []⟩ s2) := by
    unfold Hid
    rw [HRES2.out, Zq.cmp_on HX.out (by rw [EO.out]; exact ho), EO.out]
    rcases Zq.row d 2 (q, ns2) with er | ⟨r, s2⟩ <;> rfl
  clear ho
  go_wp2_with fail
  refine hT.mono ?_
  rintro e w3 ⟨rfl, h4, _⟩
  have hC := HP.out q ns2 w3 h4
  clear hT h4
  go_wp2_with fail
  refine hC.mono ?_
  intro e w4 hh
  clear hC
  rcases hh with ⟨right, l3, ns3, hres, rfl, h4, hle, hnx⟩ | ⟨er, hres, ⟨right, rfl⟩, h4⟩
  · have hO := operation_any HA.out ⟨o, 0, left, right, []⟩ h4
    have HR3 : Hid (res = Zq.add ⟨o, 0, left, right, []⟩ (l3, ns3)) := by unfold Hid; rw [HON.out, hres]
    have HLE3 : Hid (ns2.length ≤ ns3.length ∧ ns3.length ≤ 48) := ⟨hle, h4.le.2⟩
    have HNX3 := Lib.hid (hnx (by decide))
    clear hres h4 hle hnx
    go_wp2_with fail
    refine hO.mono ?_
    intro e w5 hh
    clear hO
    rcases hh with ⟨y, q3, hy, hlt, rfl, h5⟩ | ⟨hor, ⟨i, rfl⟩, h5⟩
    · have HE : Hid (REnd W R S (16 - d) (50 + 8 * d + 3) 3 ns.length res (.returned (.int .i64 (ns3.length : Nat))) w5) :=
        .inl ⟨_, l3, _, by rw [HR3.out, Zq.add, if_neg (by simp; omega)], rfl, h5, by have := HLE.out; have := HLE3.out; simp; omega, fun _ => ⟨y, q3, hy⟩⟩
      clear h5 hy
      go_wp2
      go_ret
      exact HE.out
    · have HE : Hid (REnd W R S (16 - d) (50 + 8 * d + 3) 3 ns.length res (.returned (.int .i64 i)) w5) := by
        refine .inr ⟨112, ?_, ⟨_, rfl⟩, h5.le (by have := HLE3.out; omega)⟩
        rcases hor with hor | hor
        · obtain ⟨y, q', hy⟩ := HNX3.out
          rw [hor] at hy; cases hy
        · rw [HR3.out, Zq.add, if_pos (by simp; omega)]
      clear h5 hor
      go_wp2
      go_ret
      exact HE.out
  · have hO := operation_rf ⟨o, 0, left, right, []⟩ (by have := HD.out; omega) h4
    have HE : Hid (∀ i w5, Rf W R S (50 + 8 * d + 2 + 1) w5 → REnd W R S (16 - d) (50 + 8 * d + 3) 3 ns.length res (.returned (.int .i64 i)) w5) := fun i w5 h => .inr ⟨er, by rw [HON.out, hres], ⟨_, rfl⟩, h⟩
    clear hres h4
    go_wp2_with fail
    refine hO.mono ?_
    rintro e w5 ⟨⟨i, rfl⟩, h5⟩
    have HE5 := Lib.hid (HE.out i w5 h5)
    clear hO h5
    go_wp2
    go_ret
    exact HE5.out
/-- What may still be opened. -/
def inOf : Nat → Nat → Option Zq.PS
  | 0, _ => none
  | d + 1, k => some (Zq.row d k)
theorem row_not (d : Nat) (s : Zq.St) : Zq.row d 4 s = Zq.notP (inOf d 4) (Zq.row d 3) s := by
  cases d with
  | zero => rfl
  | succ d => rfl
set_option maxHeartbeats 4000000 in
set_option maxRecDepth 100000 in
theorem not_ok (hAdv : AdvOk) (hd : d ≤ 16) (hp : LevOk 3 125 d) (hin : ∀ d', d = d' + 1 → LevOk 4 110 d') : LevOk 4 110 d := by
  intro W R S l ns w h
  have hN := next_any hAdv h
  have HP := Lib.hid (hp W R S)
  have HIN := Lib.hid hin
  have HA := Lib.hid hAdv
  have HD := Lib.hid hd
  obtain ⟨res, eres⟩ : ∃ res, Zq.row d 4 (l, ns) = res := ⟨_, rfl⟩
  rw [eres]
  have HRES : Hid (res = Zq.notP (inOf d 4) (Zq.row d 3) (l, ns)) := by unfold Hid; rw [← eres, row_not]
  have H48 : Hid (ns.length ≤ 48) := h.le.2
  clear h hp hin hAdv eres hd
  go_enter Tryz.func110, Tryz.ntmps110
  go_wp2_with fail
  refine hN.mono ?_
  rintro e w1 ⟨_, ⟨x, q, hx, rfl, h1⟩ | ⟨hx, rfl, h1⟩⟩
  rotate_left
  · have hC := comparison_rf h1
    have HE : Hid (∀ a w2, Rf W R S ns.length w2 → REnd W R S (16 - d) (50 + 8 * d + 4) 4 ns.length res (.returned (.int .i64 a)) w2) := fun a w2 h => .inr ⟨111, by rw [HRES.out, Zq.notP]; simp only [hx], ⟨_, rfl⟩, h.le (by have := H48.out; omega)⟩
    clear hN h1 hx
    go_wp2_with fail
    refine hC.mono ?_
    rintro e w2 ⟨⟨a, rfl⟩, h2⟩
    have HE2 := Lib.hid (HE.out a w2 h2)
    clear hC h2
    go_wp2
    go_ret
    exact HE2.out
  clear hN
  have hT := Zq.isTok_kOf (s := Zq.wNot) (n := 19) (by decide) x
  obtain ⟨k, ek⟩ : ∃ k, Zq.kOf x = k := ⟨_, rfl⟩
  rw [ek] at hT ⊢
  by_cases hk : k = 19
  rotate_left
  · have hb : ((k : Int) != 19) = true := bne_int (by omega)
    rw [decide_eq_false hk] at hT
    have hC := HP.out l ns w1 (h1.ok hx)
    have HE : Hid (∀ e w2, REnd W R S (16 - d) (50 + 8 * d + 3) 3 ns.length (Zq.row d 3 (l, ns)) e w2 → REnd W R S (16 - d) (50 + 8 * d + 4) 4 ns.length res e w2) := fun e w2 h => h.to (by omega) (.inl (by decide)) (by rw [HRES.out, Zq.notP]; simp only [hx, hT]; rfl)
    have hC := hC.mono HE.out
    clear HE h1 hx hT hk ek
    go_wp2_with fail
    refine hC.mono ?_
    intro e w2 hh
    obtain ⟨a, rfl⟩ : ∃ a, e = .returned (.int .i64 a) := by
      rcases hh with ⟨a, _, _, _, h, _⟩ | ⟨_, _, ⟨a, h⟩, _⟩ <;> exact ⟨a, h⟩
    have HH := Lib.hid hh
    clear hC hh
    go_wp2
    go_ret
    exact HH.out
  subst hk
  rw [decide_eq_true rfl] at hT
  have hO := open_any HA.out 19 (by decide) (h1.ok hx)
  have HX := Lib.hid hx
  have HT := Lib.hid hT
  have HH : Hid (Here 19 l q) := ⟨x, hx, ek⟩
  clear h1 hx hT ek
  go_wp2_with fail
  refine hO.mono ?_
  rintro e w2 ⟨rfl, _, ⟨q2, hq, hlt, h2⟩ | ⟨hq, h2⟩⟩
  rotate_left
  · have hC := not_rf h2
    have HE : Hid (∀ a w2, Rf W R S (ns.length + 1) w2 → REnd W R S (16 - d) (50 + 8 * d + 4) 4 ns.length res (.returned (.int .i64 a)) w2) := fun a w2 h => .inr ⟨113, by
      rcases hq with hq | hq
      · exact absurd HH.out (hq q)
      · have hd := HD.out
        obtain rfl : d = 0 := by omega
        rw [HRES.out, Zq.notP]
        simp only [HX.out, HT.out, if_true, inOf], ⟨_, rfl⟩, h.le (by have := H48.out; omega)⟩
    clear hO h2 hq
    go_wp2_with fail
    refine hC.mono ?_
    rintro e w3 ⟨⟨a, rfl⟩, h3⟩
    obtain ⟨D, c5, f5⟩ := h3.cell5
    have hOp := fun v => operation_rf ⟨13, 0, a, 0, []⟩ (by have := H48.out; omega) (h3.deep v).1
    clear hC h3
    go_wp2_with fail
    refine (hOp _).mono ?_
    rintro e w4 ⟨⟨i, rfl⟩, h4⟩
    have HE4 := Lib.hid (HE.out i w4 h4)
    clear hOp h4
    go_wp2
    go_ret
    exact HE4.out
  obtain rfl := here_one HH.out hq
  obtain ⟨d', rfl⟩ : ∃ d', d = d' + 1 := ⟨d - 1, by omega⟩
  have hD1 : 16 - (d' + 1) + 1 = 16 - d' := by have := HD.out; omega
  rw [hD1] at h2
  have hC := HIN.out d' rfl W R S q ns w2 h2
  clear hO h2 hq hlt
  go_wp2_with fail
  refine hC.mono ?_
  intro e w3 hh
  clear hC
  have HD1 := Lib.hid hD1
  rcases hh with ⟨n, l3, ns3, hres, rfl, h3, hle, hnx⟩ | ⟨er, hres, ⟨n, rfl⟩, h3⟩
  · obtain ⟨c5, f5⟩ := h3.cell5
    obtain ⟨g1, _⟩ := h3.deep (d' := 16 - (d' + 1)) (by omega)
    have hOp := operation_any HA.out ⟨13, 0, n, 0, []⟩ g1
    obtain ⟨D, eD⟩ : ∃ D, 15 - d' = D := ⟨_, rfl⟩
    have HR3 : Hid (res = Zq.add ⟨13, 0, n, 0, []⟩ (l3, ns3)) := by
      unfold Hid
      rw [HRES.out, Zq.notP]
      simp only [HX.out, HT.out, if_true, inOf]
      rw [hres]
    have HLE3 : Hid (ns.length ≤ ns3.length ∧ ns3.length ≤ 48) := ⟨hle, h3.le.2⟩
    have HNX3 := Lib.hid (hnx (by decide))
    have hDb : (16 - d' : Nat) = D + 1 := by omega
    have HDD : Hid (16 - (d' + 1) = D) := by unfold Hid; omega
    rw [HDD.out] at hOp
    rw [eD]
    rw [hDb] at c5
    rw [show ((D + 1 : Nat) : Int) = (D : Int) + 1 from rfl] at c5
    have hd2 : (D : Int) + 1 - 1 = (D : Int) := by omega
    have hd3 : (D : Int) ≤ 16 := by omega
    clear hres h3 hle hnx g1 hD1 hDb eD
    go_wp2_with fail
    refine hOp.mono ?_
    intro e w5 hh
    clear hOp
    rcases hh with ⟨y, q3, hy, hlt, rfl, h5⟩ | ⟨hor, ⟨i, rfl⟩, h5⟩
    · have HE : Hid (REnd W R S D (50 + 8 * (d' + 1) + 4) 4 ns.length res (.returned (.int .i64 (ns3.length : Nat))) w5) :=
        .inl ⟨_, l3, _, by rw [HR3.out, Zq.add, if_neg (by simp; omega)], rfl, h5, by have := HLE3.out; simp; omega, fun _ => ⟨y, q3, hy⟩⟩
      clear h5 hy
      go_wp2
      go_ret
      rw [HDD.out]
      exact HE.out
    · have HE : Hid (REnd W R S D (50 + 8 * (d' + 1) + 4) 4 ns.length res (.returned (.int .i64 i)) w5) := by
        refine .inr ⟨112, ?_, ⟨_, rfl⟩, h5.le (by have := HLE3.out; omega)⟩
        rcases hor with hor | hor
        · obtain ⟨y, q', hy⟩ := HNX3.out
          rw [hor] at hy; cases hy
        · rw [HR3.out, Zq.add, if_pos (by simp; omega)]
      clear h5 hor
      go_wp2
      go_ret
      rw [HDD.out]
      exact HE.out
  · obtain ⟨D, c5, f5⟩ := h3.cell5
    have hOp := fun v => operation_rf ⟨13, 0, n, 0, []⟩ (by have := HD.out; omega) (h3.deep v).1
    have HE : Hid (∀ i w5, Rf W R S (50 + 8 * d' + 4 + 1) w5 → REnd W R S (15 - d') (50 + 8 * (d' + 1) + 4) 4 ns.length res (.returned (.int .i64 i)) w5) := fun i w5 h => .inr ⟨er, by
      rw [HRES.out, Zq.notP]
      simp only [HX.out, HT.out, if_true, inOf]
      rw [hres], ⟨_, rfl⟩, h.le (by omega)⟩
    clear hres h3 hD1
    go_wp2_with fail
    refine (hOp _).mono ?_
    rintro e w5 ⟨⟨i, rfl⟩, h5⟩
    have HE5 := Lib.hid (HE.out i w5 h5)
    clear hOp h5
    go_wp2
    go_ret
    rw [show 16 - (d' + 1) = 15 - d' from by omega]
    exact HE5.out
end
end Go.Proofs.YthhlmalpelgpeaaGreatDoor
