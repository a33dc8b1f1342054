/-
  The document's write and Encode.
-/
import Derived.Test.YtcpfkhodailbfaaTRSize
import Derived.Test.YtcpfkhodailbfaaTRAmiss
namespace Go.Proofs.Ytcpfkhodailbfaa
open Go.RowKit

/-- How write ends. -/
def WrEnd (res : Option (List Nat)) (w : World) (e : Ending) (w' : World) : Prop := Below w.heap.size w w' ∧ match res with
  | some q => ∃ A c, e = .returned (.tuple #[.slice A q.length c, .bool true]) ∧ ArgIs w' A c q
  | none => e = .returned (.tuple #[nilS, .bool false])
theorem WrEnd.yes {res : Option (List Nat)} {q : List Nat} {w w' : World} {A : Option Addr} {c : Nat} (h : res = some q) (hq : ArgIs w' A c q) (hb : Below w.heap.size w w') : WrEnd res w (.returned (.tuple #[.slice A q.length c, .bool true])) w' := by
  rw [h]; exact ⟨hb, A, c, rfl, hq⟩
theorem WrEnd.no {res : Option (List Nat)} {w w' : World} (h : res = none) (hb : Below w.heap.size w w') : WrEnd res w (.returned (.tuple #[nilS, .bool false])) w' := by
  rw [h]; exact ⟨hb, rfl⟩
theorem WrEnd.cases {res : Option (List Nat)} {w w' : World} {e : Ending} (h : WrEnd res w e w') : (∃ q A c, res = some q ∧ e = .returned (.tuple #[.slice A q.length c, .bool true]) ∧ ArgIs w' A c q ∧ Below w.heap.size w w') ∨ (res = none ∧ e = .returned (.tuple #[nilS, .bool false]) ∧ Below w.heap.size w w') := by
  obtain ⟨hb, h⟩ := h
  cases hr : res with
  | some q =>
    rw [hr] at h
    obtain ⟨A, c, h1, h2⟩ := h
    exact .inl ⟨q, A, c, rfl, h1, h2, hb⟩
  | none =>
    rw [hr] at h
    exact .inr ⟨rfl, h, hb⟩
/-- That elements that are right are written, where so many levels are left. -/
def WriteOk (lv : Nat) : Prop := ∀ (ok : Nat → Prop) (v : Value) (t : Bq.T) (w : World), IsT w ok v t → Bq.amiss lv t = 0 →
  Calls Try.prog 28 #[v] w (WrEnd (Bq.write lv t) w)
theorem write_form {lv : Nat} {t : Bq.T} (h : Bq.amiss lv t = 0) : ∃ g : Bq.T → Option (List Nat), Bq.write lv t = ((Bq.wlist g t.bytes t.list).bind fun x => if 65535 < x.length then none else some (t.tag :: (Bq.size x.length ++ x))) ∧
    (t.list ≠ [] → ∃ m, lv = m + 1 ∧ g = Bq.write m ∧ ∀ x ∈ t.list, Bq.amiss m x = 0) := by
  obtain ⟨_, h2, h3⟩ := Bq.amiss_zero h
  cases lv with
  | zero =>
    have hl : t.list = [] := h2 (Classical.byContradiction fun e => by
      obtain ⟨_, n, hn, _⟩ := h3 e
      cases hn)
    refine ⟨fun _ => none, ?_, fun e => absurd hl e⟩
    rw [hl, Bq.wlist, Bq.write]
    rfl
  | succ m =>
    refine ⟨Bq.write m, by rw [Bq.write], fun hne => ⟨m, rfl, rfl, ?_⟩⟩
    by_cases hs : t.tag / 32 % 2 = 0
    · exact absurd (h2 hs) hne
    · obtain ⟨_, n, hn, hx⟩ := h3 hs
      injection hn with hn
      subst hn
      exact hx
theorem wl_step {g : Bq.T → Option (List Nat)} {l : List Bq.T} {k : Nat} {x : Bq.T} {acc : List Nat} (hx : l[k]? = some x) :
    (g x = none → Bq.wlist g acc (l.drop k) = none) ∧ (∀ y, g x = some y → (65535 < acc.length → Bq.wlist g acc (l.drop k) = none) ∧ (¬ 65535 < acc.length → Bq.wlist g acc (l.drop k) = Bq.wlist g (acc ++ y) (l.drop (k + 1)))) := by
  obtain ⟨h1, h2⟩ := List.getElem?_eq_some_iff.1 hx
  rw [List.drop_eq_getElem_cons h1, h2, Bq.wlist]
  refine ⟨fun h => by rw [h], fun y h => ⟨fun h3 => by rw [h]; simp only; rw [if_pos h3], fun h3 => by rw [h]; simp only; rw [if_neg h3]⟩⟩
theorem write_len {m : Nat} {x : Bq.T} {y : List Nat} (ha : Bq.amiss m x = 0) (h : Bq.write m x = some y) : y.length ≤ 65539 := by
  rw [Bq.write_enc m x ha] at h
  split at h
  · rename_i hc
    injection h with h
    rw [← h]
    have := (Bq.enc_len m x).2.2
    omega
  · cases h
theorem own_new1 {W : World} {g base : Nat} {e : TypeId} {v : Value} (hg : g = W.heap.size) (hb : base ≤ g) : (W.alloc (.cells #[v] e)).ownsRow base e 1 (.slice (some ⟨g, 0, none⟩) 1 1) 1 [v] := by
  subst hg
  exact ⟨rfl, .inr ⟨W.heap.size, 1, #[v], rfl, hb, heap_alloc_new W _, Nat.le_refl _, by decide, rfl, rfl⟩⟩
theorem reg_a {w w1 : World} (h : Below w.drew.heap.size w.drew w1) : Below w.heap.size w w1 := below_undrew h
theorem reg_b {w w1 : World} {o : Obj} (h : Below (w.alloc o).drew.heap.size (w.alloc o).drew w1) : Below w.heap.size w w1 :=
  ((Below.refl w.heap.size w).alloc (Nat.le_refl _) o).trans ((below_undrew h).mono (by show w.heap.size ≤ (w.alloc o).heap.size; simp))
theorem reg_own {w w1 : World} {e : TypeId} {v : Value} (h : Below (w.alloc (.cells #[v] e)).drew.heap.size (w.alloc (.cells #[v] e)).drew w1) : w1.ownsRow w.heap.size e 1 (.slice (some ⟨w.heap.size, 0, none⟩) 1 1) 1 [v] :=
  own_below (w := (w.alloc (.cells #[v] e)).drew) (own_new1 (W := w) rfl (Nat.le_refl _)) h
/-- A row under way: what the whole says, by what is there and what the rest says. -/
def WRel (g : Bq.T → Option (List Nat)) (t : Bq.T) (W0 : World) (xv i : Value) (wr : World) : Prop :=
  ∃ (k : Nat) (acc : List Nat), i = .int .i64 k ∧ k ≤ t.list.length ∧ wr.ownsRow W0.heap.size 5 1 xv acc.length (u8s acc) ∧ (∀ x ∈ acc, x < 256) ∧ acc.length ≤ t.bytes.length + 131074 ∧ Below W0.heap.size W0 wr ∧ Hid (Bq.wlist g t.bytes t.list = Bq.wlist g acc (t.list.drop k))

set_option maxHeartbeats 1000000 in
set_option maxRecDepth 100000 in
theorem refWrite_step (lv : Nat) (ih : ∀ m, lv = m + 1 → WriteOk m) : WriteOk lv := by
  intro ok v t w hJ ham
  obtain ⟨bv, lst, rfl, hta, hB, hbt, hL⟩ := hJ.parts
  obtain ⟨A0, c0, rfl⟩ := hL.form
  obtain ⟨A9, c9, rfl⟩ := hB.form
  obtain ⟨RES, eRES⟩ : ∃ RES, Bq.write lv t = RES := ⟨_, rfl⟩
  obtain ⟨g, hg, hgl⟩ := write_form ham
  rw [eRES] at hg ⊢
  obtain ⟨M, eM⟩ : ∃ M, t.list.length = M := ⟨_, rfl⟩
  obtain ⟨N, eN⟩ : ∃ N, t.bytes.length = N := ⟨_, rfl⟩
  obtain ⟨a, ea⟩ : ∃ a, t.tag = a := ⟨_, rfl⟩
  have hll := hL.len
  rw [eM] at hll
  rw [ea] at hta
  obtain ⟨W0, eW0⟩ : ∃ W0, W0 = w.alloc (.cells #[.int .u8 (a : Int), .slice A9 N c9, .slice A0 M c0] 25) := ⟨_, rfl⟩
  have hb0 : Below w.heap.size w W0 := by rw [eW0]; exact (Below.refl _ _).alloc (Nat.le_refl _) _
  have HL0 : Hid (Lies W0 w.heap.size 25 [.int .u8 (a : Int), .slice A9 N c9, .slice A0 M c0]) := by unfold Hid; rw [eW0]; exact Lies.new_ rfl
  have HL := Lib.hid (hL.on hb0)
  have HBY := Lib.hid ((hB.on hb0).arg hbt.2)
  have HBT := Lib.hid hbt
  have HBW := Lib.hid hb0
  have HM := Lib.hid eM
  have HN := Lib.hid eN
  have HA := Lib.hid ea
  have HG := Lib.hid hg
  have HGL := Lib.hid hgl
  have HE := Lib.hid eW0
  have HZ0 : Hid (W0.heap.size = w.heap.size + 1) := by unfold Hid; rw [eW0]; simp
  have HIH := Lib.hid ih
  rw [eM] at HL
  rw [eM, eN, ea]
  have hNb : N ≤ 140737488355328 := by have := hbt.1; omega
  clear eRES hg hgl hL hB hbt eM eN ea hJ ih ham eW0 hb0
  go_enter Try.func28, Try.ntmps28
  repeat ((fail_if_success (with_reducible show wpList _ _ _ (⟨some 12, _, _, _, _, _⟩ :: _) _ _)); first | go_values | go_skip | go_guarded | go_step | go_upon | go_back | go_simp)
  rw [← HE.out]
  have how : (W0.alloc (.cells #[] 5)).ownsRow W0.heap.size 5 1 (.slice (some ⟨w.heap.size + 1, 0, none⟩) 0 0) 0 (u8s []) := by
    have := World.ownsRow_made (base := W0.heap.size) (e := 5) (size := 1) W0 #[] 0 (Nat.le_refl _) (Nat.zero_le _) rfl
    rw [HZ0.out] at this ⊢
    exact this
  have hbA : Below W0.heap.size W0 (W0.alloc (.cells #[] 5)) := (Below.refl _ _).alloc (Nat.le_refl _) _
  have hqA := HBY.out.on hbA
  have hszA : W0.heap.size ≤ (W0.alloc (.cells #[] 5)).heap.size := by simp
  generalize W0.alloc (.cells #[] 5) = WA at *
  with_reducible refine append_arg rfl (.tmp 9) (.tmp 11) ?s0 W0.heap.size _ 0 (u8s []) A9 c9 t.bytes how hqA ?s1 ?s2 ?s3 ?s4 ?_
  case s0 => rfl
  case s1 => rfl
  case s2 => exact congrArg (fun n => Value.slice A9 n c9) HN.out.symm
  case s3 => have := HN.out; omega
  case s4 => exact hszA
  intro v5 w5 hown5 hgr5
  rw [Nat.zero_add] at hown5
  have hb5 : Below W0.heap.size W0 w5 := hbA.grown hgr5 hszA (fun b e => (how.lt b e).1)
  have HST : Hid (WRel g t W0 v5 (.int .i64 0) w5) := ⟨0, t.bytes, rfl, Nat.zero_le _, hown5, HBT.out.2, by omega, hb5, Lib.hid rfl⟩
  clear hown5 hgr5 hb5 how hbA hqA hszA
  go_frame
  go_wp2_with fail
  go_loopw [4, 5] (fun xv i' wr => WRel g t W0 xv i' wr) (fun _ i' _ => t.list.length - (intOf i').toNat)
  case atStart => exact HST.out
  case round =>
    obtain ⟨k, acc, rfl, hk, hown, h256, hal, hb, hrel⟩ := hrel
    rw [HM.out] at hk
    rw [HN.out] at hal
    obtain ⟨⟨z0, z1, z2⟩, _⟩ := (HL0.out.below hb HL0.out.lt).three
    obtain ⟨A4, c4, rfl⟩ := own_slice hown
    have HOWN := Lib.hid hown
    have H256 := Lib.hid h256
    have HREL := hrel
    have hwb : W0.heap.size ≤ wr.heap.size := hb.size
    clear hown h256 hrel
    by_cases hlt : k < M
    · obtain ⟨b, off, x, E1, e1, E2, e2, rfl, _, hblt, hx, hJx, s0, s1, s2⟩ := (HL.out.on hb).elem (by rw [HM.out]; exact hlt)
      have hxm := List.mem_of_getElem? hx
      obtain ⟨m, hm, hgm, hall⟩ := HGL.out (List.ne_nil_of_mem hxm)
      have hC := HIH.out m hm ok _ x wr hJx (hall x hxm)
      obtain ⟨n1, n2⟩ := wl_step (g := g) (acc := acc) hx
      rw [hgm] at n1 n2
      have HWL : Hid (∀ y, Bq.write m x = some y → y.length ≤ 65539) := fun y h => write_len (hall x hxm) h
      have HN1 : Hid (Bq.write m x = none → RES = none) := fun h => by
        have := n1 h
        rw [HG.out, HREL.out, hgm, this]; rfl
      have HN2 : Hid (∀ y, Bq.write m x = some y → (65535 < acc.length → RES = none) ∧ (¬ 65535 < acc.length → Bq.wlist g t.bytes t.list = Bq.wlist g (acc ++ y) (t.list.drop (k + 1)))) := fun y h => ⟨fun h3 => by
        have := (n2 y h).1 h3
        rw [HG.out, HREL.out, hgm, this]; rfl, fun h3 => by
        have := (n2 y h).2 h3
        rw [HREL.out, hgm, this]⟩
      have HGM := Lib.hid hgm
      clear hx hJx hxm n1 n2 hall hm hgm
      go_wp2_with fail
      refine hC.mono ?_
      intro e w1 hh
      clear hC z0 z1 z2 s0 s1 s2
      rcases hh.cases with ⟨y, A1, c1, hr, rfl, hq1, hb1⟩ | ⟨hr, rfl, hb1⟩
      rotate_left
      · have HQ := Lib.hid (HN1.out hr)
        have hb2 := below_more HBW.out (hb.trans (hb1.mono hb.size))
        clear hh hr hb1
        go_wp2
        go_ret2
        exact WrEnd.no HQ.out hb2
      obtain ⟨p1, p2⟩ := HN2.out y hr
      have hyl := HWL.out y hr
      have hb2 := hb.trans (hb1.mono hb.size)
      have HP1 := Lib.hid p1
      have HP2 := Lib.hid p2
      have HQ1 := Lib.hid hq1
      have hown1 := own_below HOWN.out hb1
      clear hh hr hb1 p1 p2 hq1
      by_cases hbig : 65535 < acc.length
      · have hd : decide ((65535 : Int) < (acc.length : Int)) = true := decide_eq_true (by omega)
        have HQ := Lib.hid (HP1.out hbig)
        have hb3 := below_more HBW.out hb2
        clear hown1
        go_wp2
        go_ret2
        exact WrEnd.no HQ.out hb3
      · have hd : decide ((65535 : Int) < (acc.length : Int)) = false := decide_eq_false (by omega)
        have HQ := Lib.hid (HP2.out hbig)
        have hw1 : W0.heap.size ≤ w1.heap.size := hb2.size
        have hq1 := HQ1.out
        repeat ((fail_if_success (with_reducible show wpList _ _ _ (⟨some 38, _, _, _, _, _⟩ :: _) _ _)); first | go_values | go_skip | go_guarded | go_step | go_upon | go_back | go_simp)
        with_reducible refine append_arg rfl (.tmp 36) (.tmp 37) ?s0 W0.heap.size _ acc.length (u8s acc) A1 c1 y hown1 hq1 ?s1 ?s2 ?s3 ?s4 ?_
        case s0 => rfl
        case s1 => rfl
        case s2 => rfl
        case s3 => omega
        case s4 => exact hw1
        intro v6 w6 hown6 hgr6
        have hb6 : Below W0.heap.size W0 w6 := hb2.grown hgr6 hw1 (fun b e => (hown1.lt b e).1)
        have HR6 : Hid (WRel g t W0 v6 (.int .i64 ((k + 1 : Nat) : Int)) w6) := ⟨k + 1, acc ++ y, rfl, by rw [HM.out]; omega, by rw [List.length_append, u8s_append]; exact hown6, fun x hx => by
          rcases List.mem_append.1 hx with hx | hx
          · exact H256.out x hx
          · exact HQ1.out.2.2.1 x hx, by rw [List.length_append]; omega, hb6, HQ⟩
        clear hown1 hq1 hown6 hgr6 hb6 hb2
        go_frame
        go_wp2
        go_roundw
        case rel => exact HR6.out
        case measure => simp [intOf]; have := HM.out; omega
    · obtain rfl : k = M := by omega
      have hd3 : decide ((k : Int) < (k : Int)) = false := by simp
      have HW : Hid (Bq.wlist g t.bytes t.list = some acc) := by
        unfold Hid
        rw [HREL.out, List.drop_eq_nil_of_le (by rw [HM.out]; exact Nat.le_refl _)]
        rfl
      by_cases hbig : 65535 < acc.length
      · have hd : decide ((65535 : Int) < (acc.length : Int)) = true := decide_eq_true (by omega)
        have HQ : Hid (RES = none) := by unfold Hid; rw [HG.out, HW.out, Option.bind_some, if_pos hbig]
        have hb3 := below_more HBW.out hb
        go_wp2
        go_ret2
        exact WrEnd.no HQ.out hb3
      · have hd : decide ((65535 : Int) < (acc.length : Int)) = false := decide_eq_false (by omega)
        have HQ : Hid (RES = some (a :: (Bq.size acc.length ++ acc))) := by unfold Hid; rw [HG.out, HW.out, Option.bind_some, if_neg hbig, HA.out]
        have HSZ : Hid (∀ w', Calls Try.prog 42 #[.int .i64 (acc.length : Int)] w' (BytesEnd (Bq.size acc.length) w')) := fun w' => refSize_any acc.length (by omega) w'
        have HS3 := Lib.hid (Bq.size_len acc.length)
        have hlr := HL0.out.below hb HL0.out.lt
        have HK0 : Hid (∀ W, Below wr.heap.size wr W → W.cell? ⟨w.heap.size, 0, none⟩ = some (.int .u8 (a : Int))) := fun W h => (hlr.below h hlr.lt).three.1.1
        have hwl : w.heap.size < wr.heap.size := hlr.lt
        clear hlr
        go_upto_region 11 with (fail)
        go_region_law (first
          | (go_simp; go_at_call 42; refine (HSZ.out _).mono ?_; intro e w1 hh; obtain ⟨A1, c1, rfl, hq1, hb1⟩ := hh; have hbx : Below wr.heap.size wr w1 := (by first | exact reg_a hb1 | exact reg_b hb1); have y0 := HK0.out _ hbx; have hwx : wr.heap.size ≤ w1.heap.size := hbx.size; simp only [])
          | (refine step_append_arg rfl (.tmp 44) (.tmp 47) rfl wr.heap.size _ 1 (u8s [a]) A1 c1 (Bq.size acc.length) (by first | exact own_new1 rfl hwx | exact reg_own hb1) (by first | exact hq1 | exact hq1.alloc _) rfl rfl (by have := HS3.out; omega) (by first | exact hwx | exact Nat.le_trans hwx (by simp)) ?_; intro v2 w2 hown2 hgr2; have hb2 : Below wr.heap.size wr w2 := (by first | exact hbx.grown hgr2 hwx (fun b e => by first | (have e' : some wr.heap.size = some b := e; injection e' with e'; omega) | (have e' : some w1.heap.size = some b := e; injection e' with e'; omega)) | exact (hbx.alloc hwx _).grown hgr2 (by simp; omega) (fun b e => by first | (have e' : some wr.heap.size = some b := e; injection e' with e'; omega) | (have e' : some w1.heap.size = some b := e; injection e' with e'; omega))); clear hgr2 hq1 hb1 hbx y0 hwx))
        all_goals
          have hacc := (own_arg HOWN.out H256.out).2.on hb2
          have hw2 : wr.heap.size ≤ w2.heap.size := hb2.size
          repeat ((fail_if_success (with_reducible show wpList _ _ _ (⟨some 51, _, _, _, _, _⟩ :: _) _ _)); first | go_values | go_skip | go_guarded | go_step | go_upon | go_back | go_simp)
          with_reducible refine append_arg rfl (.tmp 49) (.tmp 50) ?s0 wr.heap.size _ (1 + (Bq.size acc.length).length) (u8s [a] ++ u8s (Bq.size acc.length)) A4 c4 acc hown2 hacc ?s1 ?s2 ?s3 ?s4 ?_
          case s0 => rfl
          case s1 => rfl
          case s2 => rfl
          case s3 => have := HS3.out; omega
          case s4 => exact hw2
          intro v3 w3 hown3 hgr3
          have hb3 : Below wr.heap.size wr w3 := hb2.grown hgr3 hw2 (fun b e => (hown2.lt b e).1)
          obtain ⟨Z, eZ⟩ : ∃ Z, a :: (Bq.size acc.length ++ acc) = Z := ⟨_, rfl⟩
          have eU : u8s [a] ++ u8s (Bq.size acc.length) ++ u8s acc = u8s Z := by rw [← eZ, ← u8s_append, ← u8s_append]; simp
          have eL : 1 + (Bq.size acc.length).length + acc.length = Z.length := by rw [← eZ, List.length_cons, List.length_append]; omega
          rw [eU, eL] at hown3
          have hZ : ∀ x ∈ Z, x < 256 := by
            rw [← eZ]
            intro x hx
            rcases List.mem_cons.1 hx with rfl | hx
            · exact hta
            · rcases List.mem_append.1 hx with hx | hx
              · exact size_lt (by omega) x hx
              · exact H256.out x hx
          obtain ⟨A6, c6, rfl⟩ := own_slice hown3
          have HQE : Hid (WrEnd RES w (.returned (.tuple #[.slice A6 Z.length c6, .bool true])) w3) := WrEnd.yes (by rw [HQ.out, eZ]) (own_arg hown3 hZ).2 (below_more HBW.out (hb.trans (hb3.mono hwb)))
          clear hown2 hown3 hgr3 hacc hb2 hb3 eZ eU eL hZ hbig
          go_frame
          go_wp2
          go_ret2
          exact HQE.out
theorem refWrite_all : ∀ lv, WriteOk lv
  | 0 => refWrite_step 0 fun m e => by omega
  | n + 1 => refWrite_step (n + 1) fun m e => by
    have : n = m := by omega
    subst this
    exact refWrite_all n
end Go.Proofs.Ytcpfkhodailbfaa
