/-
  The laws of stage 12: TypesOf, TypesChecks, TypesParts, TypesMore.
-/
import Derived.Test.YtgoecghakiihpaaDoorKRefOf
import Derived.Test.YtgoecghakiihpaaDoorKRefChk
import Derived.Test.YtgoecghakiihpaaDoorKAlive
import Derived.Deep.Cut
namespace Go.Proofs.YtgoecghakiihpaaDoor
open Go.RowKit

set_option maxHeartbeats 1000000 in
set_option maxRecDepth 100000 in
theorem lawOf_any {ok ok' : Nat → Prop} (ns : List Zq.Nd) (fs : List Tq.Fd) (A A' : Option Addr) (m c n c' : Nat) (w : World) (hH : HeldK w) (hN : NsE w ok' (.slice A' n c') ns) (hns : ns.length = n) (hsz : n * 48 ≤ 140737488355328) (hF : FsE w ok (.slice A m c) fs) (hfs : fs.length = m) :
    Calls Tryd.prog 3 #[.slice A' n c', .slice A m c] w (IsTrue w) := by
  have hC := of_any ns fs A A' m c n c' w hH hN hns hsz hF hfs
  have HH : Hid (HeldK w) := hH
  have HN := Lib.hid hN
  have HF := Lib.hid hF
  obtain ⟨⟨t, ee⟩, et⟩ : ∃ p, Tq.of fs ns = p := ⟨_, rfl⟩
  have HT := Lib.hid et
  rw [et] at hC
  clear hH hN hF et
  go_enter Tryd.func3, Tryd.ntmps3
  go_wp2_with fail
  refine hC.mono ?_
  rintro e w1 ⟨hb1, rfl⟩
  clear hC
  have hC := refOf_any ns fs A A' m c n c' w1 (HN.out.more hb1) hns hsz (HF.out.more hb1) hfs
  rw [HT.out] at hC
  have HB1 := Lib.hid hb1
  clear hb1
  go_wp2_with fail
  refine hC.mono ?_
  rintro e w2 ⟨hb2, rfl⟩
  clear hC
  have HB2 := Lib.hid (below_onZ HB1.out hb2)
  have hA := alive12_any w2 (HH.out.below HB2.out)
  clear hb2
  go_wp2_with fail
  refine hA.mono ?_
  rintro e w3 ⟨rfl, hb3⟩
  have HE : Hid (IsTrue w (.returned (.bool true)) w3) := ⟨rfl, below_onZ HB2.out hb3⟩
  have g1 : (t == t) = true := by simp
  have g2 : (ee == ee) = true := by simp
  clear hA hb3
  go_wp2
  go_ret
  exact HE.out

set_option maxHeartbeats 1000000 in
set_option maxRecDepth 100000 in
theorem lawChecks_any {ok ok' : Nat → Prop} (l : List Zq.Rl) (fs : List Tq.Fd) (A A' : Option Addr) (m c n c' : Nat) (w : World) (hH : HeldK w) (hL : RsE w ok' (.slice A' n c') l) (hl : l.length = n) (hsz : SzRs l) (hF : FsE w ok (.slice A m c) fs) (hfs : fs.length = m) :
    Calls Tryd.prog 4 #[.slice A' n c', .slice A m c] w (IsTrue w) := by
  have hA := alive12_any w hH
  have HH : Hid (HeldK w) := hH
  have HL := Lib.hid hL
  have HF := Lib.hid hF
  have HSZ := Lib.hid hsz
  obtain ⟨q, eq⟩ : ∃ q, Tq.check fs l = q := ⟨_, rfl⟩
  have HQ := Lib.hid eq
  clear hH hL hF hsz eq
  go_enter Tryd.func4, Tryd.ntmps4
  go_wp2_with fail
  refine hA.mono ?_
  rintro e w1 ⟨rfl, hb1⟩
  clear hA
  have hC := check12_any l fs A A' m c n c' w1 (HH.out.below hb1) (HL.out.more hb1) hl HSZ.out (HF.out.more hb1) hfs
  rw [HQ.out] at hC
  have HB1 := Lib.hid hb1
  clear hb1
  go_wp2_with fail
  refine hC.mono ?_
  rintro e w2 ⟨hb2, rfl⟩
  clear hC
  have HB2 := Lib.hid (below_onZ HB1.out hb2)
  have hC := refCheck12_any l fs A A' m c n c' w2 (HL.out.more HB2.out) hl HSZ.out (HF.out.more HB2.out) hfs
  rw [HQ.out] at hC
  clear hb2
  go_wp2_with fail
  refine hC.mono ?_
  rintro e w3 ⟨hb3, rfl⟩
  have HE : Hid (IsTrue w (.returned (.bool true)) w3) := ⟨rfl, below_onZ HB2.out hb3⟩
  have g1 : (q == q) = true := by simp
  clear hC hb3
  go_wp2
  go_ret
  exact HE.out

theorem cut_none (A : Option Addr) (c s : Nat) : (if c = 0 then A else A.map (·.add (0 * s))) = A := by
  split
  · rfl
  · cases A with
    | none => rfl
    | some a => obtain ⟨b, off, sp⟩ := a; simp [Addr.add]
section
variable {ops : Array Oper} {rest : List Oper} {o : Oper} {a : Act} {Q : Exit → Act → World → Prop} {w : World}
set_option maxRecDepth 100000 in
theorem slice_nodes_at (hgd : o.guard = none) (x y : Operand) (ho : o.op = .slice 22 x none (some y) none) (A : Option Addr) (l c n : Nat) (hx : a.eval x = .slice A l c) (hy : a.eval y = .int .i64 n) (hn : n ≤ c)
    (h : wpList Tryd.prog ops Q rest (a.put o.dst (.slice A n c)) w) : wpList Tryd.prog ops Q (o :: rest) a w := by
  refine wpList_plain hgd fun K hK => ?_
  have hr := run_slice_h (P := Tryd.prog) w 22 A l c Tryd.underlying22 .i64 n (by omega) (by omega)
  have hz := Tryd.sizeOf41
  have he : Tryd.prog.elem 22 = 41 := by kernel_rfl
  have hs : sliced A 0 ((n : Int)).toNat c 5 = .slice A n c := by
    simp only [sliced, Int.toNat_natCast, Nat.sub_zero]
    rw [cut_none]
  rw [he] at hr
  simp only [hz, Result.andThen, hs] at hr
  unfold Oper.wp
  rw [execOp, ho]
  simp [hx, hy, run_sliceAt_slice (P := Tryd.prog) w 22 _ _ _ _ Tryd.underlying22, hr, Result.andThen]
  exact hK _ _ h
end
theorem NsE.takeE {w : World} {ok : Nat → Prop} {A : Option Addr} {n c : Nat} {ns : List Zq.Nd} (h : NsE w ok (.slice A n c) ns) (k : Nat) (hk : k ≤ ns.length) : NsE w ok (.slice A k c) (ns.take k) := by
  obtain ⟨A', c', e, h1, h2, h4, h5⟩ := h
  injection e with e1 e2 e3
  subst e1 e3
  have hl : (ns.take k).length = k := by rw [List.length_take]; omega
  refine ⟨A, c, by rw [hl], by omega, h2, fun n hn => h4 n (List.mem_of_mem_take hn), fun hp => ?_⟩
  rw [hl] at hp
  obtain ⟨b, off, rfl, k1, k2, k3⟩ := h5 (by omega)
  refine ⟨b, off, rfl, k1, k2, fun j x hj => k3 j x ?_⟩
  have e : ncells ns = ncells (ns.take k) ++ ncells (ns.drop k) := by rw [← ncells_append, List.take_append_drop]
  rw [e, List.getElem?_append_left (List.getElem?_eq_some_iff.1 hj).1]
  exact hj
theorem NsE.capE {w : World} {ok : Nat → Prop} {A : Option Addr} {n c : Nat} {ns : List Zq.Nd} (h : NsE w ok (.slice A n c) ns) : n ≤ c ∧ c ≤ 9223372036854775807 := by
  obtain ⟨A', c', e, h1, h2, _⟩ := h
  injection e with e1 e2 e3
  omega
set_option maxHeartbeats 2000000 in
set_option maxRecDepth 100000 in
theorem lawParts_any {ok ok' : Nat → Prop} (ns : List Zq.Nd) (fs : List Tq.Fd) (A A' : Option Addr) (m c n c' : Nat) (z : Int) (w : World) (hH : HeldK w) (hN : NsE w ok' (.slice A' n c') ns) (hns : ns.length = n) (hsz : n * 48 ≤ 140737488355328) (hF : FsE w ok (.slice A m c) fs) (hfs : fs.length = m) :
    Calls Tryd.prog 7 #[.slice A' n c', .slice A m c, .int .i64 z] w (IsTrue w) := by
  have hC := of_any ns fs A A' m c n c' w hH hN hns hsz hF hfs
  have HH : Hid (HeldK w) := hH
  have HN := Lib.hid hN
  have HF := Lib.hid hF
  obtain ⟨⟨t, ee⟩, et⟩ : ∃ p, Tq.of fs ns = p := ⟨_, rfl⟩
  have HT := Lib.hid et
  rw [et] at hC
  clear hH hN hF et
  by_cases hout : ee ≠ 0 ∨ z < 1 ∨ (n : Int) < z
  · have hdd : (ee != 0) = true ∨ ((ee != 0) = false ∧ decide (z < 1) = true) ∨ ((ee != 0) = false ∧ decide (z < 1) = false ∧ decide ((n : Int) < z) = true) := by
      by_cases h1 : ee = 0
      · have e1 : (ee != 0) = false := by simp [h1]
        by_cases h2 : z < 1
        · exact .inr (.inl ⟨e1, decide_eq_true h2⟩)
        · exact .inr (.inr ⟨e1, decide_eq_false h2, decide_eq_true (by omega)⟩)
      · exact .inl (by simp [h1])
    clear hout
    rcases hdd with d1 | ⟨d1, d2⟩ | ⟨d1, d2, d3⟩
    all_goals
      go_enter Tryd.func7, Tryd.ntmps7
      go_wp2_with fail
      refine hC.mono ?_
      rintro e w1 ⟨hb1, rfl⟩
      clear hC
      have HB1 := Lib.hid hb1
      have hA := alive12_any w1 (HH.out.below hb1)
      clear hb1
      go_wp2_with fail
      refine hA.mono ?_
      rintro e w2 ⟨rfl, hb2⟩
      have HE : Hid (IsTrue w (.returned (.bool true)) w2) := ⟨rfl, below_onZ HB1.out hb2⟩
      clear hA hb2
      go_wp2
      go_ret
      exact HE.out
  obtain ⟨k, rfl⟩ : ∃ k : Nat, z = (k : Int) := ⟨z.toNat, by omega⟩
  have he : ee = 0 := by omega
  have hk1 : 1 ≤ k := by omega
  have hkn : k ≤ n := by omega
  subst he
  have d2 : decide ((k : Int) < 1) = false := decide_eq_false (by omega)
  have d3 : decide ((n : Int) < (k : Int)) = false := decide_eq_false (by omega)
  have HTK : Hid (∃ t', Tq.of fs (ns.take k) = (t', 0)) := by
    have := Tq.of_take (fs := fs) (ns := ns) (k := k) (by omega) (by rw [HT.out])
    exact ⟨(Tq.of fs (ns.take k)).1, by rw [← this]⟩
  clear hout
  go_enter Tryd.func7, Tryd.ntmps7
  go_wp2_with fail
  refine hC.mono ?_
  rintro e w1 ⟨hb1, rfl⟩
  clear hC
  have HB1 := Lib.hid hb1
  have hN2 := (HN.out.takeE k (by omega)).more hb1
  have hcap := HN.out.capE
  obtain ⟨t', et'⟩ := HTK.out
  have hC := of_any (ns.take k) fs A A' m c k c' w1 (HH.out.below hb1) hN2 (by rw [List.length_take]; omega) (by omega) (HF.out.more hb1) hfs
  rw [et'] at hC
  clear hb1 hN2 et'
  repeat ((fail_if_success (with_reducible show wpList _ _ _ (⟨some 33, _, _, _, _, _⟩ :: _) _ _)); first | go_values | go_skip | go_guarded | go_step | go_upon | go_back | go_simp)
  refine slice_nodes_at rfl (.tmp 31) (.tmp 32) rfl A' n c' k rfl rfl (by omega) ?_
  go_frame
  go_wp2_with fail
  refine hC.mono ?_
  rintro e w2 ⟨hb2, rfl⟩
  have HB2 := Lib.hid (below_onZ HB1.out hb2)
  have hA := alive12_any w2 (HH.out.below HB2.out)
  clear hC hb2
  go_wp2_with fail
  refine hA.mono ?_
  rintro e w3 ⟨rfl, hb3⟩
  have HE : Hid (IsTrue w (.returned (.bool true)) w3) := ⟨rfl, below_onZ HB2.out hb3⟩
  clear hA hb3
  go_wp2
  go_ret
  exact HE.out
end Go.Proofs.YtgoecghakiihpaaDoor
