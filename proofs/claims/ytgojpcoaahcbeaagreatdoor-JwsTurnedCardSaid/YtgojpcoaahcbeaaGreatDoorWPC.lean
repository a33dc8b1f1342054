/-
  WPC: WObj WAlg WKidIn WHead WSign, side by side.
-/
import Derived.Test.YtgojpcoaahcbeaaGreatDoorWPA
import Derived.Test.YtgojpcoaahcbeaaGreatDoorWPB
import Derived.Test.YtgojpcoaahcbeaaGreatDoorQK
import Derived.Test.YtgojpcoaahcbeaaGreatDoorQJ
import Derived.Lib.QuietBelow
import Derived.BigQuiet
import Derived.Test.YtgojpcoaahcbeaaGreatDoorQI

/-
  The contract of jws.object.
-/
namespace Go.Proofs.YtgojpcoaahcbeaaGreatDoor
open Go.RowKit

/-- What object answers. -/
def ObjEnd (q : List Nat) (w : World) (e : Ending) (w' : World) : Prop := Below w.heap.size w w' ∧
  ((∃ x u, Wq.obj q = some x ∧ e = .returned (.tuple #[u, .bool true]) ∧ IsJ w' (w.heap.size ≤ ·) u x) ∨ (Wq.obj q = none ∧ e = .returned (.tuple #[jv 0 false 0 ByteArray.empty nilS nilS, .bool false])))

set_option maxHeartbeats 2000000 in
set_option maxRecDepth 100000 in
theorem object8_any (q : List Nat) (A : Option Addr) (c : Nat) (w : World) (hH : Held w) (hq : ArgIs w A c q) :
    Calls Tryz.prog 37 #[.slice A q.length c] w (ObjEnd q w) := by
  have hb0 : Below w.heap.size w (w.alloc (.cells #[.int .i64 0, .bool false, .int .i64 0, .string { data := #[] }, .slice none 0 0, .slice none 0 0] 25)) := (Below.refl _ _).alloc (Nat.le_refl _) _
  have hl0 : Lies (w.alloc (.cells #[.int .i64 0, .bool false, .int .i64 0, .string { data := #[] }, .slice none 0 0, .slice none 0 0] 25)) w.heap.size 25 [.int .i64 0, .bool false, .int .i64 0, .string { data := #[] }, .slice none 0 0, .slice none 0 0] := Lies.new_ rfl
  have hcv := conv_str (hq.below hb0 (Nat.le_refl _))
  have hP := parseJ_any (strOf q) _ (hH.below hb0)
  rw [numsOf_strOf hq.2.2.1] at hP
  have HB0 := Lib.hid hb0
  have HL0 := Lib.hid hl0
  obtain ⟨X, eX⟩ : ∃ X, strOf q = X := ⟨_, rfl⟩
  obtain ⟨n, en⟩ : ∃ n, q.length = n := ⟨_, rfl⟩
  rw [eX] at hcv hP
  rw [en] at hcv ⊢
  clear hq hH hb0 hl0 eX en
  go_enter Tryz.func37, Tryz.ntmps37
  go_wp2_with fail
  refine hP.mono ?_
  intro e w1 hh
  clear hP hcv
  rcases ParseEndJ.cases hh with ⟨x, u, hp, rfl, hJ, hb1⟩ | ⟨m, hp, rfl, hm, hb1⟩
  · obtain ⟨A1, c1, A2, c2, rfl⟩ := hJ.form
    have hl1 := HL0.out.below hb1 HL0.out.lt
    have hbw := below_more HB0.out hb1
    obtain ⟨W1, eW1⟩ : ∃ W1, W1 = w1.alloc (.cells #[.int .i64 x.kind, .bool x.bool, .int .i64 x.int, .string (strOf x.text), .slice A1 x.names.length c1, .slice A2 x.list.length c2] 25) := ⟨_, rfl⟩
    have hbW1 : Below w1.heap.size w1 W1 := by rw [eW1]; exact (Below.refl _ _).alloc (Nat.le_refl _) _
    have hlW := hl1.below hbW1 hl1.lt
    have hJW := hJ.on hbW1
    have hbW := below_more hbw hbW1
    obtain ⟨⟨z0, z1, z2, z3, z4, z5⟩, f0, f1, f2, f3, f4, f5⟩ := hlW.six
    by_cases hk : x.kind = 5
    · have hd : (x.kind != 5) = false := by rw [hk]; rfl
      have HO := Lib.hid (Wq.obj_yes hp hk)
      have hlf : Lies (put6 W1 w.heap.size (.int .i64 x.kind) (.bool x.bool) (.int .i64 x.int) (.string (strOf x.text)) (.slice A1 x.names.length c1) (.slice A2 x.list.length c2)) w.heap.size 25 [.int .i64 x.kind, .bool x.bool, .int .i64 x.int, .string (strOf x.text), .slice A1 x.names.length c1, .slice A2 x.list.length c2] := hlW.put6
      obtain ⟨⟨q0, q1, q2, q3, q4, q5⟩, _⟩ := hlf.six
      have HE : Hid (ObjEnd q w (.returned (.tuple #[jv x.kind x.bool x.int (strOf x.text) (.slice A1 x.names.length c1) (.slice A2 x.list.length c2), .bool true])) (put6 W1 w.heap.size (.int .i64 x.kind) (.bool x.bool) (.int .i64 x.int) (.string (strOf x.text)) (.slice A1 x.names.length c1) (.slice A2 x.list.length c2))) :=
        ⟨hbW.trans (gb_down gb_put6 hbW.size (Nat.le_refl _)), .inl ⟨x, _, HO.out, rfl, ((hJW.from (C := w.heap.size + 1) (by simp)).put6 (Nat.lt_succ_self _)).from (Nat.le_succ _)⟩⟩
      rw [eW1] at z0 z1 z2 z3 z4 z5 f0 f1 f2 f3 f4 f5 q0 q1 q2 q3 q4 q5 HE
      clear hh hp hJ hl1 hbw hbW1 hlW hJW hbW hlf hk eW1
      go_wp2
      exact bodyPost_ret (v := .tuple #[jv x.kind x.bool x.int (strOf x.text) (.slice A1 x.names.length c1) (.slice A2 x.list.length c2), .bool true]) (by simp [results, Tryz.results37, go_sem, q0, q1, q2, q3, q4, q5]) rfl HE.out
    · have hd : (x.kind != 5) = true := by rw [bne_iff_ne]; exact hk
      have HO := Lib.hid (Wq.obj_no hp hk)
      have hlf : Lies (put6 W1 w.heap.size (.int .i64 0) (.bool false) (.int .i64 0) (.string { data := #[] }) (.slice none 0 0) (.slice none 0 0)) w.heap.size 25 [.int .i64 0, .bool false, .int .i64 0, .string { data := #[] }, .slice none 0 0, .slice none 0 0] := hlW.put6
      obtain ⟨⟨q0, q1, q2, q3, q4, q5⟩, _⟩ := hlf.six
      have HE : Hid (ObjEnd q w (.returned (.tuple #[jv 0 false 0 ByteArray.empty nilS nilS, .bool false])) (put6 W1 w.heap.size (.int .i64 0) (.bool false) (.int .i64 0) (.string { data := #[] }) (.slice none 0 0) (.slice none 0 0))) :=
        ⟨hbW.trans (gb_down gb_put6 hbW.size (Nat.le_refl _)), .inr ⟨HO.out, rfl⟩⟩
      rw [eW1] at z0 z1 z2 z3 z4 z5 f0 f1 f2 f3 f4 f5 q0 q1 q2 q3 q4 q5 HE
      clear hh hp hJ hl1 hbw hbW1 hlW hJW hbW hlf hk eW1
      go_wp2
      exact bodyPost_ret (v := .tuple #[jv 0 false 0 ByteArray.empty nilS nilS, .bool false]) (by simp [results, Tryz.results37, go_sem, q0, q1, q2, q3, q4, q5]; rfl) rfl HE.out
  · have hl1 := HL0.out.below hb1 HL0.out.lt
    have hbw := below_more HB0.out hb1
    obtain ⟨W1, eW1⟩ : ∃ W1, W1 = w1.alloc (.cells #[.int .i64 0, .bool false, .int .i64 0, .string ByteArray.empty, .slice none 0 0, .slice none 0 0] 25) := ⟨_, rfl⟩
    have hbW1 : Below w1.heap.size w1 W1 := by rw [eW1]; exact (Below.refl _ _).alloc (Nat.le_refl _) _
    have hlW := hl1.below hbW1 hl1.lt
    have hbW := below_more hbw hbW1
    obtain ⟨⟨z0, z1, z2, z3, z4, z5⟩, f0, f1, f2, f3, f4, f5⟩ := hlW.six
    have hd : ((m : Int) != 0) = true := by rw [bne_iff_ne]; omega
    have HO := Lib.hid (Wq.obj_err hp)
    have hlf : Lies (put6 W1 w.heap.size (.int .i64 0) (.bool false) (.int .i64 0) (.string { data := #[] }) (.slice none 0 0) (.slice none 0 0)) w.heap.size 25 [.int .i64 0, .bool false, .int .i64 0, .string { data := #[] }, .slice none 0 0, .slice none 0 0] := hlW.put6
    obtain ⟨⟨q0, q1, q2, q3, q4, q5⟩, _⟩ := hlf.six
    have HE : Hid (ObjEnd q w (.returned (.tuple #[jv 0 false 0 ByteArray.empty nilS nilS, .bool false])) (put6 W1 w.heap.size (.int .i64 0) (.bool false) (.int .i64 0) (.string { data := #[] }) (.slice none 0 0) (.slice none 0 0))) :=
      ⟨hbW.trans (gb_down gb_put6 hbW.size (Nat.le_refl _)), .inr ⟨HO.out, rfl⟩⟩
    rw [eW1] at z0 z1 z2 z3 z4 z5 f0 f1 f2 f3 f4 f5 q0 q1 q2 q3 q4 q5 HE
    clear hh hp hl1 hbw hbW1 hlW hbW hlf eW1 hm
    go_wp2
    exact bodyPost_ret (v := .tuple #[jv 0 false 0 ByteArray.empty nilS nilS, .bool false]) (by simp [results, Tryz.results37, go_sem, q0, q1, q2, q3, q4, q5]; rfl) rfl HE.out
end Go.Proofs.YtgojpcoaahcbeaaGreatDoor

/-
  The contract of hasAlg.
-/
namespace Go.Proofs.YtgojpcoaahcbeaaGreatDoor
open Go.RowKit Go.Sort

abbrev hsB : ByteArray := { data := #[72, 83, 50, 53, 54] }
theorem hsB_eq : strOf Wq.hsN = hsB := rfl

set_option maxHeartbeats 2000000 in
set_option maxRecDepth 100000 in
theorem hasAlg_any {ok : Nat → Prop} (x : Jq.J) (v : Value) (w : World) (hJ : IsJ w ok v x) :
    Calls Tryz.prog 38 #[v] w (Tells (Wq.AlgOk x) w) := by
  obtain ⟨A1, c1, A2, c2, rfl⟩ := hJ.form
  obtain ⟨W0, eW0⟩ : ∃ W0, W0 = w.alloc (.cells #[.int .i64 x.kind, .bool x.bool, .int .i64 x.int, .string (strOf x.text), .slice A1 x.names.length c1, .slice A2 x.list.length c2] 25) := ⟨_, rfl⟩
  have hb0 : Below w.heap.size w W0 := by rw [eW0]; exact (Below.refl _ _).alloc (Nat.le_refl _) _
  have hG := get_any x _ Wq.algN (by decide) W0 (hJ.on hb0)
  rw [eW0] at hG
  have HW0 := Lib.hid eW0
  have HB0 := Lib.hid hb0
  clear hJ hb0 eW0
  have HA : Hid (Wq.AlgOk x ↔ getP x Wq.algN = some (Jq.textJ Wq.hsN)) := ⟨fun ⟨v, h1, h2⟩ => by rw [h1, h2], fun h => ⟨_, h, rfl⟩⟩
  obtain ⟨RES, eRES⟩ : ∃ RES, getP x Wq.algN = RES := ⟨_, rfl⟩
  rw [eRES] at hG HA
  clear eRES
  go_enter Tryz.func38, Tryz.ntmps38
  go_wp2_with fail
  refine hG.mono ?_
  intro e w1 hh
  clear hG
  rw [← HW0.out] at hh
  obtain ⟨hb1, hh⟩ := hh
  have hbw := below_more HB0.out hb1
  clear hb1
  cases RES with
  | none =>
    subst hh
    have HE : Hid (∀ W, Below w.heap.size w W → Tells (Wq.AlgOk x) w (.returned (.bool false)) W) := fun W hb => Tells.no (fun h => by have := HA.out.1 h; cases this) hb
    have hb2 := below_alloc hbw (.cells #[.int .i64 0, .bool false, .int .i64 0, .string ByteArray.empty, .slice none 0 0, .slice none 0 0] 25)
    go_upto_region 2 with (fail)
    refine wp_region_quiet_below (by kernel_rfl) (by kernel_rfl) ?_
    repeat (go_big_quiet_step (fail))
    refine wpQuiet_nil ?_
    intro w' hw'
    obtain ⟨⟨dq, osq⟩, hw''⟩ := hw'
    subst hw''
    have hfin := below_regrown (w1.alloc (.cells #[.int .i64 0, .bool false, .int .i64 0, .string ByteArray.empty, .slice none 0 0, .slice none 0 0] 25)) dq osq
    have hb6 := below_more hb2 hfin
    go_wp2
    go_ret
    exact HE.out _ hb6
  | some y =>
    obtain ⟨u, rfl, hJ1⟩ := hh
    obtain ⟨B1, d1, B2, d2, rfl⟩ := hJ1.form
    obtain ⟨W1, eW1⟩ : ∃ W1, W1 = w1.alloc (.cells #[.int .i64 y.kind, .bool y.bool, .int .i64 y.int, .string (strOf y.text), .slice B1 y.names.length d1, .slice B2 y.list.length d2] 25) := ⟨_, rfl⟩
    have hbW : Below w1.heap.size w1 W1 := by rw [eW1]; exact (Below.refl _ _).alloc (Nat.le_refl _) _
    have hlW : Lies W1 w1.heap.size 25 [.int .i64 y.kind, .bool y.bool, .int .i64 y.int, .string (strOf y.text), .slice B1 y.names.length d1, .slice B2 y.list.length d2] := by rw [eW1]; exact Lies.new_ rfl
    have hJW := hJ1.on hbW
    have hb2 := below_more hbw hbW
    obtain ⟨⟨z0, z1, z2, z3, z4, z5⟩, _⟩ := hlW.six
    have k0 := cell_regrown z0
    have k1 := cell_regrown z1
    have k2 := cell_regrown z2
    have k3 := cell_regrown z3
    have k4 := cell_regrown z4
    have k5 := cell_regrown z5
    have cT : ∀ d os, Calls Tryz.prog 53 #[.string hsB] (grow (redrawn W1 d) os) fun e w2 => e = .returned (jv 3 false 0 hsB nilS nilS) ∧ ∃ r : Regrown, w2 = grow (redrawn W1 r.d) r.os := fun d os => Calls.regrown_of (textMade_any hsB _)
    have hsame : ∀ r : Bool, (r = true ↔ y = Jq.textJ Wq.hsN) → ∀ d os, Calls Tryz.prog 65 #[jv y.kind y.bool y.int (strOf y.text) (.slice B1 y.names.length d1) (.slice B2 y.list.length d2), jv 3 false 0 hsB nilS nilS] (grow (redrawn W1 d) os) fun e w2 => e = .returned (.bool r) ∧ ∃ r : Regrown, w2 = grow (redrawn W1 r.d) r.os := fun r hr d os =>
      Calls.regrown_of ((same_any y (Jq.textJ Wq.hsN) _ _ _ (hJW.on (below_regrown W1 d os)) (isJ_plain _ (fun _ => True) (t := Wq.hsN) (by omega) (by omega) (by decide))).mono fun e w2 hh => by
        obtain ⟨hb, ⟨h1, rfl⟩ | ⟨h1, rfl⟩⟩ := hh
        · exact ⟨by rw [hr.2 h1], hb⟩
        · have : r = false := by cases r with | false => rfl | true => exact absurd (hr.1 rfl) h1
          exact ⟨by rw [this], hb⟩)
    by_cases hy : y = Jq.textJ Wq.hsN
    · have cS := hsame true ⟨fun _ => hy, fun _ => rfl⟩
      have HE : Hid (∀ W, Below w.heap.size w W → Tells (Wq.AlgOk x) w (.returned (.bool true)) W) := fun W hb => Tells.yes (HA.out.2 (by rw [hy])) hb
      clear hsame hy hJ1 hbw hlW hJW hbW z0 z1 z2 z3 z4 z5
      rw [eW1] at k0 k1 k2 k3 k4 k5 cT cS hb2
      clear eW1
      go_upto_region 2 with (fail)
      refine wp_region_quiet_below (by kernel_rfl) (by kernel_rfl) ?_
      repeat (go_big_quiet_step (first | with_reducible exact cT _ _ | with_reducible exact cS _ _))
      refine wpQuiet_nil ?_
      intro w' hw'
      obtain ⟨⟨dq, osq⟩, hw''⟩ := hw'
      subst hw''
      have hb6 := below_more hb2 (below_regrown _ dq osq)
      go_wp2
      go_ret
      exact HE.out _ hb6
    · have cS := hsame false ⟨fun h => (by cases h), fun h => absurd h hy⟩
      have HE : Hid (∀ W, Below w.heap.size w W → Tells (Wq.AlgOk x) w (.returned (.bool false)) W) := fun W hb => Tells.no (fun h => hy (Option.some.inj (HA.out.1 h))) hb
      clear hsame hy hJ1 hbw hlW hJW hbW z0 z1 z2 z3 z4 z5
      rw [eW1] at k0 k1 k2 k3 k4 k5 cT cS hb2
      clear eW1
      go_upto_region 2 with (fail)
      refine wp_region_quiet_below (by kernel_rfl) (by kernel_rfl) ?_
      repeat (go_big_quiet_step (first | with_reducible exact cT _ _ | with_reducible exact cS _ _))
      refine wpQuiet_nil ?_
      intro w' hw'
      obtain ⟨⟨dq, osq⟩, hw''⟩ := hw'
      subst hw''
      have hb6 := below_more hb2 (below_regrown _ dq osq)
      go_wp2
      go_ret
      exact HE.out _ hb6
end Go.Proofs.YtgojpcoaahcbeaaGreatDoor

/-
  The contract of kidIn.
-/
namespace Go.Proofs.YtgojpcoaahcbeaaGreatDoor
open Go.RowKit

/-- What kidIn answers. -/
def KidInEnd (res : Option (List Nat)) (w : World) (e : Ending) (w' : World) : Prop := Below w.heap.size w w' ∧ match res with
  | some k => e = .returned (.tuple #[.string (strOf k), .bool true])
  | none => e = .returned (.tuple #[.string ByteArray.empty, .bool false])

set_option maxHeartbeats 2000000 in
set_option maxRecDepth 100000 in
theorem kidIn_any {ok : Nat → Prop} (x : Jq.J) (v : Value) (w : World) (hJ : IsJ w ok v x) :
    Calls Tryz.prog 39 #[v] w (KidInEnd (Wq.kidOf x) w) := by
  obtain ⟨A1, c1, A2, c2, rfl⟩ := hJ.form
  obtain ⟨W0, eW0⟩ : ∃ W0, W0 = w.alloc (.cells #[.int .i64 x.kind, .bool x.bool, .int .i64 x.int, .string (strOf x.text), .slice A1 x.names.length c1, .slice A2 x.list.length c2] 25) := ⟨_, rfl⟩
  have hb0 : Below w.heap.size w W0 := by rw [eW0]; exact (Below.refl _ _).alloc (Nat.le_refl _) _
  have hl0 : Lies W0 w.heap.size 25 [.int .i64 x.kind, .bool x.bool, .int .i64 x.int, .string (strOf x.text), .slice A1 x.names.length c1, .slice A2 x.list.length c2] := by rw [eW0]; exact Lies.new_ rfl
  have hG := get_any x _ Wq.kidN (by decide) W0 (hJ.on hb0)
  rw [eW0] at hG
  have HW0 := Lib.hid eW0
  have HB0 := Lib.hid hb0
  have HL0 := Lib.hid hl0
  clear hJ hb0 eW0 hl0
  have HNo := Lib.hid (@Wq.kidOf_none x)
  have HYes : Hid (∀ y, getP x Wq.kidN = some y → (y.kind = 3 ∧ Wq.KidOk y.text ∧ x.names.length = 2) → Wq.kidOf x = some y.text) := fun y h => Wq.kidOf_yes h
  have HBad : Hid (∀ y, getP x Wq.kidN = some y → ¬ (y.kind = 3 ∧ Wq.KidOk y.text ∧ x.names.length = 2) → Wq.kidOf x = none) := fun y h => Wq.kidOf_no h
  obtain ⟨RES, eRES⟩ : ∃ RES, getP x Wq.kidN = RES := ⟨_, rfl⟩
  obtain ⟨K, eK⟩ : ∃ K, Wq.kidOf x = K := ⟨_, rfl⟩
  rw [eRES] at hG HNo HYes HBad
  rw [eK] at HNo HYes HBad ⊢
  clear eRES eK
  go_enter Tryz.func39, Tryz.ntmps39
  go_wp2_with fail
  refine hG.mono ?_
  intro e w1 hh
  clear hG
  rw [← HW0.out] at hh
  obtain ⟨hb1, hh⟩ := hh
  have hbw := below_more HB0.out hb1
  have hl1 := HL0.out.below hb1 HL0.out.lt
  clear hb1
  cases RES with
  | none =>
    subst hh
    have HE : Hid (∀ W, Below w.heap.size w W → KidInEnd K w (.returned (.tuple #[.string ByteArray.empty, .bool false])) W) := fun W hb => ⟨hb, by rw [HNo.out rfl]⟩
    have hb2 := below_alloc hbw (.cells #[.int .i64 0, .bool false, .int .i64 0, .string ByteArray.empty, .slice none 0 0, .slice none 0 0] 25)
    go_wp2
    go_ret2
    exact HE.out _ hb2
  | some y =>
    obtain ⟨u, rfl, hJ1⟩ := hh
    have hyt : ∀ b ∈ y.text, b < 256 := by obtain ⟨_, _, _, _, _, ht, _⟩ := hJ1.parts; exact ht.2
    obtain ⟨B1, d1, B2, d2, rfl⟩ := hJ1.form
    obtain ⟨W1, eW1⟩ : ∃ W1, W1 = w1.alloc (.cells #[.int .i64 y.kind, .bool y.bool, .int .i64 y.int, .string (strOf y.text), .slice B1 y.names.length d1, .slice B2 y.list.length d2] 25) := ⟨_, rfl⟩
    have hbW : Below w1.heap.size w1 W1 := by rw [eW1]; exact (Below.refl _ _).alloc (Nat.le_refl _) _
    have hlW : Lies W1 w1.heap.size 25 [.int .i64 y.kind, .bool y.bool, .int .i64 y.int, .string (strOf y.text), .slice B1 y.names.length d1, .slice B2 y.list.length d2] := by rw [eW1]; exact Lies.new_ rfl
    have hb2 := below_more hbw hbW
    have hl2 := hl1.below hbW hl1.lt
    obtain ⟨⟨z0, z1, z2, z3, z4, z5⟩, _⟩ := hlW.six
    obtain ⟨⟨y0, y1, y2, y3, y4, y5⟩, _⟩ := hl2.six
    rw [eW1] at z0 z1 z2 z3 z4 z5 y0 y1 y2 y3 y4 y5 hb2
    clear hJ1 hbw hbW hlW hl1 hl2
    by_cases hk : y.kind = 3
    · have hd : (y.kind != 3) = false := by rw [hk]; rfl
      have HK := Lib.hid hk
      have hI := fun W => isKid_any (strOf y.text) W
      rw [numsOf_strOf hyt] at hI
      clear eW1 hk
      go_wp2_with fail
      refine (hI _).mono ?_
      intro e w2 hh
      obtain ⟨hw, ⟨hk2, rfl⟩ | ⟨hk2, rfl⟩⟩ := hh
      · subst hw
        by_cases hn : x.names.length = 2
        · have hd2 : ((x.names.length : Int) != 2) = false := by rw [hn]; rfl
          have HE : Hid (∀ W, Below w.heap.size w W → KidInEnd K w (.returned (.tuple #[.string (strOf y.text), .bool true])) W) := fun W hb => ⟨hb, by rw [HYes.out y rfl ⟨HK.out, hk2, hn⟩]⟩
          clear hk2 hn hI
          go_wp2
          go_ret2
          exact HE.out _ hb2
        · have hd2 : ((x.names.length : Int) != 2) = true := by rw [bne_iff_ne]; omega
          have HE : Hid (∀ W, Below w.heap.size w W → KidInEnd K w (.returned (.tuple #[.string ByteArray.empty, .bool false])) W) := fun W hb => ⟨hb, by rw [HBad.out y rfl fun h => hn h.2.2]⟩
          clear hk2 hn hI
          go_wp2
          go_ret2
          exact HE.out _ hb2
      · subst hw
        have HE : Hid (∀ W, Below w.heap.size w W → KidInEnd K w (.returned (.tuple #[.string ByteArray.empty, .bool false])) W) := fun W hb => ⟨hb, by rw [HBad.out y rfl fun h => hk2 h.2.1]⟩
        clear hk2 hI
        go_wp2
        go_ret2
        exact HE.out _ hb2
    · have hd : (y.kind != 3) = true := by rw [bne_iff_ne]; exact hk
      have HE : Hid (∀ W, Below w.heap.size w W → KidInEnd K w (.returned (.tuple #[.string ByteArray.empty, .bool false])) W) := fun W hb => ⟨hb, by rw [HBad.out y rfl fun h => hk h.1]⟩
      clear hk eW1
      go_wp2
      go_ret2
      exact HE.out _ hb2
end Go.Proofs.YtgojpcoaahcbeaaGreatDoor

/-
  The contract of headOf.
-/
namespace Go.Proofs.YtgojpcoaahcbeaaGreatDoor
open Go.RowKit

abbrev algB : ByteArray := { data := #[97, 108, 103] }
abbrev kidB : ByteArray := { data := #[107, 105, 100] }
abbrev hsB' : ByteArray := { data := #[72, 83, 50, 53, 54] }

set_option maxHeartbeats 2000000 in
set_option maxRecDepth 100000 in
theorem headOf_any (k : List Nat) (hk : Wq.KidOk k) (w : World) (hH : Held w) :
    Calls Tryz.prog 27 #[.string (strOf k)] w fun e w' => e = .returned (.string (strOf (Wq.headT k))) ∧ Below w.heap.size w w' := by
  obtain ⟨W0, eW0⟩ : ∃ W0, W0 = w.alloc (.cells #[.string algB, .string kidB] 9) := ⟨_, rfl⟩
  have hb0 : Below w.heap.size w W0 := by rw [eW0]; exact (Below.refl _ _).alloc (Nat.le_refl _) _
  have hl0 : Lies W0 w.heap.size 9 [.string algB, .string kidB] := by rw [eW0]; exact Lies.new_ rfl
  have hT1 := textMade_any hsB' W0
  rw [eW0] at hT1
  have HT2 := Lib.hid (fun W => textMade_any (strOf k) W)
  have HH := Lib.hid hH
  have HB0 := Lib.hid hb0
  have HL0 := Lib.hid hl0
  have HW0 := Lib.hid eW0
  have HKT : Hid (strOf k = strOf k ∧ Wq.KidOk k) := ⟨rfl, hk⟩
  clear hH hb0 hl0 eW0 hk
  go_enter Tryz.func27, Tryz.ntmps27
  go_wp2_with fail
  refine hT1.mono ?_
  rintro e w1 ⟨rfl, hb1⟩
  clear hT1
  rw [← HW0.out] at hb1
  have hbw := below_more HB0.out hb1
  have hl1 := HL0.out.below hb1 HL0.out.lt
  clear hb1
  go_wp2_with fail
  refine (HT2.out _).mono ?_
  rintro e w2 ⟨rfl, hb2⟩
  have hbw2 := below_more hbw hb2
  have hl2 := hl1.below hb2 hl1.lt
  clear hbw hl1 hb2 HT2
  obtain ⟨W3, eW3⟩ : ∃ W3, W3 = w2.alloc (.cells #[.int .i64 3, .bool false, .int .i64 0, .string hsB', nilS, nilS, .int .i64 3, .bool false, .int .i64 0, .string (strOf k), nilS, nilS] 25) := ⟨_, rfl⟩
  have hb3 : Below w2.heap.size w2 W3 := by rw [eW3]; exact (Below.refl _ _).alloc (Nat.le_refl _) _
  have hl3 : Lies W3 w2.heap.size 25 [.int .i64 3, .bool false, .int .i64 0, .string hsB', nilS, nilS, .int .i64 3, .bool false, .int .i64 0, .string (strOf k), nilS, nilS] := by rw [eW3]; exact Lies.new_ rfl
  have hbw3 := below_more hbw2 hb3
  have hn3 := hl2.below hb3 hl2.lt
  have hkl := HKT.out.2.2.1
  have hS : SlIs W3 (fun _ => True) (.slice (some ⟨w.heap.size, 0, none⟩) 2 2) ([Wq.algN, Wq.kidN] : List (List Nat)).length (tcells [Wq.algN, Wq.kidN]) :=
    ⟨_, _, rfl, Nat.le_refl _, by decide, fun _ => ⟨_, _, rfl, trivial, hn3.lt, fun j x hj => by rw [Nat.zero_add, hn3.cell]; exact hj⟩⟩
  have hL : ListIs W3 (fun _ => True) (.slice (some ⟨w2.heap.size, 0, none⟩) 2 2) [Jq.textJ Wq.hsN, Jq.textJ k] :=
    ⟨[jv 3 false 0 (strOf Wq.hsN) nilS nilS, jv 3 false 0 (strOf k) nilS nilS], ⟨_, _, rfl, Nat.le_refl _, by decide, fun _ => ⟨_, _, rfl, trivial, hl3.lt, fun j x hj => by rw [Nat.zero_add, hl3.cell]; exact hj⟩⟩, rfl, by simp, fun i v x hv hx => by
      match i with
      | 0 =>
        injection hv with hv; injection hx with hx; subst hv hx
        exact isJ_plain _ _ (by omega) (by omega) (by decide)
      | 1 =>
        injection hv with hv; injection hx with hx; subst hv hx
        exact isJ_plain _ _ (by omega) (by omega) ⟨by omega, HKT.out.2.lt⟩
      | n + 2 => simp at hv⟩
  have hO := object_any _ _ [Wq.algN, Wq.kidN] [Jq.textJ Wq.hsN, Jq.textJ k] W3 hS (fun p hp => by
    rcases List.mem_cons.1 hp with rfl | hp
    · exact ⟨by decide, by decide⟩
    · obtain rfl : p = Wq.kidN := by simpa using hp
      exact ⟨by decide, by decide⟩) (by decide) hL
  have e0 : Jq.objJ [Wq.algN, Wq.kidN] [Jq.textJ Wq.hsN, Jq.textJ k] = Wq.headJ k := rfl
  rw [e0] at hO
  have HB3 := Lib.hid hbw3
  rw [eW3] at hO
  have HW3 := Lib.hid eW3
  clear eW3 hb3 hl3 hn3 hS hL hbw3 hbw2 hl2 e0 hkl
  go_wp2_with fail
  refine hO.mono ?_
  rintro e w4 ⟨u, rfl, hJ, hb4⟩
  clear hO
  rw [← HW3.out] at hb4 hJ
  have hbw4 := below_more HB3.out hb4
  have hP := print_any u (Wq.headJ k) w4 (HH.out.below hbw4) hJ
  rw [Wq.head_print HKT.out.2] at hP
  obtain ⟨T, eT⟩ : ∃ T, Wq.headT k = T := ⟨_, rfl⟩
  rw [eT] at hP
  have HT := Lib.hid eT
  clear eT hJ hb4
  go_wp2_with fail
  refine hP.mono ?_
  intro e w5 hh
  clear hP
  obtain ⟨hb5, rfl, _, _⟩ := hh
  have hbw5 := below_more hbw4 hb5
  clear hb5 hbw4
  go_wp2
  go_ret
  exact ⟨by rw [HT.out]; rfl, hbw5⟩
end Go.Proofs.YtgojpcoaahcbeaaGreatDoor

/-
  The contract of Sign.
-/
namespace Go.Proofs.YtgojpcoaahcbeaaGreatDoor
open Go.RowKit

/-- What Sign answers. -/
def SignEnd (res : Option (List Nat)) (w : World) (e : Ending) (w' : World) : Prop := Below w.heap.size w w' ∧ match res with
  | some T => e = .returned (.tuple #[.string (strOf T), .int .i64 0])
  | none => e = .returned (.tuple #[.string ByteArray.empty, .int .i64 80])

set_option maxHeartbeats 2000000 in
set_option maxRecDepth 100000 in
theorem sign_any {ok : Nat → Prop} (s : ByteArray) (x : Jq.J) (v : Value) (key : List Nat) (A : Option Addr) (c : Nat) (w : World) (hH : Held w) (hT : Tab w) (hJ : IsJ w ok v x) (hk : ArgIs w A c key) (hn : key.length ≤ 140737488355328) :
    Calls Tryz.prog 11 #[.string s, v, .slice A key.length c] w (SignEnd (Wq.signP (numsOf s) x key) w) := by
  obtain ⟨A1, c1, A2, c2, rfl⟩ := hJ.form
  obtain ⟨W0, eW0⟩ : ∃ W0, W0 = w.alloc (.cells #[.int .i64 x.kind, .bool x.bool, .int .i64 x.int, .string (strOf x.text), .slice A1 x.names.length c1, .slice A2 x.list.length c2] 25) := ⟨_, rfl⟩
  have hb0 : Below w.heap.size w W0 := by rw [eW0]; exact (Below.refl _ _).alloc (Nat.le_refl _) _
  have hl0 : Lies W0 w.heap.size 25 [.int .i64 x.kind, .bool x.bool, .int .i64 x.int, .string (strOf x.text), .slice A1 x.names.length c1, .slice A2 x.list.length c2] := by rw [eW0]; exact Lies.new_ rfl
  have hI := isKid_any s W0
  rw [eW0] at hI
  have hSg : Wq.signP (numsOf s) x key = if Wq.KidOk (numsOf s) ∧ x.kind = 5 then (Jq.valueP 16 [] x).map fun T => Wq.token (numsOf s) T key else none := rfl
  obtain ⟨RES, eRES⟩ : ∃ RES, Wq.signP (numsOf s) x key = RES := ⟨_, rfl⟩
  rw [eRES] at hSg ⊢
  have HSg := Lib.hid hSg
  have HW0 := Lib.hid eW0
  have HB0 := Lib.hid hb0
  have HH := Lib.hid hH
  have HJ := Lib.hid hJ
  have HK := Lib.hid hk
  have HTt := Lib.hid hT
  have HNk := Lib.hid hn
  obtain ⟨⟨z0, z1, z2, z3, z4, z5⟩, _⟩ := hl0.six
  rw [eW0] at z0 z1 z2 z3 z4 z5
  clear hH hT hJ hk hb0 hl0 eW0 eRES hSg hn
  go_enter Tryz.func11, Tryz.ntmps11
  go_wp2_with fail
  refine hI.mono ?_
  intro e w1 hh
  clear hI
  obtain ⟨hw, ⟨hkid, rfl⟩ | ⟨hkid, rfl⟩⟩ := hh
  rotate_left
  · subst hw
    have HE : Hid (SignEnd RES w (.returned (.tuple #[.string ByteArray.empty, .int .i64 80])) W0) := ⟨HB0.out, by rw [HSg.out, if_neg fun h => hkid h.1]⟩
    rw [HW0.out] at HE
    clear hkid
    go_wp2
    go_ret2
    exact HE.out
  subst hw
  have HKid := Lib.hid hkid
  clear hkid
  by_cases hk5 : x.kind = 5
  rotate_left
  · have hd : (x.kind != 5) = true := by rw [bne_iff_ne]; exact hk5
    have HE : Hid (SignEnd RES w (.returned (.tuple #[.string ByteArray.empty, .int .i64 80])) W0) := ⟨HB0.out, by rw [HSg.out, if_neg fun h => hk5 h.2]⟩
    rw [HW0.out] at HE
    clear hk5
    go_wp2
    go_ret2
    exact HE.out
  have hd : (x.kind != 5) = false := by rw [hk5]; rfl
  have HK5 := Lib.hid hk5
  have hP := print_any _ x W0 (HH.out.below HB0.out) (HJ.out.on HB0.out)
  rw [HW0.out] at hP
  clear hk5
  go_wp2_with fail
  refine hP.mono ?_
  intro e w2 hh
  clear hP z0 z1 z2 z3 z4 z5
  rw [← HW0.out] at hh
  rcases PrintEnd.cases hh with ⟨T, hr, rfl, hTl, hTn, hb2⟩ | ⟨hr, rfl, hb2⟩
  rotate_left
  · have HE : Hid (SignEnd RES w (.returned (.tuple #[.string ByteArray.empty, .int .i64 80])) w2) := ⟨below_more HB0.out hb2, by rw [HSg.out, if_pos ⟨HKid.out, HK5.out⟩, hr]; rfl⟩
    clear hh hr hb2
    go_wp2
    go_ret2
    exact HE.out
  have hbw2 := below_more HB0.out hb2
  have HR : Hid (RES = some (Wq.token (numsOf s) T key)) := by unfold Hid; rw [HSg.out, if_pos ⟨HKid.out, HK5.out⟩, hr]; rfl
  have hHd := headOf_any (numsOf s) HKid.out w2 (HH.out.below hbw2)
  rw [strOf_numsOf] at hHd
  clear hh hr hb2 hd
  go_wp2_with fail
  refine hHd.mono ?_
  rintro e w3 ⟨rfl, hb3⟩
  clear hHd
  have hbw3 := below_more hbw2 hb3
  have hE1 := encoded_any (strOf (Wq.headT (numsOf s))) w3 (by rw [strOf_size]; have := Wq.headT_len HKid.out; omega)
  rw [numsOf_strOf (Wq.headT_lt HKid.out)] at hE1
  clear hb3 hbw2
  go_wp2_with fail
  refine hE1.mono ?_
  rintro e w4 ⟨rfl, hb4⟩
  clear hE1
  have hbw4 := below_more hbw3 hb4
  have hE2 := encoded_any (strOf T) w4 (by rw [strOf_size]; omega)
  rw [numsOf_strOf hTl] at hE2
  clear hb4 hbw3
  go_wp2_with fail
  refine hE2.mono ?_
  rintro e w5 ⟨rfl, hb5⟩
  clear hE2
  have hbw5 := below_more hbw4 hb5
  have hsl := Wq.signedT_len (T := T) HKid.out hTn
  have hJd := joined_any (B64.enc (Wq.headT (numsOf s))) (B64.enc T) w5 (by unfold Wq.signedT at hsl; rw [List.length_append, List.length_cons] at hsl; omega)
  rw [show B64.enc (Wq.headT (numsOf s)) ++ 46 :: B64.enc T = Wq.signedT (numsOf s) T from rfl] at hJd
  clear hb5 hbw4
  go_wp2_with fail
  refine hJd.mono ?_
  rintro e w6 ⟨rfl, hw⟩
  subst hw
  clear hJd
  have hTk : Wq.token (numsOf s) T key = Wq.signedT (numsOf s) T ++ 46 :: B64.enc (Sha.mac key (Wq.signedT (numsOf s) T)) := rfl
  have hM := macOf_any key A c (strOf (Wq.signedT (numsOf s) T)) w5 (HTt.out.below hbw5 HTt.out.lt) (HK.out.below hbw5 (Nat.le_refl _)) HNk.out (by rw [strOf_size]; omega)
  rw [numsOf_strOf (Wq.signedT_lt _ _)] at hM
  rw [hTk] at HR
  obtain ⟨SG, eSG⟩ : ∃ SG, Wq.signedT (numsOf s) T = SG := ⟨_, rfl⟩
  rw [eSG] at hM HR hsl ⊢
  clear hTk eSG hTl hTn
  go_wp2_with fail
  refine hM.mono ?_
  rintro e w7 ⟨rfl, hb7⟩
  clear hM
  have hz := zero25
  have hbw7 := below_more hbw5 hb7
  have Hl32 : Hid ((Sha.mac key SG).length = 32) := Wq.mac_length _ _
  have Hlt : Hid (∀ x ∈ Sha.mac key SG, x < 256) := sha_mac_lt _ _
  obtain ⟨D, hDe⟩ : ∃ D, Sha.mac key SG = D := ⟨_, rfl⟩
  rw [hDe] at Hl32 Hlt HR ⊢
  have Hone : Hid ((u8s D).all (·.oneCell') = true) := List.all_eq_true.2 (u8s_one _)
  clear hDe hb7 hbw5
  repeat ((fail_if_success (with_reducible show wpList _ _ _ (⟨none, _, _, _, _, _⟩ :: _) _ _)); first | go_values | go_skip | go_guarded | go_step | go_upon | go_back | go_simp)
  with_reducible refine store_lies rfl 51 (.tmp 11) (.tmp 35) rfl w7.heap.size (u8s D) 51 (z8 32) (Lies.new_ rfl) ?sx ?sy ?si ?sl ?so ?_
  case sx => rfl
  case sy => rfl
  case si => (rw [z8_length]; exact info25)
  case sl => rw [u8s_length, Hl32.out, z8_length]
  case so => exact Hone.out
  generalize hw8 : World.setRow _ _ _ = w8
  have hD8 : Lies w8 w7.heap.size 51 (u8s D) := by rw [← hw8]; exact Lies.row (cs := z8 32) (Lies.new_ rfl)
  have hb8 : Below w.heap.size w w8 := by rw [← hw8]; exact below_row (hbw7.alloc hbw7.size _) hbw7.size
  clear hw8 hz
  have hE := encode_any D (some ⟨w7.heap.size, 0, none⟩) 32 w8 (arg_lies hD8 Hlt.out (by rw [Hl32.out]; exact Nat.le_refl _) (by decide)) (by rw [Hl32.out]; decide)
  rw [Hl32.out] at hE
  have HEl : Hid ((B64.enc D).length = 43) := by unfold Hid; rw [B64.enc_length, Hl32.out]; rfl
  clear hD8 hbw7
  go_frame
  go_wp2_with fail
  refine hE.mono ?_
  rintro e w9 ⟨rfl, hb9⟩
  clear hE
  have hbw9 := below_more hb8 hb9
  have hJd := joined_any SG (B64.enc D) w9 (by rw [HEl.out]; omega)
  clear hb8 hb9
  go_wp2_with fail
  refine hJd.mono ?_
  rintro e w10 ⟨rfl, hw⟩
  subst hw
  clear hJd
  have HE : Hid (SignEnd RES w (.returned (.tuple #[.string (strOf (SG ++ 46 :: B64.enc D)), .int .i64 0])) w9) := ⟨hbw9, by rw [HR.out]⟩
  clear hbw9
  go_wp2
  go_ret2
  exact HE.out
end Go.Proofs.YtgojpcoaahcbeaaGreatDoor
