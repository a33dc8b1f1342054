/-
  WPC: WObj WAlg WKidIn WHead WSign, side by side.
-/
import Derived.Test.YthklgpflaghojaaGreatDoorWPA
import Derived.Test.YthklgpflaghojaaGreatDoorWPB
import Derived.Test.YthklgpflaghojaaGreatDoorQK
import Derived.Test.YthklgpflaghojaaGreatDoorQJ
import Derived.Lib.QuietBelow
import Derived.BigQuiet
import Derived.Test.YthklgpflaghojaaGreatDoorQI

/-
  The contract of jws.object.
-/
namespace Go.Proofs.YthklgpflaghojaaGreatDoor
open Go.RowKit

/-- What object answers. -/
def ObjEnd (q : List Nat) (w : World) (e : Ending) (w' : World) : Prop := Below w.heap.size w w' ∧
  ((∃ x u, Wq.obj q = some x ∧ e = .returned (.tuple #[u, .bool true]) ∧ IsJ w' (w.heap.size ≤ ·) u x) ∨ (Wq.obj q = none ∧ e = .returned (.tuple #[jv 0 false 0 ByteArray.empty nilS nilS, .bool false])))

set_option maxHeartbeats 2000000 in
set_option maxRecDepth 100000 in
theorem object8_any (q : List Nat) (A : Option Addr) (c : Nat) (w : World) (hH : Held w) (hq : ArgIs w A c q) :
    Calls Tryz.prog 31 #[.slice A q.length c] w (ObjEnd q w) := by
  have hb0 : Below w.heap.size w (w.alloc (.cells #[.int .i64 0, .bool false, .int .i64 0, .string { data := #[] }, .slice none 0 0, .slice none 0 0] 26)) := (Below.refl _ _).alloc (Nat.le_refl _) _
  have hl0 : Lies (w.alloc (.cells #[.int .i64 0, .bool false, .int .i64 0, .string { data := #[] }, .slice none 0 0, .slice none 0 0] 26)) w.heap.size 26 [.int .i64 0, .bool false, .int .i64 0, .string { data := #[] }, .slice none 0 0, .slice none 0 0] := Lies.new_ rfl
  have hcv := conv_str (hq.below hb0 (Nat.le_refl _))
  have hP := parseJ_any (strOf q) _ (hH.below hb0)
  rw [numsOf_strOf hq.2.2.1] at hP
  have HB0 := Lib.hid hb0
  have HL0 := Lib.hid hl0
  obtain ⟨X, eX⟩ : ∃ X, strOf q = X := ⟨_, rfl⟩
  obtain ⟨n, en⟩ : ∃ n, q.length = n := ⟨_, rfl⟩
  rw [eX] at hcv hP
  rw [en] at hcv ⊢
  clear hq hH hb0 hl0 eX en
  go_enter Tryz.func31, Tryz.ntmps31
  go_wp2_with fail
  refine hP.mono ?_
  intro e w1 hh
  clear hP hcv
  rcases ParseEndJ.cases hh with ⟨x, u, hp, rfl, hJ, hb1⟩ | ⟨m, hp, rfl, hm, hb1⟩
  · obtain ⟨A1, c1, A2, c2, rfl⟩ := hJ.form
    have hl1 := HL0.out.below hb1 HL0.out.lt
    have hbw := below_more HB0.out hb1
    obtain ⟨W1, eW1⟩ : ∃ W1, W1 = w1.alloc (.cells #[.int .i64 x.kind, .bool x.bool, .int .i64 x.int, .string (strOf x.text), .slice A1 x.names.length c1, .slice A2 x.list.length c2] 26) := ⟨_, rfl⟩
    have hbW1 : Below w1.heap.size w1 W1 := by rw [eW1]; exact (Below.refl _ _).alloc (Nat.le_refl _) _
    have hlW := hl1.below hbW1 hl1.lt
    have hJW := hJ.on hbW1
    have hbW := below_more hbw hbW1
    obtain ⟨⟨z0, z1, z2, z3, z4, z5⟩, f0, f1, f2, f3, f4, f5⟩ := hlW.six
    by_cases hk : x.kind = 5
    · have hd : (x.kind != 5) = false := by rw [hk]; rfl
      have HO := Lib.hid (Wq.obj_yes hp hk)
      have hlf : Lies (put6 W1 w.heap.size (.int .i64 x.kind) (.bool x.bool) (.int .i64 x.int) (.string (strOf x.text)) (.slice A1 x.names.length c1) (.slice A2 x.list.length c2)) w.heap.size 26 [.int .i64 x.kind, .bool x.bool, .int .i64 x.int, .string (strOf x.text), .slice A1 x.names.length c1, .slice A2 x.list.length c2] := hlW.put6
      obtain ⟨⟨q0, q1, q2, q3, q4, q5⟩, _⟩ := hlf.six
      have HE : Hid (ObjEnd q w (.returned (.tuple #[jv x.kind x.bool x.int (strOf x.text) (.slice A1 x.names.length c1) (.slice A2 x.list.length c2), .bool true])) (put6 W1 w.heap.size (.int .i64 x.kind) (.bool x.bool) (.int .i64 x.int) (.string (strOf x.text)) (.slice A1 x.names.length c1) (.slice A2 x.list.length c2))) :=
        ⟨hbW.trans (gb_down gb_put6 hbW.size (Nat.le_refl _)), .inl ⟨x, _, HO.out, rfl, ((hJW.from (C := w.heap.size + 1) (by simp)).put6 (Nat.lt_succ_self _)).from (Nat.le_succ _)⟩⟩
      rw [eW1] at z0 z1 z2 z3 z4 z5 f0 f1 f2 f3 f4 f5 q0 q1 q2 q3 q4 q5 HE
      clear hh hp hJ hl1 hbw hbW1 hlW hJW hbW hlf hk eW1
      go_wp2
      exact bodyPost_ret (v := .tuple #[jv x.kind x.bool x.int (strOf x.text) (.slice A1 x.names.length c1) (.slice A2 x.list.length c2), .bool true]) (by simp [results, Tryz.results31, go_sem, q0, q1, q2, q3, q4, q5]) rfl HE.out
    · have hd : (x.kind != 5) = true := by rw [bne_iff_ne]; exact hk
      have HO := Lib.hid (Wq.obj_no hp hk)
      have hlf : Lies (put6 W1 w.heap.size (.int .i64 0) (.bool false) (.int .i64 0) (.string { data := #[] }) (.slice none 0 0) (.slice none 0 0)) w.heap.size 26 [.int .i64 0, .bool false, .int .i64 0, .string { data := #[] }, .slice none 0 0, .slice none 0 0] := hlW.put6
      obtain ⟨⟨q0, q1, q2, q3, q4, q5⟩, _⟩ := hlf.six
      have HE : Hid (ObjEnd q w (.returned (.tuple #[jv 0 false 0 ByteArray.empty nilS nilS, .bool false])) (put6 W1 w.heap.size (.int .i64 0) (.bool false) (.int .i64 0) (.string { data := #[] }) (.slice none 0 0) (.slice none 0 0))) :=
        ⟨hbW.trans (gb_down gb_put6 hbW.size (Nat.le_refl _)), .inr ⟨HO.out, rfl⟩⟩
      rw [eW1] at z0 z1 z2 z3 z4 z5 f0 f1 f2 f3 f4 f5 q0 q1 q2 q3 q4 q5 HE
      clear hh hp hJ hl1 hbw hbW1 hlW hJW hbW hlf hk eW1
      go_wp2
      exact bodyPost_ret (v := .tuple #[jv 0 false 0 ByteArray.empty nilS nilS, .bool false]) (by simp [results, Tryz.results31, go_sem, q0, q1, q2, q3, q4, q5]; rfl) rfl HE.out
  · have hl1 := HL0.out.below hb1 HL0.out.lt
    have hbw := below_more HB0.out hb1
    obtain ⟨W1, eW1⟩ : ∃ W1, W1 = w1.alloc (.cells #[.int .i64 0, .bool false, .int .i64 0, .string ByteArray.empty, .slice none 0 0, .slice none 0 0] 26) := ⟨_, rfl⟩
    have hbW1 : Below w1.heap.size w1 W1 := by rw [eW1]; exact (Below.refl _ _).alloc (Nat.le_refl _) _
    have hlW := hl1.below hbW1 hl1.lt
    have hbW := below_more hbw hbW1
    obtain ⟨⟨z0, z1, z2, z3, z4, z5⟩, f0, f1, f2, f3, f4, f5⟩ := hlW.six
    have hd : ((m : Int) != 0) = true := by rw [bne_iff_ne]; omega
    have HO := Lib.hid (Wq.obj_err hp)
    have hlf : Lies (put6 W1 w.heap.size (.int .i64 0) (.bool false) (.int .i64 0) (.string { data := #[] }) (.slice none 0 0) (.slice none 0 0)) w.heap.size 26 [.int .i64 0, .bool false, .int .i64 0, .string { data := #[] }, .slice none 0 0, .slice none 0 0] := hlW.put6
    obtain ⟨⟨q0, q1, q2, q3, q4, q5⟩, _⟩ := hlf.six
    have HE : Hid (ObjEnd q w (.returned (.tuple #[jv 0 false 0 ByteArray.empty nilS nilS, .bool false])) (put6 W1 w.heap.size (.int .i64 0) (.bool false) (.int .i64 0) (.string { data := #[] }) (.slice none 0 0) (.slice none 0 0))) :=
      ⟨hbW.trans (gb_down gb_put6 hbW.size (Nat.le_refl _)), .inr ⟨HO.out, rfl⟩⟩
    rw [eW1] at z0 z1 z2 z3 z4 z5 f0 f1 f2 f3 f4 f5 q0 q1 q2 q3 q4 q5 HE
    clear hh hp hl1 hbw hbW1 hlW hbW hlf eW1 hm
    go_wp2
    exact bodyPost_ret (v := .tuple #[jv 0 false 0 ByteArray.empty nilS nilS, .bool false]) (by simp [results, Tryz.results31, go_sem, q0, q1, q2, q3, q4, q5]; rfl) rfl HE.out
end Go.Proofs.YthklgpflaghojaaGreatDoor

/-
  The contract of hasAlg.
-/
namespace Go.Proofs.YthklgpflaghojaaGreatDoor
open Go.RowKit Go.Sort

abbrev hsB : ByteArray := { data := #[72, 83, 50, 53, 54] }
set_option maxHeartbeats 2000000 in
set_option maxRecDepth 100000 in
theorem hasAlg_any {ok : Nat → Prop} (x : Jq.J) (v : Value) (w : World) (hJ : IsJ w ok v x) :
    Calls Tryz.prog 32 #[v] w (Tells (Wq.AlgOk x) w) := by
  obtain ⟨A1, c1, A2, c2, rfl⟩ := hJ.form
  obtain ⟨W0, eW0⟩ : ∃ W0, W0 = w.alloc (.cells #[.int .i64 x.kind, .bool x.bool, .int .i64 x.int, .string (strOf x.text), .slice A1 x.names.length c1, .slice A2 x.list.length c2] 26) := ⟨_, rfl⟩
  have hb0 : Below w.heap.size w W0 := by rw [eW0]; exact (Below.refl _ _).alloc (Nat.le_refl _) _
  have hG := get_any x _ Wq.algN (by decide) W0 (hJ.on hb0)
  rw [eW0] at hG
  have HW0 := Lib.hid eW0
  have HB0 := Lib.hid hb0
  clear hJ hb0 eW0
  have HA : Hid (Wq.AlgOk x ↔ getP x Wq.algN = some (Jq.textJ Wq.hsN)) := ⟨fun ⟨v, h1, h2⟩ => by rw [h1, h2], fun h => ⟨_, h, rfl⟩⟩
  obtain ⟨RES, eRES⟩ : ∃ RES, getP x Wq.algN = RES := ⟨_, rfl⟩
  rw [eRES] at hG HA
  clear eRES
  go_enter Tryz.func32, Tryz.ntmps32
  go_wp2_with fail
  refine hG.mono ?_
  intro e w1 hh
  clear hG
  rw [← HW0.out] at hh
  obtain ⟨hb1, hh⟩ := hh
  have hbw := below_more HB0.out hb1
  clear hb1
  cases RES with
  | none =>
    subst hh
    have HE : Hid (∀ W, Below w.heap.size w W → Tells (Wq.AlgOk x) w (.returned (.bool false)) W) := fun W hb => Tells.no (fun h => by have := HA.out.1 h; cases this) hb
    have hb2 := below_alloc hbw (.cells #[.int .i64 0, .bool false, .int .i64 0, .string ByteArray.empty, .slice none 0 0, .slice none 0 0] 26)
    go_upto_region 2 with (fail)
    refine wp_region_quiet_below (by kernel_rfl) (by kernel_rfl) ?_
    repeat (go_big_quiet_step (fail))
    refine wpQuiet_nil ?_
    intro w' hw'
    obtain ⟨⟨dq, osq⟩, hw''⟩ := hw'
    subst hw''
    have hfin := below_regrown (w1.alloc (.cells #[.int .i64 0, .bool false, .int .i64 0, .string ByteArray.empty, .slice none 0 0, .slice none 0 0] 26)) dq osq
    have hb6 := below_more hb2 hfin
    go_wp2
    go_ret
    exact HE.out _ hb6
  | some y =>
    obtain ⟨u, rfl, hJ1⟩ := hh
    obtain ⟨B1, d1, B2, d2, rfl⟩ := hJ1.form
    obtain ⟨W1, eW1⟩ : ∃ W1, W1 = w1.alloc (.cells #[.int .i64 y.kind, .bool y.bool, .int .i64 y.int, .string (strOf y.text), .slice B1 y.names.length d1, .slice B2 y.list.length d2] 26) := ⟨_, rfl⟩
    have hbW : Below w1.heap.size w1 W1 := by rw [eW1]; exact (Below.refl _ _).alloc (Nat.le_refl _) _
    have hlW : Lies W1 w1.heap.size 26 [.int .i64 y.kind, .bool y.bool, .int .i64 y.int, .string (strOf y.text), .slice B1 y.names.length d1, .slice B2 y.list.length d2] := by rw [eW1]; exact Lies.new_ rfl
    have hJW := hJ1.on hbW
    have hb2 := below_more hbw hbW
    obtain ⟨⟨z0, z1, z2, z3, z4, z5⟩, _⟩ := hlW.six
    have k0 := cell_regrown z0
    have k1 := cell_regrown z1
    have k2 := cell_regrown z2
    have k3 := cell_regrown z3
    have k4 := cell_regrown z4
    have k5 := cell_regrown z5
    have cT : ∀ d os, Calls Tryz.prog 57 #[.string hsB] (grow (redrawn W1 d) os) fun e w2 => e = .returned (jv 3 false 0 hsB nilS nilS) ∧ ∃ r : Regrown, w2 = grow (redrawn W1 r.d) r.os := fun d os => Calls.regrown_of (textMade_any hsB _)
    have hsame : ∀ r : Bool, (r = true ↔ y = Jq.textJ Wq.hsN) → ∀ d os, Calls Tryz.prog 56 #[jv y.kind y.bool y.int (strOf y.text) (.slice B1 y.names.length d1) (.slice B2 y.list.length d2), jv 3 false 0 hsB nilS nilS] (grow (redrawn W1 d) os) fun e w2 => e = .returned (.bool r) ∧ ∃ r : Regrown, w2 = grow (redrawn W1 r.d) r.os := fun r hr d os =>
      Calls.regrown_of ((same_any y (Jq.textJ Wq.hsN) _ _ _ (hJW.on (below_regrown W1 d os)) (isJ_plain _ (fun _ => True) (t := Wq.hsN) (by omega) (by omega) (by decide))).mono fun e w2 hh => by
        obtain ⟨hb, ⟨h1, rfl⟩ | ⟨h1, rfl⟩⟩ := hh
        · exact ⟨by rw [hr.2 h1], hb⟩
        · have : r = false := by cases r with | false => rfl | true => exact absurd (hr.1 rfl) h1
          exact ⟨by rw [this], hb⟩)
    by_cases hy : y = Jq.textJ Wq.hsN
    · have cS := hsame true ⟨fun _ => hy, fun _ => rfl⟩
      have HE : Hid (∀ W, Below w.heap.size w W → Tells (Wq.AlgOk x) w (.returned (.bool true)) W) := fun W hb => Tells.yes (HA.out.2 (by rw [hy])) hb
      clear hsame hy hJ1 hbw hlW hJW hbW z0 z1 z2 z3 z4 z5
      rw [eW1] at k0 k1 k2 k3 k4 k5 cT cS hb2
      clear eW1
      go_upto_region 2 with (fail)
      refine wp_region_quiet_below (by kernel_rfl) (by kernel_rfl) ?_
      repeat (go_big_quiet_step (first | with_reducible exact cT _ _ | with_reducible exact cS _ _))
      refine wpQuiet_nil ?_
      intro w' hw'
      obtain ⟨⟨dq, osq⟩, hw''⟩ := hw'
      subst hw''
      have hb6 := below_more hb2 (below_regrown _ dq osq)
      go_wp2
      go_ret
      exact HE.out _ hb6
    · have cS := hsame false ⟨fun h => (by cases h), fun h => absurd h hy⟩
      have HE : Hid (∀ W, Below w.heap.size w W → Tells (Wq.AlgOk x) w (.returned (.bool false)) W) := fun W hb => Tells.no (fun h => hy (Option.some.inj (HA.out.1 h))) hb
      clear hsame hy hJ1 hbw hlW hJW hbW z0 z1 z2 z3 z4 z5
      rw [eW1] at k0 k1 k2 k3 k4 k5 cT cS hb2
      clear eW1
      go_upto_region 2 with (fail)
      refine wp_region_quiet_below (by kernel_rfl) (by kernel_rfl) ?_
      repeat (go_big_quiet_step (first | with_reducible exact cT _ _ | with_reducible exact cS _ _))
      refine wpQuiet_nil ?_
      intro w' hw'
      obtain ⟨⟨dq, osq⟩, hw''⟩ := hw'
      subst hw''
      have hb6 := below_more hb2 (below_regrown _ dq osq)
      go_wp2
      go_ret
      exact HE.out _ hb6
end Go.Proofs.YthklgpflaghojaaGreatDoor

/-
  The contract of kidIn.
-/
namespace Go.Proofs.YthklgpflaghojaaGreatDoor
open Go.RowKit

/-- What kidIn answers. -/
def KidInEnd (res : Option (List Nat)) (w : World) (e : Ending) (w' : World) : Prop := Below w.heap.size w w' ∧ match res with
  | some k => e = .returned (.tuple #[.string (strOf k), .bool true])
  | none => e = .returned (.tuple #[.string ByteArray.empty, .bool false])

set_option maxHeartbeats 2000000 in
set_option maxRecDepth 100000 in
theorem kidIn_any {ok : Nat → Prop} (x : Jq.J) (v : Value) (w : World) (hJ : IsJ w ok v x) :
    Calls Tryz.prog 33 #[v] w (KidInEnd (Wq.kidOf x) w) := by
  obtain ⟨A1, c1, A2, c2, rfl⟩ := hJ.form
  obtain ⟨W0, eW0⟩ : ∃ W0, W0 = w.alloc (.cells #[.int .i64 x.kind, .bool x.bool, .int .i64 x.int, .string (strOf x.text), .slice A1 x.names.length c1, .slice A2 x.list.length c2] 26) := ⟨_, rfl⟩
  have hb0 : Below w.heap.size w W0 := by rw [eW0]; exact (Below.refl _ _).alloc (Nat.le_refl _) _
  have hl0 : Lies W0 w.heap.size 26 [.int .i64 x.kind, .bool x.bool, .int .i64 x.int, .string (strOf x.text), .slice A1 x.names.length c1, .slice A2 x.list.length c2] := by rw [eW0]; exact Lies.new_ rfl
  have hG := get_any x _ Wq.kidN (by decide) W0 (hJ.on hb0)
  rw [eW0] at hG
  have HW0 := Lib.hid eW0
  have HB0 := Lib.hid hb0
  have HL0 := Lib.hid hl0
  clear hJ hb0 eW0 hl0
  have HNo := Lib.hid (@Wq.kidOf_none x)
  have HYes : Hid (∀ y, getP x Wq.kidN = some y → (y.kind = 3 ∧ Wq.KidOk y.text ∧ x.names.length = 2) → Wq.kidOf x = some y.text) := fun y h => Wq.kidOf_yes h
  have HBad : Hid (∀ y, getP x Wq.kidN = some y → ¬ (y.kind = 3 ∧ Wq.KidOk y.text ∧ x.names.length = 2) → Wq.kidOf x = none) := fun y h => Wq.kidOf_no h
  obtain ⟨RES, eRES⟩ : ∃ RES, getP x Wq.kidN = RES := ⟨_, rfl⟩
  obtain ⟨K, eK⟩ : ∃ K, Wq.kidOf x = K := ⟨_, rfl⟩
  rw [eRES] at hG HNo HYes HBad
  rw [eK] at HNo HYes HBad ⊢
  clear eRES eK
  go_enter Tryz.func33, Tryz.ntmps33
  go_wp2_with fail
  refine hG.mono ?_
  intro e w1 hh
  clear hG
  rw [← HW0.out] at hh
  obtain ⟨hb1, hh⟩ := hh
  have hbw := below_more HB0.out hb1
  have hl1 := HL0.out.below hb1 HL0.out.lt
  clear hb1
  cases RES with
  | none =>
    subst hh
    have HE : Hid (∀ W, Below w.heap.size w W → KidInEnd K w (.returned (.tuple #[.string ByteArray.empty, .bool false])) W) := fun W hb => ⟨hb, by rw [HNo.out rfl]⟩
    have hb2 := below_alloc hbw (.cells #[.int .i64 0, .bool false, .int .i64 0, .string ByteArray.empty, .slice none 0 0, .slice none 0 0] 26)
    go_wp2
    go_ret2
    exact HE.out _ hb2
  | some y =>
    obtain ⟨u, rfl, hJ1⟩ := hh
    have hyt : ∀ b ∈ y.text, b < 256 := by obtain ⟨_, _, _, _, _, ht, _⟩ := hJ1.parts; exact ht.2
    obtain ⟨B1, d1, B2, d2, rfl⟩ := hJ1.form
    obtain ⟨W1, eW1⟩ : ∃ W1, W1 = w1.alloc (.cells #[.int .i64 y.kind, .bool y.bool, .int .i64 y.int, .string (strOf y.text), .slice B1 y.names.length d1, .slice B2 y.list.length d2] 26) := ⟨_, rfl⟩
    have hbW : Below w1.heap.size w1 W1 := by rw [eW1]; exact (Below.refl _ _).alloc (Nat.le_refl _) _
    have hlW : Lies W1 w1.heap.size 26 [.int .i64 y.kind, .bool y.bool, .int .i64 y.int, .string (strOf y.text), .slice B1 y.names.length d1, .slice B2 y.list.length d2] := by rw [eW1]; exact Lies.new_ rfl
    have hb2 := below_more hbw hbW
    have hl2 := hl1.below hbW hl1.lt
    obtain ⟨⟨z0, z1, z2, z3, z4, z5⟩, _⟩ := hlW.six
    obtain ⟨⟨y0, y1, y2, y3, y4, y5⟩, _⟩ := hl2.six
    rw [eW1] at z0 z1 z2 z3 z4 z5 y0 y1 y2 y3 y4 y5 hb2
    clear hJ1 hbw hbW hlW hl1 hl2
    by_cases hk : y.kind = 3
    · have hd : (y.kind != 3) = false := by rw [hk]; rfl
      have HK := Lib.hid hk
      have hI := fun W => isKid_any (strOf y.text) W
      rw [numsOf_strOf hyt] at hI
      clear eW1 hk
      go_wp2_with fail
      refine (hI _).mono ?_
      intro e w2 hh
      obtain ⟨hw, ⟨hk2, rfl⟩ | ⟨hk2, rfl⟩⟩ := hh
      · subst hw
        by_cases hn : x.names.length = 2
        · have hd2 : ((x.names.length : Int) != 2) = false := by rw [hn]; rfl
          have HE : Hid (∀ W, Below w.heap.size w W → KidInEnd K w (.returned (.tuple #[.string (strOf y.text), .bool true])) W) := fun W hb => ⟨hb, by rw [HYes.out y rfl ⟨HK.out, hk2, hn⟩]⟩
          clear hk2 hn hI
          go_wp2
          go_ret2
          exact HE.out _ hb2
        · have hd2 : ((x.names.length : Int) != 2) = true := by rw [bne_iff_ne]; omega
          have HE : Hid (∀ W, Below w.heap.size w W → KidInEnd K w (.returned (.tuple #[.string ByteArray.empty, .bool false])) W) := fun W hb => ⟨hb, by rw [HBad.out y rfl fun h => hn h.2.2]⟩
          clear hk2 hn hI
          go_wp2
          go_ret2
          exact HE.out _ hb2
      · subst hw
        have HE : Hid (∀ W, Below w.heap.size w W → KidInEnd K w (.returned (.tuple #[.string ByteArray.empty, .bool false])) W) := fun W hb => ⟨hb, by rw [HBad.out y rfl fun h => hk2 h.2.1]⟩
        clear hk2 hI
        go_wp2
        go_ret2
        exact HE.out _ hb2
    · have hd : (y.kind != 3) = true := by rw [bne_iff_ne]; exact hk
      have HE : Hid (∀ W, Below w.heap.size w W → KidInEnd K w (.returned (.tuple #[.string ByteArray.empty, .bool false])) W) := fun W hb => ⟨hb, by rw [HBad.out y rfl fun h => hk h.1]⟩
      clear hk eW1
      go_wp2
      go_ret2
      exact HE.out _ hb2
end Go.Proofs.YthklgpflaghojaaGreatDoor

/-
  The contract of headOf.
-/
namespace Go.Proofs.YthklgpflaghojaaGreatDoor
open Go.RowKit
end Go.Proofs.YthklgpflaghojaaGreatDoor

/-
  The contract of Sign.
-/
namespace Go.Proofs.YthklgpflaghojaaGreatDoor
open Go.RowKit

/-- What Sign answers. -/
def SignEnd (res : Option (List Nat)) (w : World) (e : Ending) (w' : World) : Prop := Below w.heap.size w w' ∧ match res with
  | some T => e = .returned (.tuple #[.string (strOf T), .int .i64 0])
  | none => e = .returned (.tuple #[.string ByteArray.empty, .int .i64 80])

end Go.Proofs.YthklgpflaghojaaGreatDoor
