/-
  What claims have under a name, as a text, as a number: the program's.
-/
import Derived.Test.YtoocejcoaojaiaaDoorVM2
import Derived.Test.YtoocejcoaojaiaaDoorQJ
namespace Go.Proofs.YtoocejcoaojaiaaDoor
open Go.RowKit

/-- What Text answers. -/
def TextEnd (res : Option (List Nat)) (w : World) (e : Ending) (w' : World) : Prop := e = .returned (.tuple #[.string (strOf (res.getD [])), .bool res.isSome]) ∧ Below w.heap.size w w'
theorem TextEnd.none {res : Option (List Nat)} {w w' : World} (h : res = none) (hb : Below w.heap.size w w') : TextEnd res w (.returned (.tuple #[.string ByteArray.empty, .bool false])) w' := by
  subst h; exact ⟨rfl, hb⟩
theorem TextEnd.some {res : Option (List Nat)} {s : List Nat} {w w' : World} (h : res = some s) (hb : Below w.heap.size w w') : TextEnd res w (.returned (.tuple #[.string (strOf s), .bool true])) w' := by
  subst h; exact ⟨rfl, hb⟩
/-- What Int answers. -/
def IntEnd (res : Option Int) (w : World) (e : Ending) (w' : World) : Prop := e = .returned (.tuple #[.int .i64 (res.getD 0), .bool res.isSome]) ∧ Below w.heap.size w w'
theorem IntEnd.none {res : Option Int} {w w' : World} (h : res = none) (hb : Below w.heap.size w w') : IntEnd res w (.returned (.tuple #[.int .i64 0, .bool false])) w' := by
  subst h; exact ⟨rfl, hb⟩
theorem IntEnd.some {res : Option Int} {n : Int} {w w' : World} (h : res = some n) (hb : Below w.heap.size w w') : IntEnd res w (.returned (.tuple #[.int .i64 n, .bool true])) w' := by
  subst h; exact ⟨rfl, hb⟩

set_option maxHeartbeats 1000000 in
set_option maxRecDepth 100000 in
theorem claimText_any {ok : Nat → Prop} (x : Jq.J) (v : Value) (t : List Nat) (ht : ∀ y ∈ t, y < 256) (w : World) (hJ : IsJ w ok v x) :
    Calls Tryd.prog 19 #[v, .string (strOf t)] w (TextEnd (Vq.textOf x t) w) := by
  obtain ⟨A1, c1, A2, c2, rfl⟩ := hJ.form
  obtain ⟨W0, eW0⟩ : ∃ W0, W0 = w.alloc (.cells #[.int .i64 x.kind, .bool x.bool, .int .i64 x.int, .string (strOf x.text), .slice A1 x.names.length c1, .slice A2 x.list.length c2] 28) := ⟨_, rfl⟩
  have hb0 : Below w.heap.size w W0 := by rw [eW0]; exact (Below.refl _ _).alloc (Nat.le_refl _) _
  have hG := get_any x _ t ht W0 (hJ.on hb0)
  rw [eW0] at hG
  have HW0 := Lib.hid eW0
  have HB0 := Lib.hid hb0
  have HNo : Hid (getP x t = none → Vq.textOf x t = none) := fun h => Vq.textOf_none h
  have HYes : Hid (∀ y, getP x t = some y → y.kind = 3 → Vq.textOf x t = some y.text) := fun y h hk => by unfold Vq.textOf; rw [h]; simp only; rw [if_pos hk]
  have HBad : Hid (∀ y, getP x t = some y → ¬ y.kind = 3 → Vq.textOf x t = none) := fun y h hk => by unfold Vq.textOf; rw [h]; simp only; rw [if_neg hk]
  obtain ⟨RES, eRES⟩ : ∃ RES, getP x t = RES := ⟨_, rfl⟩
  obtain ⟨K, eK⟩ : ∃ K, Vq.textOf x t = K := ⟨_, rfl⟩
  rw [eRES] at hG HNo HYes HBad
  rw [eK] at HNo HYes HBad ⊢
  generalize strOf t = S at *
  clear hJ hb0 eW0 eRES eK
  go_enter Tryd.func19, Tryd.ntmps19
  go_wp2_with fail
  refine hG.mono ?_
  intro e w1 hh
  clear hG
  rw [← HW0.out] at hh
  obtain ⟨hb1, hh⟩ := hh
  have hbw := below_more HB0.out hb1
  clear hb1
  cases RES with
  | none =>
    subst hh
    have HE : Hid (∀ W, Below w.heap.size w W → TextEnd K w (.returned (.tuple #[.string ByteArray.empty, .bool false])) W) := fun W hb => TextEnd.none (HNo.out rfl) hb
    have hb2 := below_alloc hbw (.cells #[.int .i64 0, .bool false, .int .i64 0, .string ByteArray.empty, .slice none 0 0, .slice none 0 0] 28)
    go_wp2
    go_ret2
    exact HE.out _ hb2
  | some y =>
    obtain ⟨u, rfl, hJ1⟩ := hh
    obtain ⟨B1, d1, B2, d2, rfl⟩ := hJ1.form
    obtain ⟨W1, eW1⟩ : ∃ W1, W1 = w1.alloc (.cells #[.int .i64 y.kind, .bool y.bool, .int .i64 y.int, .string (strOf y.text), .slice B1 y.names.length d1, .slice B2 y.list.length d2] 28) := ⟨_, rfl⟩
    have hbW : Below w1.heap.size w1 W1 := by rw [eW1]; exact (Below.refl _ _).alloc (Nat.le_refl _) _
    have hlW : Lies W1 w1.heap.size 28 [.int .i64 y.kind, .bool y.bool, .int .i64 y.int, .string (strOf y.text), .slice B1 y.names.length d1, .slice B2 y.list.length d2] := by rw [eW1]; exact Lies.new_ rfl
    have hb2 := below_more hbw hbW
    obtain ⟨⟨z0, z1, z2, z3, z4, z5⟩, _⟩ := hlW.six
    rw [eW1] at z0 z1 z2 z3 z4 z5 hb2
    clear hJ1 hbw hbW hlW eW1
    by_cases hk : y.kind = 3
    · have hd : (y.kind != 3) = false := by rw [hk]; rfl
      have HE : Hid (∀ W, Below w.heap.size w W → TextEnd K w (.returned (.tuple #[.string (strOf y.text), .bool true])) W) := fun W hb => TextEnd.some (HYes.out y rfl hk) hb
      clear hk
      go_wp2
      go_ret2
      exact HE.out _ hb2
    · have hd : (y.kind != 3) = true := by rw [bne_iff_ne]; exact hk
      have HE : Hid (∀ W, Below w.heap.size w W → TextEnd K w (.returned (.tuple #[.string ByteArray.empty, .bool false])) W) := fun W hb => TextEnd.none (HBad.out y rfl hk) hb
      clear hk
      go_wp2
      go_ret2
      exact HE.out _ hb2

set_option maxHeartbeats 1000000 in
set_option maxRecDepth 100000 in
theorem claimInt_any {ok : Nat → Prop} (x : Jq.J) (v : Value) (t : List Nat) (ht : ∀ y ∈ t, y < 256) (w : World) (hJ : IsJ w ok v x) :
    Calls Tryd.prog 21 #[v, .string (strOf t)] w (IntEnd (Vq.intOf x t) w) := by
  obtain ⟨A1, c1, A2, c2, rfl⟩ := hJ.form
  obtain ⟨W0, eW0⟩ : ∃ W0, W0 = w.alloc (.cells #[.int .i64 x.kind, .bool x.bool, .int .i64 x.int, .string (strOf x.text), .slice A1 x.names.length c1, .slice A2 x.list.length c2] 28) := ⟨_, rfl⟩
  have hb0 : Below w.heap.size w W0 := by rw [eW0]; exact (Below.refl _ _).alloc (Nat.le_refl _) _
  have hG := get_any x _ t ht W0 (hJ.on hb0)
  rw [eW0] at hG
  have HW0 := Lib.hid eW0
  have HB0 := Lib.hid hb0
  have HNo : Hid (getP x t = none → Vq.intOf x t = none) := fun h => Vq.intOf_none h
  have HYes : Hid (∀ y, getP x t = some y → y.kind = 2 → Vq.intOf x t = some y.int) := fun y h hk => by unfold Vq.intOf; rw [h]; simp only; rw [if_pos hk]
  have HBad : Hid (∀ y, getP x t = some y → ¬ y.kind = 2 → Vq.intOf x t = none) := fun y h hk => by unfold Vq.intOf; rw [h]; simp only; rw [if_neg hk]
  obtain ⟨RES, eRES⟩ : ∃ RES, getP x t = RES := ⟨_, rfl⟩
  obtain ⟨K, eK⟩ : ∃ K, Vq.intOf x t = K := ⟨_, rfl⟩
  rw [eRES] at hG HNo HYes HBad
  rw [eK] at HNo HYes HBad ⊢
  generalize strOf t = S at *
  clear hJ hb0 eW0 eRES eK
  go_enter Tryd.func21, Tryd.ntmps21
  go_wp2_with fail
  refine hG.mono ?_
  intro e w1 hh
  clear hG
  rw [← HW0.out] at hh
  obtain ⟨hb1, hh⟩ := hh
  have hbw := below_more HB0.out hb1
  clear hb1
  cases RES with
  | none =>
    subst hh
    have HE : Hid (∀ W, Below w.heap.size w W → IntEnd K w (.returned (.tuple #[.int .i64 0, .bool false])) W) := fun W hb => IntEnd.none (HNo.out rfl) hb
    have hb2 := below_alloc hbw (.cells #[.int .i64 0, .bool false, .int .i64 0, .string ByteArray.empty, .slice none 0 0, .slice none 0 0] 28)
    go_wp2
    go_ret2
    exact HE.out _ hb2
  | some y =>
    obtain ⟨u, rfl, hJ1⟩ := hh
    obtain ⟨B1, d1, B2, d2, rfl⟩ := hJ1.form
    obtain ⟨W1, eW1⟩ : ∃ W1, W1 = w1.alloc (.cells #[.int .i64 y.kind, .bool y.bool, .int .i64 y.int, .string (strOf y.text), .slice B1 y.names.length d1, .slice B2 y.list.length d2] 28) := ⟨_, rfl⟩
    have hbW : Below w1.heap.size w1 W1 := by rw [eW1]; exact (Below.refl _ _).alloc (Nat.le_refl _) _
    have hlW : Lies W1 w1.heap.size 28 [.int .i64 y.kind, .bool y.bool, .int .i64 y.int, .string (strOf y.text), .slice B1 y.names.length d1, .slice B2 y.list.length d2] := by rw [eW1]; exact Lies.new_ rfl
    have hb2 := below_more hbw hbW
    obtain ⟨⟨z0, z1, z2, z3, z4, z5⟩, _⟩ := hlW.six
    rw [eW1] at z0 z1 z2 z3 z4 z5 hb2
    clear hJ1 hbw hbW hlW eW1
    by_cases hk : y.kind = 2
    · have hd : (y.kind != 2) = false := by rw [hk]; rfl
      have HE : Hid (∀ W, Below w.heap.size w W → IntEnd K w (.returned (.tuple #[.int .i64 y.int, .bool true])) W) := fun W hb => IntEnd.some (HYes.out y rfl hk) hb
      clear hk
      go_wp2
      go_ret2
      exact HE.out _ hb2
    · have hd : (y.kind != 2) = true := by rw [bne_iff_ne]; exact hk
      have HE : Hid (∀ W, Below w.heap.size w W → IntEnd K w (.returned (.tuple #[.int .i64 0, .bool false])) W) := fun W hb => IntEnd.none (HBad.out y rfl hk) hb
      clear hk
      go_wp2
      go_ret2
      exact HE.out _ hb2

set_option maxHeartbeats 1000000 in
set_option maxRecDepth 100000 in
theorem hasClaim_any {ok : Nat → Prop} (x : Jq.J) (v : Value) (t : List Nat) (ht : ∀ y ∈ t, y < 256) (w : World) (hJ : IsJ w ok v x) :
    Calls Tryd.prog 39 #[v, .string (strOf t)] w fun e w' => e = .returned (.bool (getP x t).isSome) ∧ Below w.heap.size w w' := by
  obtain ⟨A1, c1, A2, c2, rfl⟩ := hJ.form
  obtain ⟨W0, eW0⟩ : ∃ W0, W0 = w.alloc (.cells #[.int .i64 x.kind, .bool x.bool, .int .i64 x.int, .string (strOf x.text), .slice A1 x.names.length c1, .slice A2 x.list.length c2] 28) := ⟨_, rfl⟩
  have hb0 : Below w.heap.size w W0 := by rw [eW0]; exact (Below.refl _ _).alloc (Nat.le_refl _) _
  have hG := get_any x _ t ht W0 (hJ.on hb0)
  rw [eW0] at hG
  have HW0 := Lib.hid eW0
  have HB0 := Lib.hid hb0
  obtain ⟨RES, eRES⟩ : ∃ RES, getP x t = RES := ⟨_, rfl⟩
  rw [eRES] at hG ⊢
  generalize strOf t = S at *
  clear hJ hb0 eW0 eRES
  go_enter Tryd.func39, Tryd.ntmps39
  go_wp2_with fail
  refine hG.mono ?_
  intro e w1 hh
  clear hG
  rw [← HW0.out] at hh
  obtain ⟨hb1, hh⟩ := hh
  have hbw := below_more HB0.out hb1
  clear hb1
  cases RES with
  | none =>
    subst hh
    have hb2 := below_alloc hbw (.cells #[.int .i64 0, .bool false, .int .i64 0, .string ByteArray.empty, .slice none 0 0, .slice none 0 0] 28)
    go_wp2
    go_ret
    exact ⟨rfl, hb2⟩
  | some y =>
    obtain ⟨u, rfl, hJ1⟩ := hh
    obtain ⟨B1, d1, B2, d2, rfl⟩ := hJ1.form
    have hb2 := below_alloc hbw (.cells #[.int .i64 y.kind, .bool y.bool, .int .i64 y.int, .string (strOf y.text), .slice B1 y.names.length d1, .slice B2 y.list.length d2] 28)
    clear hJ1
    go_wp2
    go_ret
    exact ⟨rfl, hb2⟩
end Go.Proofs.YtoocejcoaojaiaaDoor
