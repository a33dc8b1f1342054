/-
  M03: KFits KRefFits, side by side.
-/
import Derived.Test.YtnbaajdcakjlmaaDoorM01

/-
  Whether a value is of a type: the program's Fits, and the document's.
-/
namespace Go.Proofs.YtnbaajdcakjlmaaDoor
open Go.RowKit

/-- Is a value of a type? -/
def Tq.fitsP (x : Jq.J) (t : Int) : Prop := (t = 1 ∧ x.kind = 3) ∨ (t = 2 ∧ x.kind = 2) ∨ (t = 3 ∧ x.kind = 1) ∨ (t = 4 ∧ x.kind = 4 ∧ ∀ y ∈ x.list, y.kind = 3)
instance fitsDec (x : Jq.J) (t : Int) : Decidable (Tq.fitsP x t) := inferInstanceAs (Decidable (_ ∨ _))
theorem beq_dec (a b : Int) : (a == b) = decide (a = b) := by
  by_cases h : a = b <;> simp [h]
abbrev jbox (x : Jq.J) (A1 : Option Addr) (c1 : Nat) (A2 : Option Addr) (c2 : Nat) : Obj := .cells #[.int .i64 x.kind, .bool x.bool, .int .i64 x.int, .string (strOf x.text), .slice A1 x.names.length c1, .slice A2 x.list.length c2] 27
/-- Texts alone, as far as k. -/
def AllText (l : List Jq.J) (k : Nat) : Prop := ∀ j y, j < k → l[j]? = some y → Jq.J.kind y = 3
theorem AllText.zero (l : List Jq.J) : AllText l 0 := fun _ _ h => absurd h (Nat.not_lt_zero _)
theorem AllText.succ {l : List Jq.J} {k : Nat} {x : Jq.J} (h : AllText l k) (hx : l[k]? = some x) (h3 : x.kind = 3) : AllText l (k + 1) := fun j y hj hy => by
  rcases Nat.lt_or_eq_of_le (Nat.le_of_lt_succ hj) with h' | h'
  · exact h j y h' hy
  · subst h'
    rw [hx] at hy
    injection hy with hy
    rw [← hy]; exact h3
theorem AllText.all {l : List Jq.J} {n : Nat} (hn : l.length = n) (h : AllText l n) : ∀ y ∈ l, y.kind = 3 := fun y hy => by
  obtain ⟨j, hj⟩ := List.getElem?_of_mem hy
  exact h j y (by have := (List.getElem?_eq_some_iff.1 hj).1; omega) hj
theorem ListIs.onK {w w' : World} {ok : Nat → Prop} {v : Value} {l : List Jq.J} (h : ListIs w ok v l) (hb : Below w.heap.size w w') : ListIs w' ok v l := h.keep (fun b hb' hlt => ⟨hb', hb.block b hlt⟩) hb.size
set_option maxHeartbeats 1000000 in
set_option maxRecDepth 100000 in
theorem isText_any (x : Jq.J) (A1 A2 : Option Addr) (c1 c2 : Nat) (w : World) :
    Calls Tryd.prog 50 #[jv x.kind x.bool x.int (strOf x.text) (.slice A1 x.names.length c1) (.slice A2 x.list.length c2)] w fun e w' => Below w.heap.size w w' ∧ e = .returned (.bool (decide (x.kind = 3))) := by
  have HB := Lib.hid (below_new w (jbox x A1 c1 A2 c2))
  have HQ := Lib.hid (beq_dec x.kind 3)
  go_enter Tryd.func50, Tryd.ntmps50
  go_wp2
  go_ret
  exact ⟨HB.out, congrArg (fun b => Ending.returned (.bool b)) HQ.out⟩
set_option maxHeartbeats 1000000 in
set_option maxRecDepth 100000 in
theorem isNoText_any (x : Jq.J) (A1 A2 : Option Addr) (c1 c2 : Nat) (w : World) :
    Calls Tryd.prog 51 #[jv x.kind x.bool x.int (strOf x.text) (.slice A1 x.names.length c1) (.slice A2 x.list.length c2)] w fun e w' => Below w.heap.size w w' ∧ e = .returned (.bool (!decide (x.kind = 3))) := by
  have HB := Lib.hid (below_new w (jbox x A1 c1 A2 c2))
  have hC := isText_any x A1 A2 c1 c2 (w.alloc (jbox x A1 c1 A2 c2))
  obtain ⟨K, eK⟩ : ∃ K, decide (x.kind = 3) = K := ⟨_, rfl⟩
  rw [eK] at hC ⊢
  clear eK
  go_enter Tryd.func51, Tryd.ntmps51
  go_wp2_with fail
  refine hC.mono ?_
  rintro e w2 ⟨hb, rfl⟩
  have HB2 := Lib.hid (below_onZ HB.out hb)
  clear hC hb
  go_wp2
  go_ret
  exact ⟨HB2.out, rfl⟩
/-- The first that is no text, or -1. -/
def NoTextEnd (l : List Jq.J) (w : World) (e : Ending) (w' : World) : Prop := Below w.heap.size w w' ∧ ((∃ k : Nat, e = .returned (.int .i64 (k : Int)) ∧ ¬ ∀ y ∈ l, Jq.J.kind y = 3) ∨ (e = .returned (.int .i64 (-1)) ∧ ∀ y ∈ l, Jq.J.kind y = 3))
set_option maxHeartbeats 2000000 in
set_option maxRecDepth 100000 in
theorem indexJ_any {ok : Nat → Prop} (l : List Jq.J) (A : Option Addr) (n c : Nat) (w : World) (hL : ListIs w ok (.slice A n c) l) (hl : l.length = n) :
    Calls Tryd.prog 54 #[.slice A n c, .func (.func 51) #[] #[]] w (NoTextEnd l w) := by
  have hns : n * 88 ≤ 140737488355328 := by
    obtain ⟨_, _, _, h, _⟩ := hL
    rw [← hl]; exact h
  have HL := Lib.hid hL
  have HN := Lib.hid hl
  clear hL hl
  go_enter Tryd.func54, Tryd.ntmps54
  go_wp2_with fail
  go_loopw [8] (fun i wr => ∃ k : Nat, i = .int .i64 k ∧ k ≤ n ∧ Hid (AllText l k) ∧ Below w.heap.size w wr) (fun i _ => n - (intOf i).toNat)
  case atStart => exact ⟨0, rfl, Nat.zero_le _, Lib.hid (AllText.zero _), Below.refl _ _⟩
  case round =>
    obtain ⟨k, rfl, hk, HNO, hb⟩ := hrel
    by_cases hlt : k < n
    · obtain ⟨b, off, x, A1, c1, A2, c2, rfl, _, _, hx, _, s0, s1, s2, s3, s4, s5⟩ := (HL.out.onK hb).elem (i := k) (by rw [HN.out]; exact hlt)
      have hC := isNoText_any x A1 A2 c1 c2 wr
      have HX := Lib.hid hx
      have HB := Lib.hid hb
      clear hx hb
      by_cases he : x.kind = 3
      · rw [decide_eq_true he] at hC
        have HNE := Lib.hid (HNO.out.succ HX.out he)
        clear he
        go_wp2_with fail
        refine hC.mono ?_
        rintro e w2 ⟨hb2, rfl⟩
        have HQ : Hid (∃ k' : Nat, Value.int .i64 ((k + 1 : Nat) : Int) = .int .i64 k' ∧ k' ≤ n ∧ Hid (AllText l k') ∧ Below w.heap.size w w2) := ⟨k + 1, rfl, hlt, HNE, below_onZ HB.out hb2⟩
        clear hC hb2 s0 s1 s2 s3 s4 s5
        go_wp2
        go_roundw
        case rel => exact HQ.out
        case measure => simp [intOf]; omega
      · rw [decide_eq_false he] at hC
        have HE : Hid (¬ ∀ y ∈ l, Jq.J.kind y = 3) := fun h => he (h x (List.mem_of_getElem? HX.out))
        clear he
        go_wp2_with fail
        refine hC.mono ?_
        rintro e w2 ⟨hb2, rfl⟩
        have HQ : Hid (NoTextEnd l w (.returned (.int .i64 (k : Int))) w2) := ⟨below_onZ HB.out hb2, .inl ⟨k, rfl, HE.out⟩⟩
        clear hC hb2 s0 s1 s2 s3 s4 s5
        go_wp2
        go_ret
        exact HQ.out
    · obtain rfl : k = n := by omega
      have hd2 : decide ((k : Int) < (k : Int)) = false := by simp
      have HQ : Hid (NoTextEnd l w (.returned (.int .i64 (-1))) wr) := ⟨hb, .inr ⟨rfl, HNO.out.all HN.out⟩⟩
      clear hb
      go_wp2
      go_ret
      exact HQ.out
set_option maxHeartbeats 1000000 in
set_option maxRecDepth 100000 in
theorem containsJ_any {ok : Nat → Prop} (l : List Jq.J) (A : Option Addr) (n c : Nat) (w : World) (hL : ListIs w ok (.slice A n c) l) (hl : l.length = n) :
    Calls Tryd.prog 45 #[.slice A n c, .func (.func 51) #[] #[]] w fun e w' => Below w.heap.size w w' ∧ e = .returned (.bool (!decide (∀ y ∈ l, Jq.J.kind y = 3))) := by
  have hC := indexJ_any l A n c w hL hl
  clear hL hl
  go_enter Tryd.func45, Tryd.ntmps45
  go_wp2_with fail
  refine hC.mono ?_
  rintro e w2 ⟨hb, ⟨k, rfl, h⟩ | ⟨rfl, h⟩⟩
  · have HQ : Hid (Below w.heap.size w w2 ∧ Ending.returned (Value.bool true) = .returned (.bool (!decide (∀ y ∈ l, Jq.J.kind y = 3)))) := ⟨hb, by rw [decide_eq_false h]; rfl⟩
    have hd0 : decide ((0 : Int) ≤ (k : Int)) = true := decide_eq_true (by omega)
    clear hC hb h
    go_wp2
    go_ret
    exact HQ.out
  · have HQ : Hid (Below w.heap.size w w2 ∧ Ending.returned (Value.bool false) = .returned (.bool (!decide (∀ y ∈ l, Jq.J.kind y = 3)))) := ⟨hb, by rw [decide_eq_true h]; rfl⟩
    clear hC hb h
    go_wp2
    go_ret
    exact HQ.out
theorem IsJ.sixK {w : World} {x : Jq.J} {A1 A2 : Option Addr} {c1 c2 : Nat} {W : World} (e : W = w.alloc (jbox x A1 c1 A2 c2)) : W.cell? ⟨w.heap.size, 0, none⟩ = some (.int .i64 x.kind) ∧ W.cell? ⟨w.heap.size, 1, none⟩ = some (.bool x.bool) ∧ W.cell? ⟨w.heap.size, 2, none⟩ = some (.int .i64 x.int) ∧ W.cell? ⟨w.heap.size, 3, none⟩ = some (.string (strOf x.text)) ∧ W.cell? ⟨w.heap.size, 4, none⟩ = some (.slice A1 x.names.length c1) ∧ W.cell? ⟨w.heap.size, 5, none⟩ = some (.slice A2 x.list.length c2) := by
  have hl : Lies W w.heap.size 27 [.int .i64 x.kind, .bool x.bool, .int .i64 x.int, .string (strOf x.text), .slice A1 x.names.length c1, .slice A2 x.list.length c2] := by rw [e]; exact Lies.new_ rfl
  exact ⟨hl.cell 0, hl.cell 1, hl.cell 2, hl.cell 3, hl.cell 4, hl.cell 5⟩
set_option maxHeartbeats 2000000 in
set_option maxRecDepth 100000 in
theorem fits_any {ok : Nat → Prop} (x : Jq.J) (t : Int) (A1 A2 : Option Addr) (c1 c2 : Nat) (w : World) (hL : ListIs w ok (.slice A2 x.list.length c2) x.list) :
    Calls Tryd.prog 39 #[jv x.kind x.bool x.int (strOf x.text) (.slice A1 x.names.length c1) (.slice A2 x.list.length c2), .int .i64 t] w fun e w' => Below w.heap.size w w' ∧ e = .returned (.bool (decide (Tq.fitsP x t))) := by
  obtain ⟨P, eP⟩ : ∃ P, decide (Tq.fitsP x t) = P := ⟨_, rfl⟩
  rw [eP]
  obtain ⟨W2, eW2⟩ : ∃ W2, W2 = w.alloc (jbox x A1 c1 A2 c2) := ⟨_, rfl⟩
  have hb2 : Below w.heap.size w W2 := by rw [eW2]; exact below_new _ _
  obtain ⟨z0, z1, z2, z3, z4, z5⟩ := IsJ.sixK eW2
  have HB2 := Lib.hid hb2
  have HW2 := Lib.hid eW2
  have hT := isText_any x A1 A2 c1 c2 W2
  have hK := containsJ_any x.list A2 x.list.length c2 W2 (hL.onK hb2) rfl
  rw [eW2] at z0 z1 z2 z3 z4 z5 hT hK
  clear hb2 hL eW2
  rcases Decidable.em (t = 1) with h1 | h1
  · subst h1
    have HQ : Hid (decide (x.kind = 3) = P) := by unfold Hid; rw [← eP]; congr 1; unfold Tq.fitsP; simp
    clear eP hK
    go_enter Tryd.func39, Tryd.ntmps39
    go_wp2_with fail
    refine hT.mono ?_
    rintro e w2 ⟨hb, rfl⟩
    rw [← HW2.out] at hb
    have HB := Lib.hid (below_onZ HB2.out hb)
    clear hT hb z0 z1 z2 z3 z4 z5
    go_wp2
    go_ret
    exact ⟨HB.out, congrArg (fun b => Ending.returned (.bool b)) HQ.out⟩
  obtain ⟨p1a, p1b⟩ : (t == 1) = false ∧ decide (t = 1) = false := ⟨beq_false_of_ne h1, decide_eq_false h1⟩
  rcases Decidable.em (t = 2) with h2 | h2
  · subst h2
    have HQ : Hid ((x.kind == 2) = P) := by unfold Hid; rw [← eP, beq_dec]; congr 1; unfold Tq.fitsP; simp
    clear eP hK hT
    go_enter Tryd.func39, Tryd.ntmps39
    go_wp2
    go_ret
    rw [← HW2.out]
    exact ⟨HB2.out, congrArg (fun b => Ending.returned (.bool b)) HQ.out⟩
  obtain ⟨p2a, p2b⟩ : (t == 2) = false ∧ decide (t = 2) = false := ⟨beq_false_of_ne h2, decide_eq_false h2⟩
  rcases Decidable.em (t = 3) with h3 | h3
  · subst h3
    have HQ : Hid ((x.kind == 1) = P) := by unfold Hid; rw [← eP, beq_dec]; congr 1; unfold Tq.fitsP; simp
    clear eP hK hT
    go_enter Tryd.func39, Tryd.ntmps39
    go_wp2
    go_ret
    rw [← HW2.out]
    exact ⟨HB2.out, congrArg (fun b => Ending.returned (.bool b)) HQ.out⟩
  obtain ⟨p3a, p3b⟩ : (t == 3) = false ∧ decide (t = 3) = false := ⟨beq_false_of_ne h3, decide_eq_false h3⟩
  rcases Decidable.em (t = 4) with h4 | h4
  · subst h4
    rcases Decidable.em (x.kind = 4) with k4 | k4
    · have g1 : (x.kind == 4) = true := by rw [k4]; rfl
      have HQ : Hid (decide (∀ y ∈ x.list, Jq.J.kind y = 3) = P) := by unfold Hid; rw [← eP]; congr 1; unfold Tq.fitsP; simp [k4]
      obtain ⟨K, eK⟩ : ∃ K, decide (∀ y ∈ x.list, Jq.J.kind y = 3) = K := ⟨_, rfl⟩
      rw [eK] at hK HQ
      clear eP hT k4 eK
      go_enter Tryd.func39, Tryd.ntmps39
      go_wp2_with fail
      refine hK.mono ?_
      rintro e w2 ⟨hb, rfl⟩
      rw [← HW2.out] at hb
      have HB := Lib.hid (below_onZ HB2.out hb)
      clear hK hb z0 z1 z2 z3 z4 z5
      cases K with
      | true =>
        go_wp2
        go_ret
        exact ⟨HB.out, congrArg (fun b => Ending.returned (.bool b)) HQ.out⟩
      | false =>
        go_wp2
        go_ret
        exact ⟨HB.out, congrArg (fun b => Ending.returned (.bool b)) HQ.out⟩
    · have g1 : (x.kind == 4) = false := beq_false_of_ne k4
      have HQ : Hid (false = P) := by unfold Hid; rw [← eP]; exact (decide_eq_false (by unfold Tq.fitsP; simp [k4])).symm
      clear eP hT hK k4
      go_enter Tryd.func39, Tryd.ntmps39
      go_wp2
      go_ret
      rw [← HW2.out]
      exact ⟨HB2.out, congrArg (fun b => Ending.returned (.bool b)) HQ.out⟩
  · obtain ⟨p4a, p4b⟩ : (t == 4) = false ∧ decide (t = 4) = false := ⟨beq_false_of_ne h4, decide_eq_false h4⟩
    have HQ : Hid (false = P) := by unfold Hid; rw [← eP]; exact (decide_eq_false (by unfold Tq.fitsP; simp [h1, h2, h3, h4])).symm
    clear eP hT hK h1 h2 h3 h4
    go_enter Tryd.func39, Tryd.ntmps39
    go_wp2
    go_ret
    rw [← HW2.out]
    exact ⟨HB2.out, congrArg (fun b => Ending.returned (.bool b)) HQ.out⟩
end Go.Proofs.YtnbaajdcakjlmaaDoor

/-
  Whether a value is of a type: the document's Fits.
-/
namespace Go.Proofs.YtnbaajdcakjlmaaDoor
open Go.RowKit

set_option maxHeartbeats 2000000 in
set_option maxRecDepth 100000 in
theorem refFits_any {ok : Nat → Prop} (x : Jq.J) (t : Int) (A1 A2 : Option Addr) (c1 c2 : Nat) (w : World) (hL : ListIs w ok (.slice A2 x.list.length c2) x.list) :
    Calls Tryd.prog 10 #[jv x.kind x.bool x.int (strOf x.text) (.slice A1 x.names.length c1) (.slice A2 x.list.length c2), .int .i64 t] w fun e w' => Below w.heap.size w w' ∧ e = .returned (.bool (decide (Tq.fitsP x t))) := by
  obtain ⟨P, eP⟩ : ∃ P, decide (Tq.fitsP x t) = P := ⟨_, rfl⟩
  rw [eP]
  obtain ⟨W2, eW2⟩ : ∃ W2, W2 = w.alloc (jbox x A1 c1 A2 c2) := ⟨_, rfl⟩
  have hb2 : Below w.heap.size w W2 := by rw [eW2]; exact below_new _ _
  obtain ⟨z0, z1, z2, z3, z4, z5⟩ := IsJ.sixK eW2
  have HB2 := Lib.hid hb2
  have HW2 := Lib.hid eW2
  have HZ := Lib.hid (IsJ.sixK eW2)
  have HL := Lib.hid (hL.onK hb2)
  have hns : x.list.length * 88 ≤ 140737488355328 := by
    obtain ⟨_, _, _, h, _⟩ := hL
    exact h
  rw [eW2] at z0 z1 z2 z3 z4 z5
  clear hb2 hL eW2
  rcases Decidable.em (t = 4) with h4 | h4
  · subst h4
    have HFIT : Hid (Tq.fitsP x 4 ↔ x.kind = 4 ∧ ∀ y ∈ x.list, Jq.J.kind y = 3) := by unfold Hid Tq.fitsP; simp
    have HP := Lib.hid eP
    clear eP
    go_enter Tryd.func10, Tryd.ntmps10
    go_wp2_with fail
    rw [← HW2.out]
    clear z0 z1 z2 z3 z4 z5
    obtain ⟨z0, z1, z2, z3, z4, z5⟩ := HZ.out
    go_loop [5] (fun i => ∃ k : Nat, i = .int .i64 k ∧ k ≤ x.list.length ∧ Hid (AllText x.list k)) (fun i => x.list.length - (intOf i).toNat)
    case atStart => exact ⟨0, rfl, Nat.zero_le _, Lib.hid (AllText.zero _)⟩
    case round =>
      obtain ⟨k, rfl, hk, HNO⟩ := hrel
      by_cases hlt : k < x.list.length
      · obtain ⟨b, off, y, B1, d1, B2, d2, rfl, _, _, hx, _, s0, s1, s2, s3, s4, s5⟩ := HL.out.elem (i := k) hlt
        by_cases he : y.kind = 3
        · have g1 : (y.kind != 3) = false := by simp [he]
          have g2 : (y.kind == 3) = true := by simp [he]
          have HQ : Hid (AllText x.list (k + 1)) := HNO.out.succ hx he
          clear he hx
          go_wp2
          go_round
          case rel => exact ⟨k + 1, by go_num, by omega, Lib.hid HQ.out⟩
          case measure => simp [intOf]; omega
        · have g1 : (y.kind != 3) = true := by simp [he]
          have g2 : (y.kind == 3) = false := by simp [he]
          have HQ : Hid (false = P) := by unfold Hid; rw [← HP.out]; exact (decide_eq_false (fun h => he ((HFIT.out.1 h).2 y (List.mem_of_getElem? hx)))).symm
          clear he hx
          go_wp2
          go_ret
          exact ⟨HB2.out, congrArg (fun b => Ending.returned (.bool b)) HQ.out⟩
      · obtain rfl : k = x.list.length := by omega
        have hd2 : decide ((x.list.length : Int) < (x.list.length : Int)) = false := by simp
        have HQ : Hid ((x.kind == 4) = P) := by
          have := HNO.out.all rfl
          unfold Hid
          rw [← HP.out, beq_dec]
          congr 1
          exact propext ⟨fun h => HFIT.out.2 ⟨h, this⟩, fun h => (HFIT.out.1 h).1⟩
        go_wp2
        go_ret
        exact ⟨HB2.out, congrArg (fun b => Ending.returned (.bool b)) HQ.out⟩
  have HP : Hid (decide ((t = 1 ∧ x.kind = 3) ∨ (t = 2 ∧ x.kind = 2) ∨ (t = 3 ∧ x.kind = 1)) = P) := by unfold Hid; rw [← eP]; congr 1; unfold Tq.fitsP; simp [h4]
  obtain ⟨p4a, p4b⟩ : (t == 4) = false ∧ decide (t = 4) = false := ⟨beq_false_of_ne h4, decide_eq_false h4⟩
  clear eP h4 HL HZ hns
  rcases Decidable.em (t = 1) with h1 | h1
  · subst h1
    rcases Decidable.em (x.kind = 3) with k0 | k0
    · have g1 : (x.kind == 3) = true := by simp [k0]
      have HQ : Hid (true = P) := by unfold Hid; rw [← HP.out]; simp [k0]
      clear HP k0
      go_enter Tryd.func10, Tryd.ntmps10
      go_wp2
      go_ret
      rw [← HW2.out]
      exact ⟨HB2.out, congrArg (fun b => Ending.returned (.bool b)) HQ.out⟩
    · have g1 : (x.kind == 3) = false := beq_false_of_ne k0
      have HQ : Hid (false = P) := by unfold Hid; rw [← HP.out]; simp [k0]
      clear HP k0
      go_enter Tryd.func10, Tryd.ntmps10
      go_wp2
      go_ret
      rw [← HW2.out]
      exact ⟨HB2.out, congrArg (fun b => Ending.returned (.bool b)) HQ.out⟩
  obtain ⟨p1a, p1b⟩ : (t == 1) = false ∧ decide (t = 1) = false := ⟨beq_false_of_ne h1, decide_eq_false h1⟩
  rcases Decidable.em (t = 2) with h2 | h2
  · subst h2
    rcases Decidable.em (x.kind = 2) with k0 | k0
    · have g1 : (x.kind == 2) = true := by simp [k0]
      have HQ : Hid (true = P) := by unfold Hid; rw [← HP.out]; simp [k0]
      clear HP k0
      go_enter Tryd.func10, Tryd.ntmps10
      go_wp2
      go_ret
      rw [← HW2.out]
      exact ⟨HB2.out, congrArg (fun b => Ending.returned (.bool b)) HQ.out⟩
    · have g1 : (x.kind == 2) = false := beq_false_of_ne k0
      have HQ : Hid (false = P) := by unfold Hid; rw [← HP.out]; simp [k0]
      clear HP k0
      go_enter Tryd.func10, Tryd.ntmps10
      go_wp2
      go_ret
      rw [← HW2.out]
      exact ⟨HB2.out, congrArg (fun b => Ending.returned (.bool b)) HQ.out⟩
  obtain ⟨p2a, p2b⟩ : (t == 2) = false ∧ decide (t = 2) = false := ⟨beq_false_of_ne h2, decide_eq_false h2⟩
  rcases Decidable.em (t = 3) with h3 | h3
  · subst h3
    rcases Decidable.em (x.kind = 1) with k0 | k0
    · have g1 : (x.kind == 1) = true := by simp [k0]
      have HQ : Hid (true = P) := by unfold Hid; rw [← HP.out]; simp [k0]
      clear HP k0
      go_enter Tryd.func10, Tryd.ntmps10
      go_wp2
      go_ret
      rw [← HW2.out]
      exact ⟨HB2.out, congrArg (fun b => Ending.returned (.bool b)) HQ.out⟩
    · have g1 : (x.kind == 1) = false := beq_false_of_ne k0
      have HQ : Hid (false = P) := by unfold Hid; rw [← HP.out]; simp [k0]
      clear HP k0
      go_enter Tryd.func10, Tryd.ntmps10
      go_wp2
      go_ret
      rw [← HW2.out]
      exact ⟨HB2.out, congrArg (fun b => Ending.returned (.bool b)) HQ.out⟩
  obtain ⟨p3a, p3b⟩ : (t == 3) = false ∧ decide (t = 3) = false := ⟨beq_false_of_ne h3, decide_eq_false h3⟩
  have HQ : Hid (false = P) := by unfold Hid; rw [← HP.out]; exact (decide_eq_false (by simp [h1, h2, h3])).symm
  clear HP h1 h2 h3
  go_enter Tryd.func10, Tryd.ntmps10
  go_wp2
  go_ret
  rw [← HW2.out]
  exact ⟨HB2.out, congrArg (fun b => Ending.returned (.bool b)) HQ.out⟩
end Go.Proofs.YtnbaajdcakjlmaaDoor
