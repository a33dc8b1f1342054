/-
  The document's Print: called, operators, between.
-/
import Derived.Test.YthhlmalpelgpeaaGreatDoorZZBi
namespace Go.Proofs.YthhlmalpelgpeaaGreatDoor
open Go.RowKit

set_option maxHeartbeats 4000000 in
set_option maxRecDepth 100000 in
theorem refCalled_any (op : Int) (w : World) :
    Calls Tryz.prog 45 #[.int .i64 op] w fun e w' => Below w.heap.size w w' ∧ e = .returned (.string (strOf (Zq.called op))) := by
  obtain ⟨R, eR⟩ : ∃ R, Zq.called op = R := ⟨_, rfl⟩
  have HR := Lib.hid eR
  rw [eR]
  obtain ⟨W1, eW1⟩ : ∃ W1, W1 = w.alloc (.cells #[.string { data := #[108, 111, 119, 101, 114] }, .string { data := #[102, 105, 114, 115, 116] }, .string { data := #[104, 101, 97, 100] }, .string { data := #[116, 97, 105, 108] }, .string { data := #[115, 116, 97, 114, 116, 115] }] 9) := ⟨_, rfl⟩
  have hb1 : Below w.heap.size w W1 := by rw [eW1]; exact (Below.refl _ _).alloc (Nat.le_refl _) _
  have hl1 : Lies W1 w.heap.size 9 [.string { data := #[108, 111, 119, 101, 114] }, .string { data := #[102, 105, 114, 115, 116] }, .string { data := #[104, 101, 97, 100] }, .string { data := #[116, 97, 105, 108] }, .string { data := #[115, 116, 97, 114, 116, 115] }] := by rw [eW1]; exact Lies.new_ rfl
  have HB1 := Lib.hid hb1
  have HL1 := Lib.hid hl1
  have HW1 := Lib.hid eW1
  clear eR hb1 hl1 eW1
  go_enter Tryz.func45, Tryz.ntmps45
  go_wp2_with fail
  rw [← HW1.out]
  go_loopw [7] (fun i wr => ∃ k : Nat, i = .int .i64 k ∧ k ≤ 5 ∧ Hid (∀ j, j < k → [6, 7, 8, 9, 17][j]? ≠ some op) ∧ Below W1.heap.size W1 wr) (fun i _ => 5 - (intOf i).toNat)
  case atStart => exact ⟨0, rfl, by decide, fun j hj => absurd hj (Nat.not_lt_zero j), Below.refl _ _⟩
  case round =>
    obtain ⟨k, rfl, hk, HNO, hb⟩ := hrel
    have HB := Lib.hid hb
    by_cases hlt : k < 5
    · have hk6 : k = 0 ∨ k = 1 ∨ k = 2 ∨ k = 3 ∨ k = 4 := by omega
      clear hk hlt hb
      rcases hk6 with rfl | rfl | rfl | rfl | rfl
      · have c0 := (HL1.out.below HB.out HL1.out.lt).cell 0
        simp only [List.getElem?_cons_zero] at c0
        have hF := refFunction_any Zq.wLower (by decide) wr
        rw [show strOf Zq.wLower = { data := #[108, 111, 119, 101, 114] } from rfl, show Zq.fnOp Zq.wLower = 6 from by decide] at hF
        rcases Decidable.em (6 = op) with h | h
        · subst h
          have HQ : Hid ({ data := #[108, 111, 119, 101, 114] } = strOf R) := by unfold Hid; rw [← HR.out]; rfl
          clear HNO HR
          go_wp2_with fail
          refine hF.mono ?_
          rintro e w2 ⟨hb2, rfl⟩
          have HE := Lib.hid (below_onZ HB1.out (below_onZ HB.out hb2))
          clear hF hb2 c0
          go_wp2
          go_ret
          exact ⟨HE.out, congrArg (fun z => Ending.returned (.string z)) HQ.out⟩
        · have g1 : ((6 : Int) == op) = false := beq_false_of_ne h
          have g2 : decide ((6 : Int) = op) = false := decide_eq_false h
          have HQ : Hid (∀ j, j < 1 → [6, 7, 8, 9, 17][j]? ≠ some op) := fun j hj => by
            rcases Nat.lt_or_eq_of_le (Nat.le_of_lt_succ hj) with h' | h'
            · exact HNO.out j h'
            · subst h'; exact fun e => h (Option.some.inj e)
          clear h HNO
          go_wp2_with fail
          refine hF.mono ?_
          rintro e w2 ⟨hb2, rfl⟩
          have HE := Lib.hid (below_onZ HB.out hb2)
          clear hF hb2 c0
          go_wp2
          go_roundw
          case rel => exact ⟨1, by go_num, by omega, Lib.hid HQ.out, HE.out⟩
          case measure => simp [intOf]
      · have c0 := (HL1.out.below HB.out HL1.out.lt).cell 1
        simp only [List.getElem?_cons_zero, List.getElem?_cons_succ] at c0
        have hF := refFunction_any Zq.wFirst (by decide) wr
        rw [show strOf Zq.wFirst = { data := #[102, 105, 114, 115, 116] } from rfl, show Zq.fnOp Zq.wFirst = 7 from by decide] at hF
        rcases Decidable.em (7 = op) with h | h
        · subst h
          have HQ : Hid ({ data := #[102, 105, 114, 115, 116] } = strOf R) := by unfold Hid; rw [← HR.out]; rfl
          clear HNO HR
          go_wp2_with fail
          refine hF.mono ?_
          rintro e w2 ⟨hb2, rfl⟩
          have HE := Lib.hid (below_onZ HB1.out (below_onZ HB.out hb2))
          clear hF hb2 c0
          go_wp2
          go_ret
          exact ⟨HE.out, congrArg (fun z => Ending.returned (.string z)) HQ.out⟩
        · have g1 : ((7 : Int) == op) = false := beq_false_of_ne h
          have g2 : decide ((7 : Int) = op) = false := decide_eq_false h
          have HQ : Hid (∀ j, j < 2 → [6, 7, 8, 9, 17][j]? ≠ some op) := fun j hj => by
            rcases Nat.lt_or_eq_of_le (Nat.le_of_lt_succ hj) with h' | h'
            · exact HNO.out j h'
            · subst h'; exact fun e => h (Option.some.inj e)
          clear h HNO
          go_wp2_with fail
          refine hF.mono ?_
          rintro e w2 ⟨hb2, rfl⟩
          have HE := Lib.hid (below_onZ HB.out hb2)
          clear hF hb2 c0
          go_wp2
          go_roundw
          case rel => exact ⟨2, by go_num, by omega, Lib.hid HQ.out, HE.out⟩
          case measure => simp [intOf]
      · have c0 := (HL1.out.below HB.out HL1.out.lt).cell 2
        simp only [List.getElem?_cons_zero, List.getElem?_cons_succ] at c0
        have hF := refFunction_any Zq.wHead (by decide) wr
        rw [show strOf Zq.wHead = { data := #[104, 101, 97, 100] } from rfl, show Zq.fnOp Zq.wHead = 8 from by decide] at hF
        rcases Decidable.em (8 = op) with h | h
        · subst h
          have HQ : Hid ({ data := #[104, 101, 97, 100] } = strOf R) := by unfold Hid; rw [← HR.out]; rfl
          clear HNO HR
          go_wp2_with fail
          refine hF.mono ?_
          rintro e w2 ⟨hb2, rfl⟩
          have HE := Lib.hid (below_onZ HB1.out (below_onZ HB.out hb2))
          clear hF hb2 c0
          go_wp2
          go_ret
          exact ⟨HE.out, congrArg (fun z => Ending.returned (.string z)) HQ.out⟩
        · have g1 : ((8 : Int) == op) = false := beq_false_of_ne h
          have g2 : decide ((8 : Int) = op) = false := decide_eq_false h
          have HQ : Hid (∀ j, j < 3 → [6, 7, 8, 9, 17][j]? ≠ some op) := fun j hj => by
            rcases Nat.lt_or_eq_of_le (Nat.le_of_lt_succ hj) with h' | h'
            · exact HNO.out j h'
            · subst h'; exact fun e => h (Option.some.inj e)
          clear h HNO
          go_wp2_with fail
          refine hF.mono ?_
          rintro e w2 ⟨hb2, rfl⟩
          have HE := Lib.hid (below_onZ HB.out hb2)
          clear hF hb2 c0
          go_wp2
          go_roundw
          case rel => exact ⟨3, by go_num, by omega, Lib.hid HQ.out, HE.out⟩
          case measure => simp [intOf]
      · have c0 := (HL1.out.below HB.out HL1.out.lt).cell 3
        simp only [List.getElem?_cons_zero, List.getElem?_cons_succ] at c0
        have hF := refFunction_any Zq.wTail (by decide) wr
        rw [show strOf Zq.wTail = { data := #[116, 97, 105, 108] } from rfl, show Zq.fnOp Zq.wTail = 9 from by decide] at hF
        rcases Decidable.em (9 = op) with h | h
        · subst h
          have HQ : Hid ({ data := #[116, 97, 105, 108] } = strOf R) := by unfold Hid; rw [← HR.out]; rfl
          clear HNO HR
          go_wp2_with fail
          refine hF.mono ?_
          rintro e w2 ⟨hb2, rfl⟩
          have HE := Lib.hid (below_onZ HB1.out (below_onZ HB.out hb2))
          clear hF hb2 c0
          go_wp2
          go_ret
          exact ⟨HE.out, congrArg (fun z => Ending.returned (.string z)) HQ.out⟩
        · have g1 : ((9 : Int) == op) = false := beq_false_of_ne h
          have g2 : decide ((9 : Int) = op) = false := decide_eq_false h
          have HQ : Hid (∀ j, j < 4 → [6, 7, 8, 9, 17][j]? ≠ some op) := fun j hj => by
            rcases Nat.lt_or_eq_of_le (Nat.le_of_lt_succ hj) with h' | h'
            · exact HNO.out j h'
            · subst h'; exact fun e => h (Option.some.inj e)
          clear h HNO
          go_wp2_with fail
          refine hF.mono ?_
          rintro e w2 ⟨hb2, rfl⟩
          have HE := Lib.hid (below_onZ HB.out hb2)
          clear hF hb2 c0
          go_wp2
          go_roundw
          case rel => exact ⟨4, by go_num, by omega, Lib.hid HQ.out, HE.out⟩
          case measure => simp [intOf]
      · have c0 := (HL1.out.below HB.out HL1.out.lt).cell 4
        simp only [List.getElem?_cons_zero, List.getElem?_cons_succ] at c0
        have hF := refFunction_any Zq.wStarts (by decide) wr
        rw [show strOf Zq.wStarts = { data := #[115, 116, 97, 114, 116, 115] } from rfl, show Zq.fnOp Zq.wStarts = 17 from by decide] at hF
        rcases Decidable.em (17 = op) with h | h
        · subst h
          have HQ : Hid ({ data := #[115, 116, 97, 114, 116, 115] } = strOf R) := by unfold Hid; rw [← HR.out]; rfl
          clear HNO HR
          go_wp2_with fail
          refine hF.mono ?_
          rintro e w2 ⟨hb2, rfl⟩
          have HE := Lib.hid (below_onZ HB1.out (below_onZ HB.out hb2))
          clear hF hb2 c0
          go_wp2
          go_ret
          exact ⟨HE.out, congrArg (fun z => Ending.returned (.string z)) HQ.out⟩
        · have g1 : ((17 : Int) == op) = false := beq_false_of_ne h
          have g2 : decide ((17 : Int) = op) = false := decide_eq_false h
          have HQ : Hid (∀ j, j < 5 → [6, 7, 8, 9, 17][j]? ≠ some op) := fun j hj => by
            rcases Nat.lt_or_eq_of_le (Nat.le_of_lt_succ hj) with h' | h'
            · exact HNO.out j h'
            · subst h'; exact fun e => h (Option.some.inj e)
          clear h HNO
          go_wp2_with fail
          refine hF.mono ?_
          rintro e w2 ⟨hb2, rfl⟩
          have HE := Lib.hid (below_onZ HB.out hb2)
          clear hF hb2 c0
          go_wp2
          go_roundw
          case rel => exact ⟨5, by go_num, by omega, Lib.hid HQ.out, HE.out⟩
          case measure => simp [intOf]
    · obtain rfl : k = 5 := by omega
      have HQ : Hid ({ data := #[] } = strOf R) := by
        have g := HNO.out
        unfold Hid
        rw [← HR.out]
        unfold Zq.called
        rw [if_neg (fun e => g 0 (by decide) (by rw [e]; rfl))]
        rw [if_neg (fun e => g 1 (by decide) (by rw [e]; rfl))]
        rw [if_neg (fun e => g 2 (by decide) (by rw [e]; rfl))]
        rw [if_neg (fun e => g 3 (by decide) (by rw [e]; rfl))]
        rw [if_neg (fun e => g 4 (by decide) (by rw [e]; rfl))]
        rfl
      have HE := Lib.hid (below_onZ HB1.out hb)
      clear HNO hb
      go_wp2
      go_ret
      exact ⟨HE.out, congrArg (fun z => Ending.returned (.string z)) HQ.out⟩
/-- The operators of a level, and their numbers. -/
def lvlOps (k : Nat) : List (List Nat × Int) := [[([111, 114], 15)], [([97, 110, 100], 14)], [], [([61, 61], 10), ([60], 11), ([105, 110], 12)], [([43], 5)], [([101, 108, 115, 101], 16)]].getD k []
/-- Two rows that hold a level's operators. -/
def LvlIs (w : World) (k : Nat) (v1 v2 : Value) : Prop :=
  ∃ A c A2 c2, v1 = .slice A (lvlOps k).length c ∧ v2 = .slice A2 (lvlOps k).length c2 ∧ ∀ (i : Nat) (x : List Nat × Int), (lvlOps k)[i]? = some x → (∃ b, A = some ⟨b, 0, none⟩ ∧ w.cell? ⟨b, i, none⟩ = some (.string (strOf x.1))) ∧ (∃ b, A2 = some ⟨b, 0, none⟩ ∧ w.cell? ⟨b, i, none⟩ = some (.int .i64 x.2))
theorem LvlIs.below {w w' : World} {k : Nat} {v1 v2 : Value} (h : LvlIs w k v1 v2) (hb : Below w.heap.size w w') : LvlIs w' k v1 v2 := by
  obtain ⟨A, c, A2, c2, e1, e2, h⟩ := h
  refine ⟨A, c, A2, c2, e1, e2, fun i x hx => ?_⟩
  obtain ⟨⟨b, a1, a2⟩, ⟨b', a3, a4⟩⟩ := h i x hx
  exact ⟨⟨b, a1, (hb.cell (World.block_lt_of_cell? _ _ a2)).trans a2⟩, ⟨b', a3, (hb.cell (World.block_lt_of_cell? _ _ a4)).trans a4⟩⟩
theorem LvlIs.two {w W : World} {k : Nat} {s1 s2 : List Value} {t1 t2 : TypeId} {c c2 : Nat} (eW : W = (w.alloc (.cells s1.toArray t1)).alloc (.cells s2.toArray t2)) (h1 : s1 = (lvlOps k).map fun x => .string (strOf x.1)) (h2 : s2 = (lvlOps k).map fun x => .int .i64 x.2) :
    LvlIs W k (.slice (some ⟨w.heap.size, 0, none⟩) (lvlOps k).length c) (.slice (some ⟨w.heap.size + 1, 0, none⟩) (lvlOps k).length c2) := by
  have l1 : Lies W w.heap.size t1 s1 := by rw [eW]; exact (Lies.new_ rfl).alloc _
  have l2 : Lies W (w.heap.size + 1) t2 s2 := by rw [eW]; exact Lies.new_ (by simp)
  refine ⟨_, _, _, _, rfl, rfl, fun i x hx => ⟨⟨_, rfl, ?_⟩, ⟨_, rfl, ?_⟩⟩⟩
  · rw [l1.cell, h1, List.getElem?_map, hx]; rfl
  · rw [l2.cell, h2, List.getElem?_map, hx]; rfl
set_option maxHeartbeats 4000000 in
set_option maxRecDepth 100000 in
theorem refOperators_any (k : Nat) (hk : k < 6) (w : World) :
    Calls Tryz.prog 69 #[.int .i64 (k : Int)] w fun e w' => Below w.heap.size w w' ∧ ∃ v1 v2, e = .returned (.tuple #[v1, v2]) ∧ LvlIs w' k v1 v2 := by
  have hk6 : k = 0 ∨ k = 1 ∨ k = 2 ∨ k = 3 ∨ k = 4 ∨ k = 5 := by omega
  rcases hk6 with rfl | rfl | rfl | rfl | rfl | rfl
  · have HB := Lib.hid (below_two w (.cells #[.string { data := #[111, 114] }] 9) (.cells #[.int .i64 15] 3))
    have HL : Hid (LvlIs ((w.alloc (.cells #[.string { data := #[111, 114] }] 9)).alloc (.cells #[.int .i64 15] 3)) 0 (.slice (some ⟨w.heap.size, 0, none⟩) 1 1) (.slice (some ⟨w.heap.size + 1, 0, none⟩) 1 1)) := LvlIs.two (k := 0) (c := 1) (c2 := 1) (s1 := [.string { data := #[111, 114] }]) (s2 := [.int .i64 15]) rfl rfl rfl
    go_enter Tryz.func69, Tryz.ntmps69
    go_wp2
    go_ret2
    exact ⟨HB.out, _, _, rfl, HL.out⟩
  · have HB := Lib.hid (below_two w (.cells #[.string { data := #[97, 110, 100] }] 9) (.cells #[.int .i64 14] 3))
    have HL : Hid (LvlIs ((w.alloc (.cells #[.string { data := #[97, 110, 100] }] 9)).alloc (.cells #[.int .i64 14] 3)) 1 (.slice (some ⟨w.heap.size, 0, none⟩) 1 1) (.slice (some ⟨w.heap.size + 1, 0, none⟩) 1 1)) := LvlIs.two (k := 1) (c := 1) (c2 := 1) (s1 := [.string { data := #[97, 110, 100] }]) (s2 := [.int .i64 14]) rfl rfl rfl
    go_enter Tryz.func69, Tryz.ntmps69
    go_wp2
    go_ret2
    exact ⟨HB.out, _, _, rfl, HL.out⟩
  · have HB := Lib.hid (Below.refl w.heap.size w)
    have HL : Hid (LvlIs w 2 (.slice none 0 0) (.slice none 0 0)) := ⟨none, 0, none, 0, rfl, rfl, fun i x hx => by simp [lvlOps] at hx⟩
    go_enter Tryz.func69, Tryz.ntmps69
    go_wp2
    go_ret2
    exact ⟨HB.out, _, _, rfl, HL.out⟩
  · have HB := Lib.hid (below_two w (.cells #[.string { data := #[61, 61] }, .string { data := #[60] }, .string { data := #[105, 110] }] 9) (.cells #[.int .i64 10, .int .i64 11, .int .i64 12] 3))
    have HL : Hid (LvlIs ((w.alloc (.cells #[.string { data := #[61, 61] }, .string { data := #[60] }, .string { data := #[105, 110] }] 9)).alloc (.cells #[.int .i64 10, .int .i64 11, .int .i64 12] 3)) 3 (.slice (some ⟨w.heap.size, 0, none⟩) 3 3) (.slice (some ⟨w.heap.size + 1, 0, none⟩) 3 3)) := LvlIs.two (k := 3) (c := 3) (c2 := 3) (s1 := [.string { data := #[61, 61] }, .string { data := #[60] }, .string { data := #[105, 110] }]) (s2 := [.int .i64 10, .int .i64 11, .int .i64 12]) rfl rfl rfl
    go_enter Tryz.func69, Tryz.ntmps69
    go_wp2
    go_ret2
    exact ⟨HB.out, _, _, rfl, HL.out⟩
  · have HB := Lib.hid (below_two w (.cells #[.string { data := #[43] }] 9) (.cells #[.int .i64 5] 3))
    have HL : Hid (LvlIs ((w.alloc (.cells #[.string { data := #[43] }] 9)).alloc (.cells #[.int .i64 5] 3)) 4 (.slice (some ⟨w.heap.size, 0, none⟩) 1 1) (.slice (some ⟨w.heap.size + 1, 0, none⟩) 1 1)) := LvlIs.two (k := 4) (c := 1) (c2 := 1) (s1 := [.string { data := #[43] }]) (s2 := [.int .i64 5]) rfl rfl rfl
    go_enter Tryz.func69, Tryz.ntmps69
    go_wp2
    go_ret2
    exact ⟨HB.out, _, _, rfl, HL.out⟩
  · have HB := Lib.hid (below_two w (.cells #[.string { data := #[101, 108, 115, 101] }] 9) (.cells #[.int .i64 16] 3))
    have HL : Hid (LvlIs ((w.alloc (.cells #[.string { data := #[101, 108, 115, 101] }] 9)).alloc (.cells #[.int .i64 16] 3)) 5 (.slice (some ⟨w.heap.size, 0, none⟩) 1 1) (.slice (some ⟨w.heap.size + 1, 0, none⟩) 1 1)) := LvlIs.two (k := 5) (c := 1) (c2 := 1) (s1 := [.string { data := #[101, 108, 115, 101] }]) (s2 := [.int .i64 16]) rfl rfl rfl
    go_enter Tryz.func69, Tryz.ntmps69
    go_wp2
    go_ret2
    exact ⟨HB.out, _, _, rfl, HL.out⟩
end Go.Proofs.YthhlmalpelgpeaaGreatDoor
