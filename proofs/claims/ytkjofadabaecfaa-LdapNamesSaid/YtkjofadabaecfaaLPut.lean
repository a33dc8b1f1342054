/-
  The program's PutBind.
-/
import Derived.Test.YtkjofadabaecfaaLKind
import Derived.Test.YtkjofadabaecfaaSlots
namespace Go.Proofs.Ytkjofadabaecfaa
open Go.RowKit

theorem lit21 (a : Array Value) (h : a.size = 21) : ∃ x0 x1 x2 x3 x4 x5 x6 x7 x8 x9 x10 x11 x12 x13 x14 x15 x16 x17 x18 x19 x20, a = #[x0, x1, x2, x3, x4, x5, x6, x7, x8, x9, x10, x11, x12, x13, x14, x15, x16, x17, x18, x19, x20] := by
  obtain ⟨l⟩ := a
  match l, h with
  | [x0, x1, x2, x3, x4, x5, x6, x7, x8, x9, x10, x11, x12, x13, x14, x15, x16, x17, x18, x19, x20], _ => exact ⟨x0, x1, x2, x3, x4, x5, x6, x7, x8, x9, x10, x11, x12, x13, x14, x15, x16, x17, x18, x19, x20, rfl⟩
/-- What the operations of the region leave in which the closure is made. -/
def BindF (V : Nat) (dn pw : ByteArray) : Nat → Value → World → Prop
  | 0, v, _ => v = kv Bq.bindK
  | 1, v, w => ∃ A c, v = .slice A 1 c ∧ ArgIs w A c [3]
  | 2, v, _ => v = .pointer (some ⟨V, 1, none⟩)
  | 3, v, _ => v = .string dn
  | 4, v, w => ∃ A c, v = .slice A dn.size c ∧ ArgIs w A c (numsOf dn)
  | 5, v, _ => v = .pointer (some ⟨V, 2, none⟩)
  | 6, v, _ => v = .string pw
  | 7, v, w => ∃ A c, v = .slice A pw.size c ∧ ArgIs w A c (numsOf pw)
  | 8, v, w => ∃ A1 c1 A2 c2 A3 c3, v = .agg #[.slice A1 1 c1, .slice A2 dn.size c2, .slice A3 pw.size c3] ∧ ArgIs w A1 c1 [3] ∧ ArgIs w A2 c2 (numsOf dn) ∧ ArgIs w A3 c3 (numsOf pw)
  | _, v, w => ∃ K0 P0 A1 c1 A2 c2 A3 c3, v = msgFn K0 P0 ∧ Lies w K0 47 (kcells Bq.bindK) ∧ Lies w P0 50 [.slice A1 1 c1, .slice A2 dn.size c2, .slice A3 pw.size c3] ∧ ArgIs w A1 c1 [3] ∧ ArgIs w A2 c2 (numsOf dn) ∧ ArgIs w A3 c3 (numsOf pw)
theorem BindF.on {V : Nat} {dn pw : ByteArray} {w w' : World} (hb : Below w.heap.size w w') : ∀ j u, BindF V dn pw j u w → BindF V dn pw j u w' := by
  intro j u h
  match j, h with
  | 0, h => exact h
  | 1, ⟨A, c, h1, h2⟩ => exact ⟨A, c, h1, h2.on hb⟩
  | 2, h => exact h
  | 3, h => exact h
  | 4, ⟨A, c, h1, h2⟩ => exact ⟨A, c, h1, h2.on hb⟩
  | 5, h => exact h
  | 6, h => exact h
  | 7, ⟨A, c, h1, h2⟩ => exact ⟨A, c, h1, h2.on hb⟩
  | 8, ⟨A1, c1, A2, c2, A3, c3, h1, h2, h3, h4⟩ => exact ⟨A1, c1, A2, c2, A3, c3, h1, h2.on hb, h3.on hb, h4.on hb⟩
  | j + 9, ⟨K0, P0, A1, c1, A2, c2, A3, c3, h1, h2, h3, h4, h5, h6⟩ => exact ⟨K0, P0, A1, c1, A2, c2, A3, c3, h1, h2.below hb h2.lt, h3.below hb h3.lt, h4.on hb, h5.on hb, h6.on hb⟩

set_option maxHeartbeats 1000000 in
set_option maxRecDepth 100000 in
theorem putBind_any (n : Int) (dn pw : ByteArray) (w : World) (hd : dn.size ≤ 140737488355328) (hp : pw.size ≤ 140737488355328) :
    Calls Try.prog 10 #[.agg #[.int .i64 n, .string dn, .string pw]] w (PutEnd (Bq.bindP n (numsOf dn) (numsOf pw)) w) := by
  obtain ⟨C1, D1, h1⟩ := conv_is dn hd
  obtain ⟨C2, D2, h2⟩ := conv_is pw hp
  have H1 := Lib.hid h1
  have H2 := Lib.hid h2
  clear h1 h2
  obtain ⟨V, eV⟩ : ∃ V, w.heap.size = V := ⟨_, rfl⟩
  have HL0 : ∀ W0, w.alloc (.cells #[.int .i64 n, .string dn, .string pw] 23) = W0 → Below w.heap.size w W0 ∧ Lies W0 V 23 [.int .i64 n, .string dn, .string pw] := by
    intro W0 h
    subst h
    exact ⟨(Below.refl _ _).alloc (Nat.le_refl _) _, Lies.new_ eV.symm⟩
  have HL := Lib.hid HL0
  clear HL0
  go_enter Try.func10, Try.ntmps10
  go_upto_region 1 with (fail)
  generalize hW0 : World.alloc w _ = W0
  obtain ⟨hb0, hL0⟩ := HL.out _ hW0
  have HB0 := Lib.hid hb0
  have HL1 := Lib.hid hL0
  clear hb0 hW0 HL eV hL0
  refine wp_region_slots (by kernel_rfl) (fun W => Below W0.heap.size W0 W) (BindF V dn pw) (Below.refl _ _).drew (by kernel_rfl) ?step ?fin
  case step =>
    intro i o ho listed a W hinv hun hall K' hK
    have hI := hinv.world
    match i, ho with
    | 0, ho =>
      obtain rfl := oper_at ho rfl
      refine slot_call rfl (f := 21) (args := #[]) ?_ (ofBind_any W) ?_
      · go_simp
      · rintro e w' ⟨rfl, rfl⟩
        exact ⟨_, rfl, hK _ _ (below_alloc hI _) rfl (BindF.on ((Below.refl _ _).alloc (Nat.le_refl _) _))⟩
    | 1, ho =>
      obtain rfl := oper_at ho rfl
      refine slot_value rfl (w' := W.alloc (.cells #[.int .u8 3] 5)) (v := .slice (some ⟨W.heap.size, 0, none⟩) 1 1) ?_ ?_
      · go_simp
      · exact hK _ _ (below_alloc hI _) ⟨_, _, rfl, arg_made rfl rfl rfl (by simp) (by simp)⟩ (BindF.on ((Below.refl _ _).alloc (Nat.le_refl _) _))
    | 2, ho =>
      obtain rfl := oper_at ho rfl
      have E1 : a.tmps[1]? = some (.pointer (some ⟨V, 0, none⟩)) := hinv.old 1 (by simp)
      refine slot_value rfl (w' := W) (v := .pointer (some ⟨V, 1, none⟩)) ?_ ?_
      · go_simp
      · exact hK _ _ hI rfl (BindF.on (Below.refl _ _))
    | 3, ho =>
      obtain rfl := oper_at ho rfl
      obtain ⟨v, E7, hv⟩ := hinv.arg 2 _ 7 rfl (hall ⟨2, .data⟩ (by simp) rfl) rfl
      obtain rfl : v = .pointer (some ⟨V, 1, none⟩) := hv
      have z1 := (HL1.out.below hI HL1.out.lt).cell 1
      refine slot_value rfl (w' := W) (v := .string dn) ?_ ?_
      · go_simp
      · exact hK _ _ hI rfl (BindF.on (Below.refl _ _))
    | 4, ho =>
      obtain rfl := oper_at ho rfl
      obtain ⟨v, E8, hv⟩ := hinv.arg 3 _ 8 rfl (hall ⟨3, .data⟩ (by simp) rfl) rfl
      obtain rfl : v = .string dn := hv
      obtain ⟨r1, r2, r3, _⟩ := H1.out W
      refine slot_value rfl (w' := C1 W) (v := .slice (some ⟨W.heap.size, 0, none⟩) dn.size (D1 W)) ?_ ?_
      · go_simp
      · exact hK _ _ (below_more hI r3) ⟨_, _, rfl, r2⟩ (BindF.on r3)
    | 5, ho =>
      obtain rfl := oper_at ho rfl
      have E1 : a.tmps[1]? = some (.pointer (some ⟨V, 0, none⟩)) := hinv.old 1 (by simp)
      refine slot_value rfl (w' := W) (v := .pointer (some ⟨V, 2, none⟩)) ?_ ?_
      · go_simp
      · exact hK _ _ hI rfl (BindF.on (Below.refl _ _))
    | 6, ho =>
      obtain rfl := oper_at ho rfl
      obtain ⟨v, E10, hv⟩ := hinv.arg 5 _ 10 rfl (hall ⟨5, .data⟩ (by simp) rfl) rfl
      obtain rfl : v = .pointer (some ⟨V, 2, none⟩) := hv
      have z1 := (HL1.out.below hI HL1.out.lt).cell 2
      refine slot_value rfl (w' := W) (v := .string pw) ?_ ?_
      · go_simp
      · exact hK _ _ hI rfl (BindF.on (Below.refl _ _))
    | 7, ho =>
      obtain rfl := oper_at ho rfl
      obtain ⟨v, E8, hv⟩ := hinv.arg 6 _ 11 rfl (hall ⟨6, .data⟩ (by simp) rfl) rfl
      obtain rfl : v = .string pw := hv
      obtain ⟨r1, r2, r3, _⟩ := H2.out W
      refine slot_value rfl (w' := C2 W) (v := .slice (some ⟨W.heap.size, 0, none⟩) pw.size (D2 W)) ?_ ?_
      · go_simp
      · exact hK _ _ (below_more hI r3) ⟨_, _, rfl, r2⟩ (BindF.on r3)
    | 8, ho =>
      obtain rfl := oper_at ho rfl
      obtain ⟨u1, E6, A1, c1, rfl, k1⟩ := hinv.arg 1 _ 6 rfl (hall ⟨1, .data⟩ (by simp) rfl) rfl
      obtain ⟨u2, E9, A2, c2, rfl, k2⟩ := hinv.arg 4 _ 9 rfl (hall ⟨4, .data⟩ (by simp) rfl) rfl
      obtain ⟨u3, E12, A3, c3, rfl, k3⟩ := hinv.arg 7 _ 12 rfl (hall ⟨7, .data⟩ (by simp) rfl) rfl
      refine slot_value rfl (w' := W) (v := .agg #[.slice A1 1 c1, .slice A2 dn.size c2, .slice A3 pw.size c3]) ?_ ?_
      · go_simp
      · exact hK _ _ hI ⟨_, _, _, _, _, _, rfl, k1, k2, k3⟩ (BindF.on (Below.refl _ _))
    | 9, ho =>
      obtain rfl := oper_at ho rfl
      obtain ⟨u0, E5, hv⟩ := hinv.arg 0 _ 5 rfl (hall ⟨0, .data⟩ (by simp) rfl) rfl
      obtain rfl : u0 = kv Bq.bindK := hv
      obtain ⟨u8, E13, A1, c1, A2, c2, A3, c3, rfl, k1, k2, k3⟩ := hinv.arg 8 _ 13 rfl (hall ⟨8, .data⟩ (by simp) rfl) rfl
      refine slot_call rfl (f := 22) (args := #[kv Bq.bindK, .agg #[.slice A1 1 c1, .slice A2 dn.size c2, .slice A3 pw.size c3]]) ?_ (message_any _ _ _ _ W) ?_
      · go_simp
      · rintro e w' ⟨rfl, rfl⟩
        have hb : Below W.heap.size W ((kindW Bq.bindK W).alloc (.cells #[.slice A1 1 c1, .slice A2 dn.size c2, .slice A3 pw.size c3] 50)) := below_alloc ((Below.refl _ _).alloc (Nat.le_refl _) _) _
        exact ⟨_, rfl, hK _ _ (below_more hI hb) ⟨_, _, _, _, _, _, _, _, rfl, (Lies.new_ rfl).alloc _, Lies.new_ (by simp), k1.on hb, k2.on hb, k3.on hb⟩ (BindF.on hb)⟩
    | 10, ho =>
      obtain rfl := oper_at ho rfl
      obtain ⟨u8, E13, K0, P0, A1, c1, A2, c2, A3, c3, rfl, kk⟩ := hinv.arg 9 _ 14 rfl (hall ⟨9, .data⟩ (by simp) rfl) rfl
      refine slot_value rfl (w' := W) (v := msgFn K0 P0) ?_ ?_
      · go_simp
      · exact hK _ _ hI ⟨_, _, _, _, _, _, _, _, rfl, kk⟩ (BindF.on (Below.refl _ _))
    | i + 11, ho => simp at ho
  case fin =>
    intro listed a W hinv hall
    obtain ⟨u, E4, K0, P0, A1, c1, A2, c2, A3, c3, rfl, k1, k2, k3, k4, k5⟩ := hinv.slot 10 _ 4 rfl (hall 10) rfl
    have E1 : a.tmps[1]? = some (.pointer (some ⟨V, 0, none⟩)) := hinv.old 1 (by simp)
    have hI := hinv.world
    have z0 := (HL1.out.below hI HL1.out.lt).cell 0
    simp only [List.getElem?_cons_zero] at z0
    have hsz := hinv.size
    have hdf := hinv.defers
    obtain ⟨tm, df⟩ := a
    simp only at hsz hdf E1 E4
    obtain ⟨x0, x1, x2, x3, x4, x5, x6, x7, x8, x9, x10, x11, x12, x13, x14, x15, x16, x17, x18, x19, x20, rfl⟩ := lit21 tm (by rw [hsz]; rfl)
    subst hdf
    simp only [List.getElem?_toArray, List.getElem?_cons_zero, List.getElem?_cons_succ, Option.some.injEq] at E1 E4
    subst E1 E4
    have hM := message1_any (.inl rfl) n K0 P0 [3] (numsOf dn) (numsOf pw) A1 A2 A3 c1 c2 c3 W k1 (by rw [numsOf_length, numsOf_length]; exact k2) k3 k4 k5 ⟨by simp, by rw [numsOf_length]; exact hd, by rw [numsOf_length]; exact hp⟩
    have HBW := Lib.hid (below_more HB0.out hI)
    clear k1 k2 k3 k4 k5 hI hinv hall hsz
    go_wp2_with fail
    refine hM.mono ?_
    intro e w2 hh
    clear hM
    obtain ⟨hb2, ⟨l, A, c, hr, rfl, hl⟩ | ⟨hr, rfl⟩⟩ := hh.cases
    · have HQ : Hid (PutEnd (Bq.bindP n (numsOf dn) (numsOf pw)) w (.returned (.tuple #[.slice A l.length c, .int .i64 0])) w2) := PutEnd.some hr hl (below_more HBW.out hb2)
      clear hh hr hl hb2
      go_wp2
      go_ret2
      exact HQ.out
    · have HQ : Hid (PutEnd (Bq.bindP n (numsOf dn) (numsOf pw)) w (.returned (.tuple #[nilS, .int .i64 70])) w2) := PutEnd.none hr (below_more HBW.out hb2)
      clear hh hr hb2
      go_wp2
      go_ret2
      exact HQ.out
end Go.Proofs.Ytkjofadabaecfaa
