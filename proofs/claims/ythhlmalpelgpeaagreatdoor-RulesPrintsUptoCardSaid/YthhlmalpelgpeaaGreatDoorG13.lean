/-
  G13: ZWl ZWx ZWn, side by side.
-/
import Derived.Test.YthhlmalpelgpeaaGreatDoorG12
import Derived.Test.YthhlmalpelgpeaaGreatDoorG08
import Derived.Deep.DeepCutAuto
import Derived.Test.YthhlmalpelgpeaaGreatDoorG11

/-
  The writer of rules: the form of the last one of some nodes.
-/
namespace Go.Proofs.YthhlmalpelgpeaaGreatDoor
open Go.RowKit

/-- Nodes that can be written: their numbers, their texts. -/
def NdW (n : Zq.Nd) : Prop := (-9223372036854775808 ≤ n.int ∧ n.int ≤ 9223372036854775807) ∧ (-9223372036854775808 ≤ n.a ∧ n.a ≤ 9223372036854775807) ∧ (-9223372036854775808 ≤ n.b ∧ n.b ≤ 9223372036854775807) ∧ n.text.length ≤ 35184372088832 ∧ ∀ x ∈ n.text, x < 256
/-- A row of nodes in memory, in a block of which ok speaks. -/
def NsW (w : World) (ok : Nat → Prop) (v : Value) (ns : List Zq.Nd) : Prop :=
  ∃ A c, v = .slice A ns.length c ∧ ns.length ≤ c ∧ c ≤ 9223372036854775807 ∧ ns.length ≤ 140737488355328 ∧ (∀ n ∈ ns, NdW n) ∧ (0 < ns.length → ∃ b off, A = some ⟨b, off, none⟩ ∧ ok b ∧ b < w.heap.size ∧ ∀ j x, (ncells ns)[j]? = some x → w.cell? ⟨b, off + j, none⟩ = some x)
section
variable {w w' : World} {ok ok' : Nat → Prop} {v : Value} {ns : List Zq.Nd} {A : Option Addr} {n c : Nat}
theorem NsW.keep (h : NsW w ok v ns) (hs : w.heap.size ≤ w'.heap.size) (hk : ∀ b, ok b → b < w.heap.size → ok' b ∧ w'.heap[b]? = w.heap[b]?) : NsW w' ok' v ns := by
  obtain ⟨A, c, rfl, h1, h2, h3, h4, h5⟩ := h
  refine ⟨A, c, rfl, h1, h2, h3, h4, fun h => ?_⟩
  obtain ⟨b, off, rfl, k1, k2, k3⟩ := h5 h
  obtain ⟨g1, g2⟩ := hk b k1 k2
  exact ⟨b, off, rfl, g1, Nat.lt_of_lt_of_le k2 hs, fun j x e => (World.cell?_of_block (a := ⟨b, off + j, none⟩) g2).trans (k3 j x e)⟩
theorem NsW.more (h : NsW w ok v ns) (hb : Below w.heap.size w w') : NsW w' ok v ns := h.keep hb.size (fun b hb' hlt => ⟨hb', hb.block b hlt⟩)
theorem NsW.drew (h : NsW w ok v ns) : NsW w.drew ok v ns := NsW.keep (w := w) (w' := w.drew) (ok := ok) h (Nat.le_refl _) (fun _ hb _ => ⟨hb, rfl⟩)
theorem NsW.form (h : NsW w ok v ns) : ∃ A c, v = .slice A ns.length c := by
  obtain ⟨A, c, e, _⟩ := h
  exact ⟨A, c, e⟩
theorem ncells_take (ns : List Zq.Nd) (k : Nat) : ∃ r, ncells ns = ncells (ns.take k) ++ r := ⟨ncells (ns.drop k), by rw [← ncells_append, List.take_append_drop]⟩
theorem NsW.take (h : NsW w ok (.slice A n c) ns) {k : Nat} (hk : k ≤ ns.length) : NsW w ok (.slice A k c) (ns.take k) := by
  obtain ⟨A', c', e, h1, h2, h3, h4, h5⟩ := h
  injection e with e1 e2 e3
  subst e1 e3
  have hl : (ns.take k).length = k := by rw [List.length_take]; omega
  refine ⟨A, c, by rw [hl], by omega, h2, by omega, fun n hn => h4 n (List.mem_of_mem_take hn), fun hp => ?_⟩
  rw [hl] at hp
  obtain ⟨b, off, rfl, k1, k2, k3⟩ := h5 (by omega)
  obtain ⟨r, hr⟩ := ncells_take ns k
  exact ⟨b, off, rfl, k1, k2, fun j x hj => k3 j x (by rw [hr, List.getElem?_append_left (List.getElem?_eq_some_iff.1 hj).1]; exact hj)⟩
theorem ncells_at : ∀ (ns : List Zq.Nd) (i j : Nat) (n : Zq.Nd), ns[i]? = some n → j < 5 → (ncells ns)[i * 5 + j]? = (ncell n)[j]?
  | [], i, j, n, h, _ => by simp at h
  | a :: r, 0, j, n, h, hj => by
    simp at h
    subst h
    show (ncell a ++ ncells r)[0 * 5 + j]? = _
    rw [List.getElem?_append_left (by simp; omega)]
    simp
  | a :: r, i + 1, j, n, h, hj => by
    show (ncell a ++ ncells r)[(i + 1) * 5 + j]? = _
    rw [List.getElem?_append_right (by simp; omega), show (i + 1) * 5 + j - (ncell a).length = i * 5 + j from by simp; omega]
    exact ncells_at r i j n (by simpa using h) hj
/-- The node at a place: its cells. -/
theorem NsW.elem (h : NsW w ok (.slice A n c) ns) {i : Nat} (hi : i < ns.length) :
    ∃ b off x, A = some ⟨b, off, none⟩ ∧ ok b ∧ b < w.heap.size ∧ ns[i]? = some x ∧ NdW x ∧
      w.cell? ⟨b, off + i * 5, none⟩ = some (.int .i64 x.op) ∧ w.cell? ⟨b, off + i * 5 + 1, none⟩ = some (.int .i64 x.int) ∧ w.cell? ⟨b, off + i * 5 + 2, none⟩ = some (.int .i64 x.a) ∧ w.cell? ⟨b, off + i * 5 + 3, none⟩ = some (.int .i64 x.b) ∧ w.cell? ⟨b, off + i * 5 + 4, none⟩ = some (.string (strOf x.text)) := by
  obtain ⟨A', c', e, h1, h2, h3, h4, h5⟩ := h
  injection e with e1 e2 e3
  subst e1 e3
  obtain ⟨b, off, rfl, k1, k2, k3⟩ := h5 (by omega)
  have hx : ns[i]? = some ns[i] := List.getElem?_eq_getElem hi
  have hc : ∀ j u, j < 5 → (ncell ns[i])[j]? = some u → w.cell? ⟨b, off + (i * 5 + j), none⟩ = some u := fun j u hj hu => k3 _ u (by rw [ncells_at ns i j _ hx hj, hu])
  refine ⟨b, off, ns[i], rfl, k1, k2, hx, h4 _ (List.getElem_mem hi), hc 0 _ (by omega) rfl, ?_, ?_, ?_, ?_⟩
  all_goals rw [Nat.add_assoc]
  · exact hc 1 _ (by omega) rfl
  · exact hc 2 _ (by omega) rfl
  · exact hc 3 _ (by omega) rfl
  · exact hc 4 _ (by omega) rfl
end
/-- The form of the last node, inside so many others. -/
def lastF (ns : List Zq.Nd) (outer : Nat) (n : Zq.Nd) : Fm :=
  if ((formP n).ops < 1 ∨ (0 ≤ n.a ∧ n.a < (ns.length : Int) - 1)) ∧ ((formP n).ops < 2 ∨ (0 ≤ n.b ∧ n.b < (ns.length : Int) - 1)) ∧ outer < 64 then formP n else ⟨0, [63], [], [], (formP n).own, 0, 0⟩
theorem formP_ops (n : Zq.Nd) : (formP n).ops ≤ 2 := by
  have h0 : ∀ s, (leafF s).ops ≤ 2 := fun s => Nat.zero_le _
  have h1 : ∀ k s, k ≤ 2 → (funF k s).ops ≤ 2 := fun k s h => h
  have h2 : ∀ s o, (chainF s o).ops ≤ 2 := fun s o => Nat.le_refl _
  have h3 : ∀ s, (cmpF s).ops ≤ 2 := fun s => Nat.le_refl _
  have hite : ∀ (p : Prop) [Decidable p] (a b : Fm), a.ops ≤ 2 → b.ops ≤ 2 → (if p then a else b).ops ≤ 2 := fun p _ a b ha hb => by split <;> assumption
  unfold formP
  refine hite _ _ _ (h0 _) (hite _ _ _ (h0 _) (hite _ _ _ (h0 _) (hite _ _ _ (h0 _) (hite _ _ _ (h2 _ _) (hite _ _ _ (h1 _ _ (by decide)) (hite _ _ _ (h1 _ _ (by decide)) (hite _ _ _ (h1 _ _ (by decide)) (hite _ _ _ (h1 _ _ (by decide)) (hite _ _ _ (h3 _) (hite _ _ _ (h3 _) (hite _ _ _ (h3 _) (hite _ _ _ (by decide) (hite _ _ _ (h2 _ _) (hite _ _ _ (h2 _ _) (hite _ _ _ (h2 _ _) (hite _ _ _ (h1 _ _ (by decide)) (h0 _)))))))))))))))))
/-- May a node's operand stand at a place? -/
def inB (o : Nat) (m : Nat) (a : Int) (last : Int) : Bool := decide (o < m) || (decide (0 ≤ a) && decide (a < last))
theorem lastF_is (ns : List Zq.Nd) (outer : Nat) (n : Zq.Nd) : lastF ns outer n = if (inB (formP n).ops 1 n.a ((ns.length : Int) - 1) && inB (formP n).ops 2 n.b ((ns.length : Int) - 1) && decide (outer < 64)) = true then formP n else ⟨0, [63], [], [], (formP n).own, 0, 0⟩ := by
  have hiff : (inB (formP n).ops 1 n.a ((ns.length : Int) - 1) && inB (formP n).ops 2 n.b ((ns.length : Int) - 1) && decide (outer < 64)) = true ↔ ((formP n).ops < 1 ∨ (0 ≤ n.a ∧ n.a < (ns.length : Int) - 1)) ∧ ((formP n).ops < 2 ∨ (0 ≤ n.b ∧ n.b < (ns.length : Int) - 1)) ∧ outer < 64 := by
    unfold inB
    generalize (formP n).ops = o
    rw [Bool.and_eq_true, Bool.and_eq_true, Bool.or_eq_true, Bool.or_eq_true, Bool.and_eq_true, Bool.and_eq_true, decide_eq_true_iff, decide_eq_true_iff, decide_eq_true_iff, decide_eq_true_iff, decide_eq_true_iff, decide_eq_true_iff, decide_eq_true_iff, and_assoc]
  unfold lastF
  by_cases h : ((formP n).ops < 1 ∨ (0 ≤ n.a ∧ n.a < (ns.length : Int) - 1)) ∧ ((formP n).ops < 2 ∨ (0 ≤ n.b ∧ n.b < (ns.length : Int) - 1)) ∧ outer < 64
  · rw [if_pos h, if_pos (hiff.2 h)]
  · rw [if_neg h, if_neg (fun e => h (hiff.1 e))]
section
variable {w : World} {ok : Nat → Prop} {ns : List Zq.Nd} {A : Option Addr} {n c : Nat}
set_option maxHeartbeats 4000000 in
set_option maxRecDepth 100000 in
theorem lastForm_any (hH : HeldZ w) (outer : Nat) (ho : outer ≤ 1000) (h : NsW w ok (.slice A n c) ns) (hn : ns.length = n) (h0 : 0 < n) {x : Zq.Nd} (hx : ns[n - 1]? = some x) :
    Calls Tryz.prog 83 #[.slice A n c, .int .i64 (outer : Int)] w (FmEnd (lastF ns outer x) w) := by
  obtain ⟨b, off, x', rfl, hb, hlt, hx', hW, s0, s1, s2, s3, s4⟩ := h.elem (i := n - 1) (by omega)
  rw [hx] at hx'
  injection hx' with hx'
  subst hx'
  have hnl : n ≤ 140737488355328 := by
    obtain ⟨_, _, _, _, _, k, _⟩ := h
    omega
  obtain ⟨m, rfl⟩ : ∃ m, n = m + 1 := ⟨n - 1, by omega⟩
  rw [Nat.add_sub_cancel] at s0 s1 s2 s3 s4
  have hsub : ((m + 1 : Nat) : Int) - 1 = (m : Int) := by omega
  obtain ⟨WA, eWA⟩ : ∃ WA, WA = (w.alloc (.cells zero7.toArray 116)).alloc (.cells #[.int .i64 x.op, .int .i64 x.int, .int .i64 x.a, .int .i64 x.b, .string (strOf x.text)] 37) := ⟨_, rfl⟩
  have hbA : Below w.heap.size w WA := by rw [eWA]; exact below_new2 _ _ _
  have hlG : Lies WA w.heap.size 116 zero7 := by rw [eWA]; exact (Lies.new_ rfl).alloc _
  have hlN : Lies WA (w.heap.size + 1) 37 (ncell x) := by rw [eWA]; exact Lies.new_ (by simp)
  have hC := formOf_any x WA (hH.below hbA) hW.1.1 hW.1.2 hW.2.2.2.1 hW.2.2.2.2
  have HBA := Lib.hid hbA
  have HLG := Lib.hid hlG
  have HLN := Lib.hid hlN
  have HO := Lib.hid (formP_ops x)
  have HLF := Lib.hid (lastF_is ns outer x)
  have HN : Hid (ns.length = m + 1) := hn
  have HXA : Hid ((-9223372036854775808 ≤ x.a ∧ x.a ≤ 9223372036854775807) ∧ (-9223372036854775808 ≤ x.b ∧ x.b ≤ 9223372036854775807)) := ⟨hW.2.1, hW.2.2.1⟩
  have hm0 : (0 : Int) ≤ (m : Int) := by omega
  have hm1 : (m : Int) < (m : Int) + 1 := by omega
  have hcast : ((m + 1 : Nat) : Int) = (m : Int) + 1 := rfl
  have HWA := Lib.hid eWA
  rw [eWA] at hC
  clear h hx hH hb hbA hlG hlN hW eWA hn h0
  go_enter Tryz.func83, Tryz.ntmps83
  go_wp2_with fail
  refine hC.mono ?_
  rintro e w3 ⟨rfl, hb3⟩
  clear hC
  rw [← HWA.out] at hb3
  obtain ⟨F, eF⟩ : ∃ F, formP x = F := ⟨_, rfl⟩
  have hO := HO.out
  have hLF := HLF.out
  rw [eF] at hO hLF ⊢
  obtain ⟨o, t1, t2, t3, p, l, r⟩ := F
  simp only at hO hLF
  rw [HN.out, hsub] at hLF
  obtain ⟨KA, eKA⟩ : ∃ KA, inB o 1 x.a (m : Int) = KA := ⟨_, rfl⟩
  obtain ⟨KB, eKB⟩ : ∃ KB, inB o 2 x.b (m : Int) = KB := ⟨_, rfl⟩
  rw [eKA, eKB] at hLF
  have HKA := Lib.hid eKA
  have HKB := Lib.hid eKB
  have HLL := Lib.hid hLF
  have hl3 := HLG.out.below hb3 HLG.out.lt
  have hn3 := HLN.out.below hb3 HLN.out.lt
  have HB3 := Lib.hid (below_more3 HBA.out hb3)
  have HLG3 := Lib.hid hl3
  have HLN3 := Lib.hid hn3
  clear eKA eKB hLF hl3 hn3 hb3 eF
  go_upto_region 4 with (fail)
  obtain ⟨W4, eW4⟩ : ∃ W4, W4 = w3.alloc (.cells #[.int .i64 (o : Int), .string (strOf t1), .string (strOf t2), .string (strOf t3), .int .i64 (p : Int), .int .i64 (l : Int), .int .i64 (r : Int)] 116) := ⟨_, rfl⟩
  rw [← eW4]
  have hb4 : Below w3.heap.size w3 W4 := by rw [eW4]; exact box_below _ _
  have HLG4 := Lib.hid (HLG3.out.below hb4 HLG3.out.lt)
  have HLN4 := Lib.hid (HLN3.out.below hb4 HLN3.out.lt)
  have HLF4 : Hid (Lies W4 w3.heap.size 116 [.int .i64 (o : Int), .string (strOf t1), .string (strOf t2), .string (strOf t3), .int .i64 (p : Int), .int .i64 (l : Int), .int .i64 (r : Int)]) := by unfold Hid; rw [eW4]; exact Lies.new_ rfl
  have HB4 := Lib.hid (below_more3 HB3.out hb4)
  clear hb4 eW4 s0 s1 s2 s3 s4
  go_cut [8] (fun v wx => v = .bool KA ∧ wx = W4)
  case first =>
    obtain ⟨⟨y0, y1, y2, y3, y4, y5, y6⟩, _⟩ := HLF4.out.seven
    obtain ⟨⟨b0, b1, b2, b3, b4⟩, _⟩ := HLN4.out.five
    by_cases ho1 : o < 1
    · have d1 : decide ((o : Int) < 1) = true := decide_eq_true (by omega)
      have HX : Hid (true = KA) := by unfold Hid; rw [← HKA.out, inB, decide_eq_true ho1, Bool.true_or]
      clear ho1
      go_wp2_with fail
      go_meet
      exact ⟨congrArg Value.bool HX.out, rfl⟩
    have d1 : decide ((o : Int) < 1) = false := decide_eq_false (by omega)
    by_cases ha : 0 ≤ x.a
    · have d2 : decide ((0 : Int) ≤ x.a) = true := decide_eq_true ha
      have HX : Hid (decide (x.a < (m : Int)) = KA) := by unfold Hid; rw [← HKA.out, inB, decide_eq_false ho1, Bool.false_or, decide_eq_true ha, Bool.true_and]
      clear ho1 ha
      go_wp2_with fail
      go_meet
      exact ⟨congrArg Value.bool HX.out, rfl⟩
    · have d2 : decide ((0 : Int) ≤ x.a) = false := decide_eq_false ha
      have HX : Hid (false = KA) := by unfold Hid; rw [← HKA.out, inB, decide_eq_false ho1, Bool.false_or, decide_eq_false ha, Bool.false_and]
      clear ho1 ha
      go_wp2_with fail
      go_meet
      exact ⟨congrArg Value.bool HX.out, rfl⟩
  case rest =>
  obtain ⟨e8, ewc⟩ := hcut
  subst e8
  rw [ewc]
  clear ewc
  go_upto_region 5 with (fail)
  go_cut [9] (fun v wx => v = .bool KB ∧ wx = W4)
  case first =>
    obtain ⟨⟨y0, y1, y2, y3, y4, y5, y6⟩, _⟩ := HLF4.out.seven
    obtain ⟨⟨b0, b1, b2, b3, b4⟩, _⟩ := HLN4.out.five
    by_cases ho1 : o < 2
    · have d1 : decide ((o : Int) < 2) = true := decide_eq_true (by omega)
      have HX : Hid (true = KB) := by unfold Hid; rw [← HKB.out, inB, decide_eq_true ho1, Bool.true_or]
      clear ho1
      go_wp2_with fail
      go_meet
      exact ⟨congrArg Value.bool HX.out, rfl⟩
    have d1 : decide ((o : Int) < 2) = false := decide_eq_false (by omega)
    by_cases ha : 0 ≤ x.b
    · have d2 : decide ((0 : Int) ≤ x.b) = true := decide_eq_true ha
      have HX : Hid (decide (x.b < (m : Int)) = KB) := by unfold Hid; rw [← HKB.out, inB, decide_eq_false ho1, Bool.false_or, decide_eq_true ha, Bool.true_and]
      clear ho1 ha
      go_wp2_with fail
      go_meet
      exact ⟨congrArg Value.bool HX.out, rfl⟩
    · have d2 : decide ((0 : Int) ≤ x.b) = false := decide_eq_false ha
      have HX : Hid (false = KB) := by unfold Hid; rw [← HKB.out, inB, decide_eq_false ho1, Bool.false_or, decide_eq_false ha, Bool.false_and]
      clear ho1 ha
      go_wp2_with fail
      go_meet
      exact ⟨congrArg Value.bool HX.out, rfl⟩
  case rest =>
  obtain ⟨e9, ewc⟩ := hcut
  subst e9
  rw [ewc]
  clear ewc
  go_upto_region 6 with (fail)
  have hbad : (KA && KB && decide (outer < 64)) = false → lastF ns outer x = ⟨0, [63], [], [], p, 0, 0⟩ := fun h => by rw [HLL.out, h]; rfl
  have hgood : (KA && KB && decide (outer < 64)) = true → lastF ns outer x = ⟨o, t1, t2, t3, p, l, r⟩ := fun h => by rw [HLL.out, if_pos h]
  by_cases h64 : outer < 64
  · have d64 : decide ((64 : Int) ≤ (outer : Int)) = false := decide_eq_false (by omega)
    rw [decide_eq_true h64] at hbad hgood
    clear h64
    cases KA with
    | false =>
      have HV : Hid (Ending.returned (fv7 0 { data := #[63] } { data := #[] } { data := #[] } (p : Int) 0 0) = .returned (fmV (lastF ns outer x))) := by unfold Hid; rw [hbad (by simp)]; rfl
      clear hbad hgood
      obtain ⟨⟨y0, y1, y2, y3, y4, y5, y6⟩, _⟩ := HLF4.out.seven
      obtain ⟨⟨z0, z1, z2, z3, z4, z5, z6⟩, g0, g1, g2, g3, g4, g5, g6⟩ := HLG4.out.seven
      obtain ⟨⟨q0, q1, q2, q3, q4, q5, q6⟩, _⟩ := (HLG4.out.put7 0 { data := #[63] } { data := #[] } { data := #[] } (p : Int) 0 0).seven
      have HE : Hid (FmEnd (lastF ns outer x) w (.returned (fv7 0 { data := #[63] } { data := #[] } { data := #[] } (p : Int) 0 0)) (put7 W4 w.heap.size 0 { data := #[63] } { data := #[] } { data := #[] } (p : Int) 0 0)) := ⟨HV.out, put7_below HB4.out (Nat.le_refl _) 0 { data := #[63] } { data := #[] } { data := #[] } (p : Int) 0 0⟩
      go_wp2
      exact bodyPost_ret (v := fv7 0 { data := #[63] } { data := #[] } { data := #[] } (p : Int) 0 0) (by simp [results, Tryz.results83, go_sem, q0, q1, q2, q3, q4, q5, q6]) rfl HE.out
    | true =>
      cases KB with
      | false =>
        have HV : Hid (Ending.returned (fv7 0 { data := #[63] } { data := #[] } { data := #[] } (p : Int) 0 0) = .returned (fmV (lastF ns outer x))) := by unfold Hid; rw [hbad (by simp)]; rfl
        clear hbad hgood
        obtain ⟨⟨y0, y1, y2, y3, y4, y5, y6⟩, _⟩ := HLF4.out.seven
        obtain ⟨⟨z0, z1, z2, z3, z4, z5, z6⟩, g0, g1, g2, g3, g4, g5, g6⟩ := HLG4.out.seven
        obtain ⟨⟨q0, q1, q2, q3, q4, q5, q6⟩, _⟩ := (HLG4.out.put7 0 { data := #[63] } { data := #[] } { data := #[] } (p : Int) 0 0).seven
        have HE : Hid (FmEnd (lastF ns outer x) w (.returned (fv7 0 { data := #[63] } { data := #[] } { data := #[] } (p : Int) 0 0)) (put7 W4 w.heap.size 0 { data := #[63] } { data := #[] } { data := #[] } (p : Int) 0 0)) := ⟨HV.out, put7_below HB4.out (Nat.le_refl _) 0 { data := #[63] } { data := #[] } { data := #[] } (p : Int) 0 0⟩
        go_wp2
        exact bodyPost_ret (v := fv7 0 { data := #[63] } { data := #[] } { data := #[] } (p : Int) 0 0) (by simp [results, Tryz.results83, go_sem, q0, q1, q2, q3, q4, q5, q6]) rfl HE.out
      | true =>
        have HV : Hid (Ending.returned (fv7 (o : Int) (strOf t1) (strOf t2) (strOf t3) (p : Int) (l : Int) (r : Int)) = .returned (fmV (lastF ns outer x))) := by unfold Hid; rw [hgood (by simp)]
        clear hbad hgood
        obtain ⟨⟨y0, y1, y2, y3, y4, y5, y6⟩, _⟩ := HLF4.out.seven
        obtain ⟨⟨z0, z1, z2, z3, z4, z5, z6⟩, g0, g1, g2, g3, g4, g5, g6⟩ := HLG4.out.seven
        obtain ⟨⟨q0, q1, q2, q3, q4, q5, q6⟩, _⟩ := (HLG4.out.put7 (o : Int) (strOf t1) (strOf t2) (strOf t3) (p : Int) (l : Int) (r : Int)).seven
        have HE : Hid (FmEnd (lastF ns outer x) w (.returned (fv7 (o : Int) (strOf t1) (strOf t2) (strOf t3) (p : Int) (l : Int) (r : Int))) (put7 W4 w.heap.size (o : Int) (strOf t1) (strOf t2) (strOf t3) (p : Int) (l : Int) (r : Int))) := ⟨HV.out, put7_below HB4.out (Nat.le_refl _) (o : Int) (strOf t1) (strOf t2) (strOf t3) (p : Int) (l : Int) (r : Int)⟩
        go_wp2
        exact bodyPost_ret (v := fv7 (o : Int) (strOf t1) (strOf t2) (strOf t3) (p : Int) (l : Int) (r : Int)) (by simp [results, Tryz.results83, go_sem, q0, q1, q2, q3, q4, q5, q6]) rfl HE.out
  · have d64 : decide ((64 : Int) ≤ (outer : Int)) = true := decide_eq_true (by omega)
    rw [decide_eq_false h64] at hbad
    have HV : Hid (Ending.returned (fv7 0 { data := #[63] } { data := #[] } { data := #[] } (p : Int) 0 0) = .returned (fmV (lastF ns outer x))) := by unfold Hid; rw [hbad (by simp)]; rfl
    clear hbad hgood h64
    cases KA with
    | false =>
      obtain ⟨⟨y0, y1, y2, y3, y4, y5, y6⟩, _⟩ := HLF4.out.seven
      obtain ⟨⟨z0, z1, z2, z3, z4, z5, z6⟩, g0, g1, g2, g3, g4, g5, g6⟩ := HLG4.out.seven
      obtain ⟨⟨q0, q1, q2, q3, q4, q5, q6⟩, _⟩ := (HLG4.out.put7 0 { data := #[63] } { data := #[] } { data := #[] } (p : Int) 0 0).seven
      have HE : Hid (FmEnd (lastF ns outer x) w (.returned (fv7 0 { data := #[63] } { data := #[] } { data := #[] } (p : Int) 0 0)) (put7 W4 w.heap.size 0 { data := #[63] } { data := #[] } { data := #[] } (p : Int) 0 0)) := ⟨HV.out, put7_below HB4.out (Nat.le_refl _) 0 { data := #[63] } { data := #[] } { data := #[] } (p : Int) 0 0⟩
      go_wp2
      exact bodyPost_ret (v := fv7 0 { data := #[63] } { data := #[] } { data := #[] } (p : Int) 0 0) (by simp [results, Tryz.results83, go_sem, q0, q1, q2, q3, q4, q5, q6]) rfl HE.out
    | true =>
      cases KB with
      | false =>
        obtain ⟨⟨y0, y1, y2, y3, y4, y5, y6⟩, _⟩ := HLF4.out.seven
        obtain ⟨⟨z0, z1, z2, z3, z4, z5, z6⟩, g0, g1, g2, g3, g4, g5, g6⟩ := HLG4.out.seven
        obtain ⟨⟨q0, q1, q2, q3, q4, q5, q6⟩, _⟩ := (HLG4.out.put7 0 { data := #[63] } { data := #[] } { data := #[] } (p : Int) 0 0).seven
        have HE : Hid (FmEnd (lastF ns outer x) w (.returned (fv7 0 { data := #[63] } { data := #[] } { data := #[] } (p : Int) 0 0)) (put7 W4 w.heap.size 0 { data := #[63] } { data := #[] } { data := #[] } (p : Int) 0 0)) := ⟨HV.out, put7_below HB4.out (Nat.le_refl _) 0 { data := #[63] } { data := #[] } { data := #[] } (p : Int) 0 0⟩
        go_wp2
        exact bodyPost_ret (v := fv7 0 { data := #[63] } { data := #[] } { data := #[] } (p : Int) 0 0) (by simp [results, Tryz.results83, go_sem, q0, q1, q2, q3, q4, q5, q6]) rfl HE.out
      | true =>
        obtain ⟨⟨y0, y1, y2, y3, y4, y5, y6⟩, _⟩ := HLF4.out.seven
        obtain ⟨⟨z0, z1, z2, z3, z4, z5, z6⟩, g0, g1, g2, g3, g4, g5, g6⟩ := HLG4.out.seven
        obtain ⟨⟨q0, q1, q2, q3, q4, q5, q6⟩, _⟩ := (HLG4.out.put7 0 { data := #[63] } { data := #[] } { data := #[] } (p : Int) 0 0).seven
        have HE : Hid (FmEnd (lastF ns outer x) w (.returned (fv7 0 { data := #[63] } { data := #[] } { data := #[] } (p : Int) 0 0)) (put7 W4 w.heap.size 0 { data := #[63] } { data := #[] } { data := #[] } (p : Int) 0 0)) := ⟨HV.out, put7_below HB4.out (Nat.le_refl _) 0 { data := #[63] } { data := #[] } { data := #[] } (p : Int) 0 0⟩
        go_wp2
        exact bodyPost_ret (v := fv7 0 { data := #[63] } { data := #[] } { data := #[] } (p : Int) 0 0) (by simp [results, Tryz.results83, go_sem, q0, q1, q2, q3, q4, q5, q6]) rfl HE.out
end
end Go.Proofs.YthhlmalpelgpeaaGreatDoor

/-
  Rules, plain: what a node's form writes is what the document asks.
-/
namespace Go.Proofs.YthhlmalpelgpeaaGreatDoor
open Go.RowKit

def bodyT (F : Fm) (ca cb : List Nat) : List Nat := F.ahead ++ (if 0 < F.ops then ca else []) ++ (if 1 < F.ops then F.between ++ cb else []) ++ F.behind
def parT (req own : Nat) (t : List Nat) : List Nat := if own < req then 40 :: (t ++ [41]) else t
/-- The precedence of the node at a place. -/
def ownAt (ns : List Zq.Nd) (a : Nat) : Nat := (ns[a]?.map (fun n => Zq.binds n.op)).getD 0
def childT (ns : List Zq.Nd) (f : Nat) (a : Int) (req : Nat) : List Nat := parT req (ownAt ns a.toNat) (Zq.node ns f a.toNat)
theorem formP_own (n : Zq.Nd) : (formP n).own = Zq.binds n.op := by
  unfold formP Zq.binds
  by_cases h1 : n.op = 1
  · rw [if_pos h1, h1]; rfl
  rw [if_neg h1]
  by_cases h2 : n.op = 2
  · rw [if_pos h2, h2]; rfl
  rw [if_neg h2]
  by_cases h3 : n.op = 3
  · rw [if_pos h3, h3]; rfl
  rw [if_neg h3]
  by_cases h4 : n.op = 4
  · rw [if_pos h4, h4]; rfl
  rw [if_neg h4]
  by_cases h5 : n.op = 5
  · rw [if_pos h5, h5]; rfl
  rw [if_neg h5]
  by_cases h6 : n.op = 6
  · rw [if_pos h6, h6]; rfl
  rw [if_neg h6]
  by_cases h7 : n.op = 7
  · rw [if_pos h7, h7]; rfl
  rw [if_neg h7]
  by_cases h8 : n.op = 8
  · rw [if_pos h8, h8]; rfl
  rw [if_neg h8]
  by_cases h9 : n.op = 9
  · rw [if_pos h9, h9]; rfl
  rw [if_neg h9]
  by_cases h10 : n.op = 10
  · rw [if_pos h10, h10]; rfl
  rw [if_neg h10]
  by_cases h11 : n.op = 11
  · rw [if_pos h11, h11]; rfl
  rw [if_neg h11]
  by_cases h12 : n.op = 12
  · rw [if_pos h12, h12]; rfl
  rw [if_neg h12]
  by_cases h13 : n.op = 13
  · rw [if_pos h13, h13]; rfl
  rw [if_neg h13]
  by_cases h14 : n.op = 14
  · rw [if_pos h14, h14]; rfl
  rw [if_neg h14]
  by_cases h15 : n.op = 15
  · rw [if_pos h15, h15]; rfl
  rw [if_neg h15]
  by_cases h16 : n.op = 16
  · rw [if_pos h16, h16]; rfl
  rw [if_neg h16]
  by_cases h17 : n.op = 17
  · rw [if_pos h17, h17]; rfl
  rw [if_neg h17, if_neg h15, if_neg h14, if_neg h13, if_neg (by omega), if_neg h5, if_neg h16]
  rfl
theorem lastF_own (ns : List Zq.Nd) (outer : Nat) (n : Zq.Nd) : (lastF ns outer n).own = Zq.binds n.op := by
  unfold lastF
  split
  · exact formP_own n
  · exact formP_own n
theorem node_zero (ns : List Zq.Nd) (i : Nat) (n : Zq.Nd) (ca cb : List Nat) : Zq.node ns 0 i = bodyT (lastF ns 64 n) ca cb := by
  unfold lastF
  rw [if_neg (fun h => absurd h.2.2 (by decide))]
  rfl
theorem ahead_some {i : Nat} {a : Int} (h : 0 ≤ a ∧ a < (i : Int)) : Zq.ahead i a = some a.toNat := by unfold Zq.ahead; rw [if_pos h]
theorem ahead_none {i : Nat} {a : Int} (h : ¬ (0 ≤ a ∧ a < (i : Int))) : Zq.ahead i a = none := by unfold Zq.ahead; rw [if_neg h]
theorem parT_if (req own : Nat) (t : List Nat) : (if own < req then 40 :: t ++ [41] else t) = parT req own t := rfl
theorem parT_zero (own : Nat) (t : List Nat) : parT 0 own t = t := by unfold parT; rw [if_neg (Nat.not_lt_zero _)]
/-- One node, step by step. -/
theorem node_step (ns : List Zq.Nd) (i f : Nat) (n : Zq.Nd) (hi : ns[i]? = some n) (hl : ns.length = i + 1) (hf : f < 64) :
    Zq.node ns (f + 1) i = bodyT (lastF ns (63 - f) n) (childT ns f n.a (lastF ns (63 - f) n).left) (childT ns f n.b (lastF ns (63 - f) n).right) := by
  have hli : ((ns.length : Int) - 1) = (i : Int) := by omega
  obtain ⟨op, int, a, b, text⟩ := n
  have key : ∀ F : Fm, formP ⟨op, int, a, b, text⟩ = F → lastF ns (63 - f) ⟨op, int, a, b, text⟩ = if (F.ops < 1 ∨ (0 ≤ a ∧ a < (i : Int))) ∧ (F.ops < 2 ∨ (0 ≤ b ∧ b < (i : Int))) then F else ⟨0, [63], [], [], F.own, 0, 0⟩ := fun F hF => by
    unfold lastF
    rw [hF, hli]
    have h64 : 63 - f < 64 := by omega
    by_cases h : (F.ops < 1 ∨ (0 ≤ a ∧ a < (i : Int))) ∧ (F.ops < 2 ∨ (0 ≤ b ∧ b < (i : Int)))
    · rw [if_pos h, if_pos ⟨h.1, h.2, h64⟩]
    · rw [if_neg h, if_neg (fun e => h ⟨e.1, e.2.1⟩)]
  rw [Zq.node.eq_def]
  simp only [hi]
  by_cases h1 : op = 1
  · subst h1
    rw [(key (leafF (Zq.quoted text)) rfl).trans (if_pos ⟨.inl Nat.zero_lt_one, .inl Nat.zero_lt_two⟩)]
    simp [bodyT, leafF]
  by_cases h2 : op = 2
  · subst h2
    rw [(key (leafF (Jq.decimal int)) rfl).trans (if_pos ⟨.inl Nat.zero_lt_one, .inl Nat.zero_lt_two⟩)]
    simp [bodyT, leafF]
  by_cases h3 : op = 3
  · subst h3
    rw [(key (leafF (36 :: text)) rfl).trans (if_pos ⟨.inl Nat.zero_lt_one, .inl Nat.zero_lt_two⟩)]
    simp [bodyT, leafF]
  by_cases h4 : op = 4
  · subst h4
    rw [(key (leafF (Zq.wHas ++ 40 :: 36 :: text ++ [41])) rfl).trans (if_pos ⟨.inl Nat.zero_lt_one, .inl Nat.zero_lt_two⟩)]
    simp [bodyT, leafF]
  by_cases h5 : op = 5
  · subst h5
    have K := key (chainF [32, 43, 32] 5) rfl
    by_cases ha : 0 ≤ a ∧ a < (i : Int)
    · by_cases hb : 0 ≤ b ∧ b < (i : Int)
      · rw [K.trans (if_pos ⟨.inr ha, .inr hb⟩)]
        simp [ahead_some ha, ahead_some hb, Zq.called, Zq.between, show Zq.binds 5 = 5 from rfl, bodyT, childT, parT, ownAt, chainF] <;> rfl
      · rw [K.trans (if_neg (fun h => h.2.elim (fun h => absurd h (by decide)) hb))]
        simp [ahead_some ha, ahead_none hb, Zq.called, Zq.between, bodyT] <;> rfl
    · rw [K.trans (if_neg (fun h => h.1.elim (fun h => absurd h (by decide)) ha))]
      simp [ahead_none ha, Zq.called, Zq.between, bodyT] <;> rfl
  by_cases h6 : op = 6
  · subst h6
    have K := key (funF 1 Zq.wLower) rfl
    by_cases ha : 0 ≤ a ∧ a < (i : Int)
    · rw [K.trans (if_pos ⟨.inr ha, .inl (by decide)⟩)]
      simp [ahead_some ha, Zq.called, bodyT, childT, parT, ownAt, funF, Zq.wLower] <;> rfl
    · rw [K.trans (if_neg (fun h => h.1.elim (fun h => absurd h (by decide)) ha))]
      simp [ahead_none ha, Zq.called, bodyT, Zq.wLower] <;> rfl
  by_cases h7 : op = 7
  · subst h7
    have K := key (funF 1 Zq.wFirst) rfl
    by_cases ha : 0 ≤ a ∧ a < (i : Int)
    · rw [K.trans (if_pos ⟨.inr ha, .inl (by decide)⟩)]
      simp [ahead_some ha, Zq.called, bodyT, childT, parT, ownAt, funF, Zq.wFirst] <;> rfl
    · rw [K.trans (if_neg (fun h => h.1.elim (fun h => absurd h (by decide)) ha))]
      simp [ahead_none ha, Zq.called, bodyT, Zq.wFirst] <;> rfl
  by_cases h8 : op = 8
  · subst h8
    have K := key (funF 1 Zq.wHead) rfl
    by_cases ha : 0 ≤ a ∧ a < (i : Int)
    · rw [K.trans (if_pos ⟨.inr ha, .inl (by decide)⟩)]
      simp [ahead_some ha, Zq.called, bodyT, childT, parT, ownAt, funF, Zq.wHead] <;> rfl
    · rw [K.trans (if_neg (fun h => h.1.elim (fun h => absurd h (by decide)) ha))]
      simp [ahead_none ha, Zq.called, bodyT, Zq.wHead] <;> rfl
  by_cases h9 : op = 9
  · subst h9
    have K := key (funF 1 Zq.wTail) rfl
    by_cases ha : 0 ≤ a ∧ a < (i : Int)
    · rw [K.trans (if_pos ⟨.inr ha, .inl (by decide)⟩)]
      simp [ahead_some ha, Zq.called, bodyT, childT, parT, ownAt, funF, Zq.wTail] <;> rfl
    · rw [K.trans (if_neg (fun h => h.1.elim (fun h => absurd h (by decide)) ha))]
      simp [ahead_none ha, Zq.called, bodyT, Zq.wTail] <;> rfl
  by_cases h10 : op = 10
  · subst h10
    have K := key (cmpF [32, 61, 61, 32]) rfl
    by_cases ha : 0 ≤ a ∧ a < (i : Int)
    · by_cases hb : 0 ≤ b ∧ b < (i : Int)
      · rw [K.trans (if_pos ⟨.inr ha, .inr hb⟩)]
        simp [ahead_some ha, ahead_some hb, Zq.called, Zq.between, show Zq.binds 10 = 4 from rfl, bodyT, childT, parT, ownAt, cmpF] <;> rfl
      · rw [K.trans (if_neg (fun h => h.2.elim (fun h => absurd h (by decide)) hb))]
        simp [ahead_some ha, ahead_none hb, Zq.called, Zq.between, bodyT] <;> rfl
    · rw [K.trans (if_neg (fun h => h.1.elim (fun h => absurd h (by decide)) ha))]
      simp [ahead_none ha, Zq.called, Zq.between, bodyT] <;> rfl
  by_cases h11 : op = 11
  · subst h11
    have K := key (cmpF [32, 60, 32]) rfl
    by_cases ha : 0 ≤ a ∧ a < (i : Int)
    · by_cases hb : 0 ≤ b ∧ b < (i : Int)
      · rw [K.trans (if_pos ⟨.inr ha, .inr hb⟩)]
        simp [ahead_some ha, ahead_some hb, Zq.called, Zq.between, show Zq.binds 11 = 4 from rfl, bodyT, childT, parT, ownAt, cmpF] <;> rfl
      · rw [K.trans (if_neg (fun h => h.2.elim (fun h => absurd h (by decide)) hb))]
        simp [ahead_some ha, ahead_none hb, Zq.called, Zq.between, bodyT] <;> rfl
    · rw [K.trans (if_neg (fun h => h.1.elim (fun h => absurd h (by decide)) ha))]
      simp [ahead_none ha, Zq.called, Zq.between, bodyT] <;> rfl
  by_cases h12 : op = 12
  · subst h12
    have K := key (cmpF [32, 105, 110, 32]) rfl
    by_cases ha : 0 ≤ a ∧ a < (i : Int)
    · by_cases hb : 0 ≤ b ∧ b < (i : Int)
      · rw [K.trans (if_pos ⟨.inr ha, .inr hb⟩)]
        simp [ahead_some ha, ahead_some hb, Zq.called, Zq.between, show Zq.binds 12 = 4 from rfl, bodyT, childT, parT, ownAt, cmpF, Zq.wIn] <;> rfl
      · rw [K.trans (if_neg (fun h => h.2.elim (fun h => absurd h (by decide)) hb))]
        simp [ahead_some ha, ahead_none hb, Zq.called, Zq.between, bodyT, Zq.wIn] <;> rfl
    · rw [K.trans (if_neg (fun h => h.1.elim (fun h => absurd h (by decide)) ha))]
      simp [ahead_none ha, Zq.called, Zq.between, bodyT, Zq.wIn] <;> rfl
  by_cases h13 : op = 13
  · subst h13
    have K := key (⟨1, [110, 111, 116, 32], [], [], 3, 3, 0⟩) rfl
    by_cases ha : 0 ≤ a ∧ a < (i : Int)
    · rw [K.trans (if_pos ⟨.inr ha, .inl (by decide)⟩)]
      simp [ahead_some ha, bodyT, childT, parT, ownAt, Zq.wNot] <;> rfl
    · rw [K.trans (if_neg (fun h => h.1.elim (fun h => absurd h (by decide)) ha))]
      simp [ahead_none ha, bodyT] <;> rfl
  by_cases h14 : op = 14
  · subst h14
    have K := key (chainF [32, 97, 110, 100, 32] 2) rfl
    by_cases ha : 0 ≤ a ∧ a < (i : Int)
    · by_cases hb : 0 ≤ b ∧ b < (i : Int)
      · rw [K.trans (if_pos ⟨.inr ha, .inr hb⟩)]
        simp [ahead_some ha, ahead_some hb, Zq.called, Zq.between, show Zq.binds 14 = 2 from rfl, bodyT, childT, parT, ownAt, chainF, Zq.wAnd] <;> rfl
      · rw [K.trans (if_neg (fun h => h.2.elim (fun h => absurd h (by decide)) hb))]
        simp [ahead_some ha, ahead_none hb, Zq.called, Zq.between, bodyT, Zq.wAnd] <;> rfl
    · rw [K.trans (if_neg (fun h => h.1.elim (fun h => absurd h (by decide)) ha))]
      simp [ahead_none ha, Zq.called, Zq.between, bodyT, Zq.wAnd] <;> rfl
  by_cases h15 : op = 15
  · subst h15
    have K := key (chainF [32, 111, 114, 32] 1) rfl
    by_cases ha : 0 ≤ a ∧ a < (i : Int)
    · by_cases hb : 0 ≤ b ∧ b < (i : Int)
      · rw [K.trans (if_pos ⟨.inr ha, .inr hb⟩)]
        simp [ahead_some ha, ahead_some hb, Zq.called, Zq.between, show Zq.binds 15 = 1 from rfl, bodyT, childT, parT, ownAt, chainF, Zq.wOr] <;> rfl
      · rw [K.trans (if_neg (fun h => h.2.elim (fun h => absurd h (by decide)) hb))]
        simp [ahead_some ha, ahead_none hb, Zq.called, Zq.between, bodyT, Zq.wOr] <;> rfl
    · rw [K.trans (if_neg (fun h => h.1.elim (fun h => absurd h (by decide)) ha))]
      simp [ahead_none ha, Zq.called, Zq.between, bodyT, Zq.wOr] <;> rfl
  by_cases h16 : op = 16
  · subst h16
    have K := key (chainF [32, 101, 108, 115, 101, 32] 6) rfl
    by_cases ha : 0 ≤ a ∧ a < (i : Int)
    · by_cases hb : 0 ≤ b ∧ b < (i : Int)
      · rw [K.trans (if_pos ⟨.inr ha, .inr hb⟩)]
        simp [ahead_some ha, ahead_some hb, Zq.called, Zq.between, show Zq.binds 16 = 6 from rfl, bodyT, childT, parT, ownAt, chainF, Zq.wElse] <;> rfl
      · rw [K.trans (if_neg (fun h => h.2.elim (fun h => absurd h (by decide)) hb))]
        simp [ahead_some ha, ahead_none hb, Zq.called, Zq.between, bodyT, Zq.wElse] <;> rfl
    · rw [K.trans (if_neg (fun h => h.1.elim (fun h => absurd h (by decide)) ha))]
      simp [ahead_none ha, Zq.called, Zq.between, bodyT, Zq.wElse] <;> rfl
  by_cases h17 : op = 17
  · subst h17
    have K := key (funF 2 Zq.wStarts) rfl
    by_cases ha : 0 ≤ a ∧ a < (i : Int)
    · by_cases hb : 0 ≤ b ∧ b < (i : Int)
      · rw [K.trans (if_pos ⟨.inr ha, .inr hb⟩)]
        simp [ahead_some ha, ahead_some hb, bodyT, childT, parT, funF, Zq.wStarts] <;> rfl
      · rw [K.trans (if_neg (fun h => h.2.elim (fun h => absurd h (by decide)) hb))]
        simp [ahead_some ha, ahead_none hb, bodyT] <;> rfl
    · rw [K.trans (if_neg (fun h => h.1.elim (fun h => absurd h (by decide)) ha))]
      simp [ahead_none ha, bodyT] <;> rfl
  have hF : formP ⟨op, int, a, b, text⟩ = leafF [63] := by unfold formP; dsimp only; rw [if_neg h1, if_neg h2, if_neg h3, if_neg h4, if_neg h5, if_neg h6, if_neg h7, if_neg h8, if_neg h9, if_neg h10, if_neg h11, if_neg h12, if_neg h13, if_neg h14, if_neg h15, if_neg h16, if_neg h17]
  rw [(key (leafF [63]) hF).trans (if_pos ⟨.inl Nat.zero_lt_one, .inl Nat.zero_lt_two⟩)]
  simp [h1, h2, h3, h4, h5, h6, h7, h8, h9, h10, h11, h12, h13, h14, h15, h16, h17, Zq.called, Zq.between, bodyT, leafF]
theorem node_take (k : Nat) : ∀ (f i : Nat) (ns : List Zq.Nd), i < k → Zq.node (ns.take k) f i = Zq.node ns f i
  | 0, i, ns, _ => by rw [Zq.node, Zq.node]
  | f + 1, i, ns, h => by
    have hg : (ns.take k)[i]? = ns[i]? := by rw [List.getElem?_take, if_pos h]
    have hop : ∀ a : Nat, a < i → (ns.take k)[a]? = ns[a]? := fun a ha => by rw [List.getElem?_take, if_pos (by omega)]
    have ih : ∀ a : Nat, a < i → Zq.node (ns.take k) f a = Zq.node ns f a := fun a ha => node_take k f a ns (by omega)
    have hah : ∀ (x : Int) (a : Nat), Zq.ahead i x = some a → a < i := fun x a e => by
      unfold Zq.ahead at e
      split at e
      · rename_i hx
        injection e with e
        omega
      · cases e
    rw [Zq.node.eq_def, Zq.node.eq_def]
    simp only [hg]
    cases hn : ns[i]? with
    | none => rfl
    | some n =>
      simp only
      cases ha : Zq.ahead i n.a with
      | none =>
        cases hb : Zq.ahead i n.b <;> rfl
      | some a =>
        have h1 := hah _ _ ha
        simp only [hop a h1, ih a h1]
        cases hb : Zq.ahead i n.b with
        | none => rfl
        | some b =>
          have h2 := hah _ _ hb
          simp only [hop a h1, ih a h1, hop b h2, ih b h2]
end Go.Proofs.YthhlmalpelgpeaaGreatDoor

/-
  The writer of rules: nodes.
-/
namespace Go.Proofs.YthhlmalpelgpeaaGreatDoor
open Go.RowKit

/-- The texts of a form are bytes, and not too long. -/
def Fine (F : Fm) : Prop := ((∀ x ∈ F.ahead, x < 256) ∧ F.ahead.length ≤ 70368744177800) ∧ ((∀ x ∈ F.between, x < 256) ∧ F.between.length ≤ 100) ∧ (∀ x ∈ F.behind, x < 256) ∧ F.behind.length ≤ 100
theorem digits_fine (v : Nat) (h : v ≤ 9223372036854775808) : (∀ x ∈ Jq.digits v, x < 256) ∧ (Jq.digits v).length ≤ 20 := by
  unfold Jq.digits
  refine ⟨fun x hx => ?_, ?_⟩
  · unfold Uq.nums at hx
    rw [List.mem_map] at hx
    obtain ⟨u, _, rfl⟩ := hx
    exact u.toNat_lt
  · unfold Uq.nums
    rw [List.length_map]
    by_cases h1 : 1 ≤ v
    · exact (Uq.decDigits_nums v h1).2.2.2.2 20 (by decide) (by omega)
    · obtain rfl : v = 0 := by omega
      rw [Lib.decDigits, dif_pos (by omega)]
      simp
theorem formP_fine (n : Zq.Nd) (h : NdW n) : Fine (formP n) := by
  obtain ⟨⟨i0, i1⟩, _, _, ht, hl⟩ := h
  have hleaf : ∀ s : List Nat, (∀ x ∈ s, x < 256) → s.length ≤ 70368744177800 → Fine (leafF s) := fun s h1 h2 => ⟨⟨h1, h2⟩, ⟨(fun x hx => by cases hx), Nat.zero_le _⟩, (fun x hx => by cases hx), Nat.zero_le _⟩
  have hite : ∀ (p : Prop) [Decidable p] (a b : Fm), Fine a → Fine b → Fine (if p then a else b) := fun p _ a b ha hb => by split <;> assumption
  have q1 : Fine (leafF (Zq.quoted n.text)) := by
    refine hleaf _ (fun x hx => ?_) ?_
    · rw [quoted_is] at hx
      rcases List.mem_cons.1 hx with rfl | hx
      · decide
      rcases List.mem_append.1 hx with hx | hx
      · exact qOne_lt _ hl x hx
      · simp at hx; omega
    · rw [quoted_is, List.length_cons, List.length_append, List.length_singleton]
      have := qOne_len n.text
      omega
  have q2 : Fine (leafF (Jq.decimal n.int)) := by
    unfold Jq.decimal
    by_cases h0 : n.int < 0
    · rw [if_pos h0]
      obtain ⟨d1, d2⟩ := digits_fine n.int.natAbs (by omega)
      refine hleaf _ (fun x hx => ?_) (by simp; omega)
      rcases List.mem_cons.1 hx with rfl | hx
      · decide
      · exact d1 x hx
    · rw [if_neg h0]
      obtain ⟨d1, d2⟩ := digits_fine n.int.toNat (by omega)
      exact hleaf _ d1 (by omega)
  have q3 : Fine (leafF (36 :: n.text)) := hleaf _ (fun x hx => by
    rcases List.mem_cons.1 hx with rfl | hx
    · decide
    · exact hl x hx) (by simp; omega)
  have q4 : Fine (leafF (Zq.wHas ++ 40 :: 36 :: n.text ++ [41])) := hleaf _ (fun x hx => by
    rcases List.mem_append.1 hx with hx | hx
    · rcases List.mem_append.1 hx with hx | hx
      · simp [Zq.wHas] at hx; omega
      · rcases List.mem_cons.1 hx with rfl | hx
        · decide
        rcases List.mem_cons.1 hx with rfl | hx
        · decide
        · exact hl x hx
    · simp at hx; omega) (by simp [Zq.wHas]; omega)
  unfold formP
  refine hite _ _ _ q1 (hite _ _ _ q2 (hite _ _ _ q3 (hite _ _ _ q4 (hite _ _ _ ?_ (hite _ _ _ ?_ (hite _ _ _ ?_ (hite _ _ _ ?_ (hite _ _ _ ?_ (hite _ _ _ ?_ (hite _ _ _ ?_ (hite _ _ _ ?_ (hite _ _ _ ?_ (hite _ _ _ ?_ (hite _ _ _ ?_ (hite _ _ _ ?_ (hite _ _ _ ?_ ?_))))))))))))))))
  all_goals
    unfold Fine
    refine ⟨⟨by decide, by decide⟩, ⟨by decide, by decide⟩, by decide, by decide⟩
theorem lastF_fine (ns : List Zq.Nd) (outer : Nat) (n : Zq.Nd) (h : NdW n) : Fine (lastF ns outer n) := by
  unfold lastF
  split
  · exact formP_fine n h
  · exact ⟨⟨by simp, by simp⟩, ⟨by simp, by simp⟩, by simp, by simp⟩
theorem lastF_in (ns : List Zq.Nd) (outer : Nat) (n : Zq.Nd) : (1 ≤ (lastF ns outer n).ops → (0 ≤ n.a ∧ n.a < (ns.length : Int) - 1) ∧ outer < 64) ∧ (2 ≤ (lastF ns outer n).ops → 0 ≤ n.b ∧ n.b < (ns.length : Int) - 1) ∧ (lastF ns outer n).ops ≤ 2 ∧ (lastF ns outer n).left ≤ 10 ∧ (lastF ns outer n).right ≤ 10 := by
  have hlr : (formP n).left ≤ 10 ∧ (formP n).right ≤ 10 := by
    have hite : ∀ (p : Prop) [Decidable p] (a b : Fm), a.left ≤ 10 ∧ a.right ≤ 10 → b.left ≤ 10 ∧ b.right ≤ 10 → (if p then a else b).left ≤ 10 ∧ (if p then a else b).right ≤ 10 := fun p _ a b ha hb => by split <;> assumption
    have q0 : ∀ s, (leafF s).left ≤ 10 ∧ (leafF s).right ≤ 10 := fun s => ⟨by show 0 ≤ 10; decide, by show 0 ≤ 10; decide⟩
    unfold formP
    refine hite _ _ _ (q0 _) (hite _ _ _ (q0 _) (hite _ _ _ (q0 _) (hite _ _ _ (q0 _) (hite _ _ _ ?_ (hite _ _ _ ?_ (hite _ _ _ ?_ (hite _ _ _ ?_ (hite _ _ _ ?_ (hite _ _ _ ?_ (hite _ _ _ ?_ (hite _ _ _ ?_ (hite _ _ _ ?_ (hite _ _ _ ?_ (hite _ _ _ ?_ (hite _ _ _ ?_ (hite _ _ _ ?_ (q0 _)))))))))))))))))
    all_goals exact ⟨by decide, by decide⟩
  have ho := formP_ops n
  unfold lastF
  split
  · rename_i h
    refine ⟨fun h1 => ⟨?_, h.2.2⟩, fun h2 => ?_, ho, hlr⟩
    · rcases h.1 with h | h
      · omega
      · exact h
    · rcases h.2.1 with h | h
      · omega
      · exact h
  · refine ⟨fun h => ?_, fun h => ?_, ?_, ?_, ?_⟩
    · exact absurd h (by show ¬ 1 ≤ 0; decide)
    · exact absurd h (by show ¬ 2 ≤ 0; decide)
    · show 0 ≤ 2; decide
    · show 0 ≤ 10; decide
    · show 0 ≤ 10; decide
/-- A node is written, where so many are still to come inside it. -/
def NodeOk (f : Nat) : Prop := ∀ (w0 : World) (P : Nat) (st : Option (List Nat)) (ns : List Zq.Nd) (A : Option Addr) (n c req : Nat) (w : World), HeldZ w0 → Below w0.heap.size w0 w → w0.heap.size ≤ P → Wz P st w → NsW w (· < P) (.slice A n c) ns → ns.length = n → 0 < n → req ≤ 10 →
  Calls Tryz.prog 66 #[.pointer (some ⟨P, 0, none⟩), .slice A n c, .int .i64 (req : Int), .int .i64 ((64 - f : Nat) : Int)] w (WzEnd P w (addZ st (parT req (ownAt ns (n - 1)) (Zq.node ns f (n - 1)))))
/-- So is what a node's form says. -/
def FormOk (f : Nat) : Prop := ∀ (w0 : World) (P : Nat) (st : Option (List Nat)) (ns : List Zq.Nd) (A : Option Addr) (n c : Nat) (x : Zq.Nd) (w : World), HeldZ w0 → Below w0.heap.size w0 w → w0.heap.size ≤ P → Wz P st w → NsW w (· < P) (.slice A n c) ns → ns.length = n → 0 < n → ns[n - 1]? = some x →
  Calls Tryz.prog 84 #[.pointer (some ⟨P, 0, none⟩), fmV (lastF ns (64 - f) x), .slice A n c, .int .i64 ((64 - f : Nat) : Int)] w (WzEnd P w (addZ st (Zq.node ns f (n - 1))))
theorem NsW.sy {P : Nat} {w w' : World} {v : Value} {ns : List Zq.Nd} (h : NsW w (· < P) v ns) (hs : Sy P w w') : NsW w' (· < P) v ns := h.keep hs.size (fun b hb _ => ⟨hb, hs.below.block b hb⟩)
theorem WzEnd.after {P : Nat} {w w1 w' : World} {st : Option (List Nat)} {e : Ending} (h : WzEnd P w1 st e w') (hs : Sy P w w1) : WzEnd P w st e w' := ⟨h.1, hs.trans h.2.1, h.2.2⟩
set_option maxHeartbeats 4000000 in
set_option maxRecDepth 100000 in
theorem node_of_form (f : Nat) (hf : f ≤ 64) (hF : FormOk f) : NodeOk f := by
  intro w0 P st ns A n c req w hH hB hP hW hN hn h0 hreq
  have hflag := hW.flag
  have HSM := Lib.hid hW.small
  cases st with
  | none =>
    have HE : Hid (WzEnd P w (addZ none (parT req (ownAt ns (n - 1)) (Zq.node ns f (n - 1)))) (.returned (.tuple #[])) w) := ⟨rfl, Sy.refl _ _, hW⟩
    have hflag : w.cell? ⟨P, 1, none⟩ = some (.bool true) := hflag
    clear hH hB hP hW hN
    go_enter Tryz.func66, Tryz.ntmps66
    go_wp2
    go_end0
    exact HE.out
  | some T =>
    have hflag : w.cell? ⟨P, 1, none⟩ = some (.bool false) := hflag
    obtain ⟨x, hx⟩ : ∃ x, ns[n - 1]? = some x := ⟨_, List.getElem?_eq_getElem (by omega)⟩
    have hL := lastForm_any (hH.below hB) (64 - f) (by omega) hN hn h0 hx
    obtain ⟨res, eres⟩ : ∃ res, addZ (some T) (parT req (ownAt ns (n - 1)) (Zq.node ns f (n - 1))) = res := ⟨_, rfl⟩
    have hown : ownAt ns (n - 1) = (lastF ns (64 - f) x).own := by unfold ownAt; rw [hx, lastF_own]; rfl
    have HFF : Hid (∀ st w', Wz P st w' → Sy P w w' → Calls Tryz.prog 84 #[.pointer (some ⟨P, 0, none⟩), fmV (lastF ns (64 - f) x), .slice A n c, .int .i64 ((64 - f : Nat) : Int)] w' (WzEnd P w' (addZ st (Zq.node ns f (n - 1))))) := fun st w' h1 h2 => hF w0 P st ns A n c x w' hH (hB.trans (h2.below.mono hP)) hP h1 (hN.sy h2) hn h0 hx
    have HWP := Lib.hid hW.lt
    have HW := Lib.hid hW
    have HLIT : Hid (numsOf { data := #[40] } = [40] ∧ numsOf { data := #[41] } = [41]) := ⟨rfl, rfl⟩
    rw [hown] at eres
    obtain ⟨D, eD⟩ : ∃ D, 64 - f = D := ⟨_, rfl⟩
    obtain ⟨X, eX⟩ : ∃ X, Zq.node ns f (n - 1) = X := ⟨_, rfl⟩
    have hown' := hown
    rw [eD] at hL HFF eres hown' ⊢
    rw [eX] at HFF eres
    rw [hown', eX, eres]
    obtain ⟨F, eF⟩ : ∃ F, lastF ns D x = F := ⟨_, rfl⟩
    rw [eF] at hL HFF eres
    have HRES := Lib.hid eres
    clear hH hB hP hW hN hF hx hown hown' eres eF eX eD hn h0
    go_enter Tryz.func66, Tryz.ntmps66
    go_wp2_with fail
    refine hL.mono ?_
    rintro e w1 ⟨rfl, hb1⟩
    clear hL hflag
    obtain ⟨o, t1, t2, t3, p, l, r⟩ := F
    obtain ⟨W2, eW2⟩ : ∃ W2, W2 = w1.alloc (.cells #[.int .i64 (o : Int), .string (strOf t1), .string (strOf t2), .string (strOf t3), .int .i64 (p : Int), .int .i64 (l : Int), .int .i64 (r : Int)] 116) := ⟨_, rfl⟩
    have hb2 : Below w1.heap.size w1 W2 := by rw [eW2]; exact box_below _ _
    have hb := below_more3 hb1 hb2
    have HS2 : Hid (Sy P w W2) := Sy.of_below hb (Nat.le_of_lt HWP.out)
    have hw2 := HW.out.keep hb
    have hl2 : Lies W2 w1.heap.size 116 [.int .i64 (o : Int), .string (strOf t1), .string (strOf t2), .string (strOf t3), .int .i64 (p : Int), .int .i64 (l : Int), .int .i64 (r : Int)] := by rw [eW2]; exact Lies.new_ rfl
    have HLF := Lib.hid hl2
    have HNE : Hid (w1.heap.size ≠ P) := by have := HWP.out; have := hb1.size; unfold Hid; omega
    have HTY : Hid ((116 : TypeId) ≠ 5) := by unfold Hid; decide
    by_cases hpr : p < req
    · have d1 : decide ((p : Int) < (req : Int)) = true := decide_eq_true (by omega)
      have hA := wadd_any { data := #[40] } (by decide) hw2
      rw [HLIT.out.1] at hA
      have HPT : Hid (parT req p X = 40 :: (X ++ [41])) := by unfold Hid parT; rw [if_pos hpr]
      rw [eW2] at hA
      have HW2 := Lib.hid eW2
      clear hb1 hb2 hb hw2 hl2 eW2
      go_wp2_with fail
      refine hA.mono ?_
      rintro e w3 ⟨rfl, hs3, hw3⟩
      clear hA
      rw [← HW2.out] at hs3
      have hl3 := hs3.lies _ _ _ HTY.out HNE.out HLF.out
      have HS3 := Lib.hid (HS2.out.trans hs3)
      have hC := HFF.out _ w3 hw3 HS3.out
      have HL3 := Lib.hid hl3
      obtain ⟨⟨y0, y1, y2, y3, y4, y5, y6⟩, _⟩ := hl3.seven
      clear hs3 hw3 hl3
      go_wp2_with fail
      refine hC.mono ?_
      rintro e w4 ⟨rfl, hs4, hw4⟩
      clear hC y0 y1 y2 y3 y4 y5 y6
      have hl4 := hs4.lies _ _ _ HTY.out HNE.out HL3.out
      have HS4 := Lib.hid (HS3.out.trans hs4)
      obtain ⟨⟨y0, y1, y2, y3, y4, y5, y6⟩, _⟩ := hl4.seven
      have hA := wadd_any { data := #[41] } (by decide) hw4
      rw [HLIT.out.2] at hA
      have HFIN : Hid (addZ (addZ (addZ (some T) [40]) X) [41] = res) := by
        unfold Hid
        rw [addZ_add, addZ_add, ← HRES.out, HPT.out]
        congr 1
      clear hs4 hw4 hl4
      go_wp2_with fail
      refine hA.mono ?_
      rintro e w5 ⟨rfl, hs5, hw5⟩
      rw [HFIN.out] at hw5
      have HE : Hid (WzEnd P w res (.returned (.tuple #[])) w5) := ⟨rfl, HS4.out.trans hs5, hw5⟩
      clear hA hs5 hw5
      go_wp2
      go_end0
      exact HE.out
    · have d1 : decide ((p : Int) < (req : Int)) = false := decide_eq_false (by omega)
      have HPT : Hid (parT req p X = X) := by unfold Hid parT; rw [if_neg hpr]
      have hC := HFF.out _ W2 hw2 HS2.out
      have HW2 := Lib.hid eW2
      rw [eW2] at hC
      clear hb1 hb2 hb hw2 hl2 eW2
      go_wp2_with fail
      refine hC.mono ?_
      rintro e w4 ⟨rfl, hs4, hw4⟩
      clear hC
      rw [← HW2.out] at hs4
      have hl4 := hs4.lies _ _ _ HTY.out HNE.out HLF.out
      obtain ⟨⟨y0, y1, y2, y3, y4, y5, y6⟩, _⟩ := hl4.seven
      have HE : Hid (WzEnd P w res (.returned (.tuple #[])) w4) := ⟨rfl, HS2.out.trans hs4, by rw [← HRES.out, HPT.out]; exact hw4⟩
      clear hs4 hw4 hl4
      go_wp2
      go_end0
      exact HE.out
end Go.Proofs.YthhlmalpelgpeaaGreatDoor
