/-
  The type of a node: the program's takes and ofNode, over its table of operators.
-/
import Derived.Test.YtgoecghakiihpaaDoorKFld
namespace Go.Proofs.YtgoecghakiihpaaDoor
open Go.RowKit

/-- The table of operators, as cells. -/
def opCells (e : Tq.Entry) : List Value := [.int .i64 e.1, .int .i64 e.2.1, .int .i64 e.2.2.1, .int .i64 e.2.2.2]
def opsTab : Array Value := (Tq.table.flatMap opCells).toArray
def HeldK (w : World) : Prop := w.var? Tryd.prog "chatelaine/types.operations" = some opsTab
theorem varK_below {n : String} {g : Nat} {cs : Array Value} {w w' : World} (hg : Tryd.prog.globalNamed n = some g) (h : w.var? Tryd.prog n = some cs) (hb : Below w.heap.size w w') : w'.var? Tryd.prog n = some cs := by
  unfold World.var? at h ⊢
  rw [hg] at h ⊢
  simp only [Option.bind_some] at h ⊢
  have hlt : g < w.heap.size := by
    rcases Nat.lt_or_ge g w.heap.size with h' | h'
    · exact h'
    · rw [Array.getElem?_eq_none h'] at h; cases h
  rw [hb.block g hlt]
  exact h
theorem HeldK.below {w w' : World} (h : HeldK w) (hb : Below w.heap.size w w') : HeldK w' := varK_below (g := 0) (by kernel_rfl) h hb
def opAt (j : Nat) : Tq.Entry := Tq.table.getD j (0, 0, 0, 0)
theorem op_index (j : Nat) (hj : j < 20) (w : World) : (Instr.index 56 (.agg opsTab) (.int .i64 (j : Int))).run Tryd.prog w = .ok (.agg (opCells (opAt j)).toArray) w := by
  rcases (by omega : j = 0 ∨ j = 1 ∨ j = 2 ∨ j = 3 ∨ j = 4 ∨ j = 5 ∨ j = 6 ∨ j = 7 ∨ j = 8 ∨ j = 9 ∨ j = 10 ∨ j = 11 ∨ j = 12 ∨ j = 13 ∨ j = 14 ∨ j = 15 ∨ j = 16 ∨ j = 17 ∨ j = 18 ∨ j = 19) with rfl | rfl | rfl | rfl | rfl | rfl | rfl | rfl | rfl | rfl | rfl | rfl | rfl | rfl | rfl | rfl | rfl | rfl | rfl | rfl
  all_goals kernel_rfl
theorem op_block {w : World} (h : HeldK w) : ∃ t fr, w.heap[(0 : Nat)]? = some (.cells opsTab t fr) := by
  unfold HeldK World.var? at h
  rw [show Tryd.prog.globalNamed "chatelaine/types.operations" = some 0 by kernel_rfl] at h
  simp only [Option.bind_some] at h
  cases hg : w.heap[(0 : Nat)]? with
  | none => rw [hg] at h; cases h
  | some o =>
    rw [hg] at h
    cases o with
    | cells cs t fr =>
      have : cs = opsTab := Option.some.inj h
      subst this
      exact ⟨t, fr, rfl⟩
    | _ => cases h

set_option maxHeartbeats 1000000 in
set_option maxRecDepth 100000 in
theorem takes_any {ok : Nat → Prop} (t k : Int) (ts : List Int) (A : Option Addr) (n c : Nat) (w : World) (hK : SlIs w ok (.slice A n c) n (ints ts)) (hn : ts.length = n) (hT : Tq.Tys ts) :
    Calls Tryd.prog 25 #[.int .i64 t, .int .i64 k, .slice A n c] w fun e w' => w = w' ∧ e = .returned (.bool (decide (t = 0) || decide (Tq.opnd ts k = t))) := by
  obtain ⟨R, eR⟩ : ∃ R, (decide (t = 0) || decide (Tq.opnd ts k = t)) = R := ⟨_, rfl⟩
  rw [eR]
  by_cases h0 : t = 0
  · subst h0
    have HQ : Hid (true = R) := by unfold Hid; rw [← eR]; rfl
    clear eR hK hn hT
    go_enter Tryd.func25, Tryd.ntmps25
    go_wp2
    go_ret
    exact ⟨rfl, congrArg (fun b => Ending.returned (.bool b)) HQ.out⟩
  have f1 : decide (t = 0) = false := decide_eq_false h0
  have f2 : (t == 0) = false := beq_false_of_ne h0
  rw [f1, Bool.false_or] at eR
  by_cases hneg : k < 0
  · have hd : decide (0 ≤ k) = false := decide_eq_false (by omega)
    have HQ : Hid (false = R) := by unfold Hid; rw [← eR, Tq.opnd_none (by omega)]; exact (decide_eq_false (by omega)).symm
    clear eR hK hn hT hneg h0
    go_enter Tryd.func25, Tryd.ntmps25
    go_wp2
    go_ret
    exact ⟨rfl, congrArg (fun b => Ending.returned (.bool b)) HQ.out⟩
  obtain ⟨m, rfl⟩ : ∃ m : Nat, k = (m : Int) := ⟨k.toNat, by omega⟩
  by_cases hlt : m < n
  · obtain ⟨A', c', e, h1, h2, h3⟩ := hK
    injection e with e1 e2 e3
    subst e1 e3
    obtain ⟨b, off, rfl, _, _, h4⟩ := h3 (by omega)
    have hc := h4 m _ (ints_at (by omega))
    have hq := (Tq.opnd_pos hT (k := (m : Int)) (by omega)).1
    rw [Int.toNat_natCast] at hq
    rw [hq] at eR
    obtain ⟨y, ey⟩ : ∃ y, ts.getD m 0 = y := ⟨_, rfl⟩
    rw [ey] at hc eR
    clear hq ey h4 hT h3 hn
    by_cases hy : y = t
    · subst hy
      have HQ : Hid (true = R) := by unfold Hid; rw [← eR]; exact (decide_eq_true rfl).symm
      clear eR
      go_enter Tryd.func25, Tryd.ntmps25
      go_wp2
      go_ret
      exact ⟨rfl, congrArg (fun b => Ending.returned (.bool b)) HQ.out⟩
    · have g1 : decide (y = t) = false := decide_eq_false hy
      have g2 : (y == t) = false := beq_false_of_ne hy
      have HQ : Hid (false = R) := by unfold Hid; rw [← eR, g1]
      clear eR
      go_enter Tryd.func25, Tryd.ntmps25
      go_wp2
      go_ret
      exact ⟨rfl, congrArg (fun b => Ending.returned (.bool b)) HQ.out⟩
  · have hd : decide ((m : Int) < (n : Int)) = false := decide_eq_false (by omega)
    have HQ : Hid (false = R) := by unfold Hid; rw [← eR, Tq.opnd_none (by omega)]; exact (decide_eq_false (by omega)).symm
    clear eR hK hn hT h0 hneg
    go_enter Tryd.func25, Tryd.ntmps25
    go_wp2
    go_ret
    exact ⟨rfl, congrArg (fun b => Ending.returned (.bool b)) HQ.out⟩

/-- An entry of the table: what it says of a node. -/
theorem opAt_get {j : Nat} (hj : j < 20) : Tq.table[j]? = some (opAt j) := by
  have : ∀ j : Fin 20, Tq.table[j.val]? = some (opAt j.val) := by decide
  exact this ⟨j, hj⟩
theorem opAt_in {j : Nat} (hj : j < 20) : (0 ≤ (opAt j).2.1 ∧ (opAt j).2.1 ≤ 4) ∧ (0 ≤ (opAt j).2.2.1 ∧ (opAt j).2.2.1 ≤ 4) := by
  have : ∀ j : Fin 20, (0 ≤ (opAt j.val).2.1 ∧ (opAt j.val).2.1 ≤ 4) ∧ (0 ≤ (opAt j.val).2.2.1 ∧ (opAt j.val).2.2.1 ≤ 4) := by decide
  exact this ⟨j, hj⟩
theorem opAt_made {j : Nat} (hj : j < 20) : (opAt j).2.2.2 ≠ 0 := by
  have : ∀ j : Fin 20, (opAt j.val).2.2.2 ≠ 0 := by decide
  exact this ⟨j, hj⟩
theorem hit_eq (op a b : Int) (e : Tq.Entry) : Tq.hit op a b e = (decide (e.1 = op) && ((decide (e.2.1 = 0) || decide (a = e.2.1)) && (decide (e.2.2.1 = 0) || decide (b = e.2.2.1)))) := by
  unfold Tq.hit
  rw [Bool.and_assoc]
/-- None of the first j entries is right. -/
def NoHit (op a b : Int) (j : Nat) : Prop := Tq.first op a b Tq.table = Tq.first op a b (Tq.table.drop j)
theorem NoHit.zero (op a b : Int) : NoHit op a b 0 := rfl
theorem NoHit.succ {op a b : Int} {j : Nat} (h : NoHit op a b j) (hj : j < 20) (hm : Tq.hit op a b (opAt j) = false) : NoHit op a b (j + 1) := by
  unfold NoHit at h ⊢
  rw [h, drop_at (opAt_get hj), Tq.first_skip hm]
theorem NoHit.hit {op a b : Int} {j : Nat} (h : NoHit op a b j) (hj : j < 20) (hm : Tq.hit op a b (opAt j) = true) : Tq.first op a b Tq.table = (opAt j).2.2.2 := by
  unfold NoHit at h
  rw [h, drop_at (opAt_get hj), Tq.first_hit hm]
theorem NoHit.all {op a b : Int} (h : NoHit op a b 20) : Tq.first op a b Tq.table = 0 := h
theorem Lies.fourK {w : World} {g : Nat} {t : TypeId} {a b c d : Value} (hl : Lies w g t [a, b, c, d]) : w.cell? ⟨g, 0, none⟩ = some a ∧ w.cell? ⟨g, 1, none⟩ = some b ∧ w.cell? ⟨g, 2, none⟩ = some c ∧ w.cell? ⟨g, 3, none⟩ = some d :=
  ⟨hl.cell 0, hl.cell 1, hl.cell 2, hl.cell 3⟩
theorem Lies.fiveK {w : World} {g : Nat} {t : TypeId} {a b c d e : Value} (hl : Lies w g t [a, b, c, d, e]) : w.cell? ⟨g, 0, none⟩ = some a ∧ w.cell? ⟨g, 1, none⟩ = some b ∧ w.cell? ⟨g, 2, none⟩ = some c ∧ w.cell? ⟨g, 3, none⟩ = some d ∧ w.cell? ⟨g, 4, none⟩ = some e :=
  ⟨hl.cell 0, hl.cell 1, hl.cell 2, hl.cell 3, hl.cell 4⟩
set_option maxHeartbeats 2000000 in
set_option maxRecDepth 100000 in
theorem ofNode_any {ok ok' : Nat → Prop} (fs : List Tq.Fd) (ts : List Int) (n : Zq.Nd) (A A' : Option Addr) (m c m' c' : Nat) (w : World) (hH : HeldK w) (hK : SlIs w ok' (.slice A' m' c') m' (ints ts)) (hm : ts.length = m') (hT : Tq.Tys ts) (hF : FsE w ok (.slice A m c) fs) (hfs : fs.length = m) (hn : ∀ x ∈ n.text, x < 256) :
    Calls Tryd.prog 15 #[ndv n, .slice A' m' c', .slice A m c] w fun e w' => Below w.heap.size w w' ∧ e = .returned (typeV (Tq.nodeT fs ts n)) := by
  obtain ⟨W1, eW1⟩ : ∃ W1, W1 = w.alloc (.cells #[.int .i64 n.op, .int .i64 n.int, .int .i64 n.a, .int .i64 n.b, .string (strOf n.text)] 41) := ⟨_, rfl⟩
  have hb1 : Below w.heap.size w W1 := by rw [eW1]; exact below_new _ _
  have hl1 : Lies W1 w.heap.size 41 [.int .i64 n.op, .int .i64 n.int, .int .i64 n.a, .int .i64 n.b, .string (strOf n.text)] := by rw [eW1]; exact Lies.new_ rfl
  obtain ⟨P, eP⟩ : ∃ P, Tq.nodeT fs ts n = P := ⟨_, rfl⟩
  have HP := Lib.hid eP
  have HB1 := Lib.hid hb1
  rw [eP]
  have hC := ofClaim_any fs n.text A m c W1 (hF.more hb1) hfs hn
  have hA := ofHas_any fs n.text A m c W1 (hF.more hb1) hfs hn
  obtain ⟨z0, z1, z2, z3, z4⟩ := hl1.fiveK
  have HL1 := Lib.hid hl1
  rcases Decidable.em (n.op = 3) with h3 | h3
  · have d1 : decide (n.op = 3) = true := decide_eq_true h3
    have d2 : (n.op == 3) = true := by rw [h3]; rfl
    have HQ : Hid (P = Tq.claimT fs n.text) := by unfold Hid; rw [← eP]; unfold Tq.nodeT; rw [if_pos h3]
    have HE : Hid (∀ e w', Below W1.heap.size W1 w' ∧ e = Ending.returned (typeV (Tq.claimT fs n.text)) → Below w.heap.size w w' ∧ e = Ending.returned (typeV P)) := fun e w' ⟨k1, k2⟩ => ⟨below_onZ HB1.out k1, by rw [HQ.out]; exact k2⟩
    have hC2 := hC.mono HE.out
    rw [eW1] at hC2 z0 z1 z2 z3 z4
    clear hC hA HE HQ h3 eP hb1 hl1 eW1 hH hK hm hT hF hfs hn HL1
    go_enter Tryd.func15, Tryd.ntmps15
    go_wp2_with fail
    refine hC2.mono ?_
    rintro e w2 ⟨hb, rfl⟩
    have HB := Lib.hid hb
    clear hC2 hb z0 z1 z2 z3 z4
    go_wp2
    go_ret2
    exact ⟨HB.out, rfl⟩
  have d31 : decide (n.op = 3) = false := decide_eq_false h3
  have d32 : (n.op == 3) = false := beq_false_of_ne h3
  rcases Decidable.em (n.op = 4) with h4 | h4
  · have d1 : decide (n.op = 4) = true := decide_eq_true h4
    have d2 : (n.op == 4) = true := by rw [h4]; rfl
    have HQ : Hid (P = Tq.hasT fs n.text) := by unfold Hid; rw [← eP]; unfold Tq.nodeT; rw [if_neg h3, if_pos h4]
    have HE : Hid (∀ e w', Below W1.heap.size W1 w' ∧ e = Ending.returned (typeV (Tq.hasT fs n.text)) → Below w.heap.size w w' ∧ e = Ending.returned (typeV P)) := fun e w' ⟨k1, k2⟩ => ⟨below_onZ HB1.out k1, by rw [HQ.out]; exact k2⟩
    have hA2 := hA.mono HE.out
    rw [eW1] at hA2 z0 z1 z2 z3 z4
    clear hC hA HE HQ h3 h4 eP hb1 hl1 eW1 hH hK hm hT hF hfs hn HL1
    go_enter Tryd.func15, Tryd.ntmps15
    go_wp2_with fail
    refine hA2.mono ?_
    rintro e w2 ⟨hb, rfl⟩
    have HB := Lib.hid hb
    clear hA2 hb z0 z1 z2 z3 z4
    go_wp2
    go_ret2
    exact ⟨HB.out, rfl⟩
  have d41 : decide (n.op = 4) = false := decide_eq_false h4
  have d42 : (n.op == 4) = false := beq_false_of_ne h4
  have hHW := hH.below hb1
  have hKW := hK.on hb1
  obtain ⟨a, ea⟩ : ∃ a, Tq.opnd ts n.a = a := ⟨_, rfl⟩
  obtain ⟨b, eb⟩ : ∃ b, Tq.opnd ts n.b = b := ⟨_, rfl⟩
  have HA : Hid (Tq.opnd ts n.a = a) := ea
  have HBB : Hid (Tq.opnd ts n.b = b) := eb
  have HPT : Hid (P = if Tq.first n.op a b Tq.table = 0 then (0, 121) else (Tq.first n.op a b Tq.table, 0)) := by
    unfold Hid
    rw [← eP, Tq.table_made n.op a b (by rw [← ea]; exact Tq.opnd_in hT _) (by rw [← eb]; exact Tq.opnd_in hT _)]
    unfold Tq.nodeT
    rw [if_neg h3, if_neg h4, ea, eb]
  have HK := Lib.hid hKW
  have HT := Lib.hid hT
  have HM := Lib.hid hm
  have HW := Lib.hid eW1
  obtain ⟨gty, gfr, hgk⟩ := op_block hHW
  rw [eW1] at z0 z1 z2 z3 z4
  rw [eW1] at hgk
  clear hC hA h3 h4 eP hb1 hl1 eW1 hH hK hm hT hF hfs hn ea eb hHW hKW
  go_enter Tryd.func15, Tryd.ntmps15
  go_upto_region 6 with (fail)
  repeat ((fail_if_success (with_reducible show wpList _ _ _ (⟨some 28, _, _, _, _, _⟩ :: _) _ _)); first | go_values | go_skip | go_guarded | go_step | go_upon | go_back | go_simp)
  refine wpList_load_row rfl 56 (Operand.global 0) rfl 0 rfl gty opsTab gfr _ hgk Tryd.underlying56 rfl (by kernel_rfl) ?_
  clear hgk
  go_frame
  obtain ⟨K, eK⟩ : ∃ K, opsTab = K := ⟨_, rfl⟩
  rw [eK]
  have HIX : Hid (∀ (j : Nat) (_ : j < 20) (w : World), (Instr.index 56 (.agg K) (.int .i64 (j : Int))).run Tryd.prog w = .ok (.agg (opCells (opAt j)).toArray) w) := fun j hj w => by rw [← eK]; exact op_index j hj w
  clear eK z0 z1 z2 z3 z4
  rw [← HW.out]
  clear HW
  go_wp2_with fail
  go_loopw [29] (fun i wr => ∃ j : Nat, i = .int .i64 j ∧ j ≤ 20 ∧ Hid (NoHit n.op a b j) ∧ Below W1.heap.size W1 wr) (fun i _ => 20 - (intOf i).toNat)
  case atStart => exact ⟨0, rfl, by decide, Lib.hid (NoHit.zero _ _ _), Below.refl _ _⟩
  case round =>
    obtain ⟨j, rfl, hj, HNO, hb⟩ := hrel
    by_cases hlt : j < 20
    · obtain ⟨⟨eo, ex, ey, em⟩, ee⟩ : ∃ e, opAt j = e := ⟨_, rfl⟩
      have hix : (Instr.index 56 (.agg K) (.int .i64 (j : Int))).run Tryd.prog wr = .ok (.agg #[.int .i64 eo, .int .i64 ex, .int .i64 ey, .int .i64 em]) wr := by
        have := HIX.out j hlt wr
        rw [ee] at this
        exact this
      have HHIT : Hid (Tq.hit n.op a b (opAt j) = (decide (eo = n.op) && ((decide (ex = 0) || decide (a = ex)) && (decide (ey = 0) || decide (b = ey))))) := by rw [ee]; exact hit_eq _ _ _ _
      have HMADE : Hid ((opAt j).2.2.2 = em ∧ em ≠ 0) := by rw [ee]; exact ⟨rfl, by have := opAt_made hlt; rw [ee] at this; exact this⟩
      obtain ⟨W2, eW2⟩ : ∃ W2, W2 = wr.alloc (.cells #[.int .i64 eo, .int .i64 ex, .int .i64 ey, .int .i64 em] 55) := ⟨_, rfl⟩
      have hb2 : Below wr.heap.size wr W2 := by rw [eW2]; exact below_new _ _
      have hl2 : Lies W2 wr.heap.size 55 [.int .i64 eo, .int .i64 ex, .int .i64 ey, .int .i64 em] := by rw [eW2]; exact Lies.new_ rfl
      have hbW := below_onZ hb hb2
      have hX := takes_any ex n.a ts A' m' c' W2 (HK.out.on hbW) HM.out HT.out
      have hY := takes_any ey n.b ts A' m' c' W2 (HK.out.on hbW) HM.out HT.out
      rw [HA.out] at hX
      rw [HBB.out] at hY
      obtain ⟨y0, y1, y2, y3⟩ := hl2.fourK
      obtain ⟨z0, z1, z2, z3, z4⟩ := (HL1.out.below hbW HL1.out.lt).fiveK
      rw [eW2] at hX hY y0 y1 y2 y3 z0 z1 z2 z3 z4
      have HBW := Lib.hid hbW
      have HSTEP : Hid (Tq.hit n.op a b (opAt j) = false → ∃ j' : Nat, Value.int .i64 ((j + 1 : Nat) : Int) = .int .i64 j' ∧ j' ≤ 20 ∧ Hid (NoHit n.op a b j') ∧ Below W1.heap.size W1 W2) := fun h => ⟨j + 1, rfl, hlt, Lib.hid (HNO.out.succ hlt h), hbW⟩
      have HDONE : Hid (Tq.hit n.op a b (opAt j) = true → Below w.heap.size w W2 ∧ Ending.returned (typeV (em, 0)) = Ending.returned (typeV P)) := fun h => ⟨below_onZ HB1.out hbW, by rw [HPT.out, HNO.out.hit hlt h, HMADE.out.1, if_neg HMADE.out.2]⟩
      obtain ⟨rx, erx⟩ : ∃ r, (decide (ex = 0) || decide (a = ex)) = r := ⟨_, rfl⟩
      obtain ⟨ry, ery⟩ : ∃ r, (decide (ey = 0) || decide (b = ey)) = r := ⟨_, rfl⟩
      rw [erx] at hX HHIT
      rw [ery] at hY HHIT
      have HEW := Lib.hid eW2
      clear erx ery hb hb2 hl2 hbW eW2 HNO ee
      rcases Decidable.em (eo = n.op) with ho | ho
      · have d1 : decide (eo = n.op) = true := decide_eq_true ho
        have d2 : (eo == n.op) = true := by rw [ho]; simp
        rw [d1, Bool.true_and] at HHIT
        have HO := Lib.hid ho
        clear ho
        cases rx with
        | true =>
          cases ry with
          | true =>
            have HD := Lib.hid (HDONE.out HHIT.out)
            clear HHIT HDONE HSTEP
            go_wp2_with fail
            refine hX.mono ?_
            rintro e w3 ⟨rfl, rfl⟩
            go_wp2_with fail
            refine hY.mono ?_
            rintro e w3 ⟨rfl, rfl⟩
            clear hX hY
            go_wp2
            go_ret2
            rw [← HEW.out]
            exact HD.out
          | false =>
            have HS := Lib.hid (HSTEP.out HHIT.out)
            clear HHIT HDONE HSTEP
            go_wp2_with fail
            refine hX.mono ?_
            rintro e w3 ⟨rfl, rfl⟩
            go_wp2_with fail
            refine hY.mono ?_
            rintro e w3 ⟨rfl, rfl⟩
            clear hX hY
            go_wp2
            rw [← HEW.out]
            go_roundw
            case rel => exact HS.out
            case measure => simp [intOf]; omega
        | false =>
          have HS := Lib.hid (HSTEP.out HHIT.out)
          clear HHIT HDONE HSTEP
          go_wp2_with fail
          refine hX.mono ?_
          rintro e w3 ⟨rfl, rfl⟩
          clear hX hY
          go_wp2
          rw [← HEW.out]
          go_roundw
          case rel => exact HS.out
          case measure => simp [intOf]; omega
      · have d1 : decide (eo = n.op) = false := decide_eq_false ho
        have d2 : (eo == n.op) = false := beq_false_of_ne ho
        rw [d1, Bool.false_and] at HHIT
        have HS := Lib.hid (HSTEP.out HHIT.out)
        clear HHIT HDONE HSTEP ho hX hY
        go_wp2
        rw [← HEW.out]
        go_roundw
        case rel => exact HS.out
        case measure => simp [intOf]; omega
    · obtain rfl : j = 20 := by omega
      have HQ : Hid (Below w.heap.size w wr ∧ Ending.returned (typeV (0, 121)) = Ending.returned (typeV P)) := ⟨below_onZ HB1.out hb, by rw [HPT.out, HNO.out.all, if_pos rfl]⟩
      clear hb hlt HNO
      go_wp2
      go_ret2
      exact HQ.out
end Go.Proofs.YtgoecghakiihpaaDoor
