/-
  G11: ZWa ZWq, side by side.
-/
import Derived.Test.YthhlmalpelgpeaaGreatDoorG02
import Derived.Lib.AppendStr
import Derived.Test.YthhlmalpelgpeaaGreatDoorG09

/-
  The writer of rules in memory; its add.
-/
namespace Go.Proofs.YthhlmalpelgpeaaGreatDoor
open Go.RowKit

/-- Something more behind what was written; nothing, if it is too much. -/
def addZ (st : Option (List Nat)) (X : List Nat) : Option (List Nat) :=
  match st with
  | none => none
  | some T => if 4096 < T.length + X.length then none else some (T ++ X)
theorem addZ_add (st : Option (List Nat)) (X Y : List Nat) : addZ (addZ st X) Y = addZ st (X ++ Y) := by
  cases st with
  | none => rfl
  | some T =>
    simp only [addZ]
    by_cases h : 4096 < T.length + X.length
    · rw [if_pos h, if_pos (by rw [List.length_append]; omega)]
    · rw [if_neg h]
      simp only
      rw [List.length_append, List.length_append, List.append_assoc]
      by_cases h2 : 4096 < T.length + X.length + Y.length
      · rw [if_pos h2, if_pos (by omega)]
      · rw [if_neg h2, if_neg (by omega)]
theorem addZ_nil (st : Option (List Nat)) (h : ∀ T, st = some T → T.length ≤ 4096) : addZ st [] = st := by
  cases st with
  | none => rfl
  | some T =>
    have := h T rfl
    simp only [addZ, List.append_nil, List.length_nil]
    rw [if_neg (by omega)]
/-- A writer in memory: what it has written, or that it was too much. -/
def Wz (P : Nat) (st : Option (List Nat)) (w : World) : Prop :=
  ∃ tv T, Lies w P 39 [tv, .bool st.isNone] ∧ w.ownsRow (P + 1) 5 1 tv T.length (u8s T) ∧ (∀ x ∈ T, x < 256) ∧ T.length ≤ 4096 ∧ ∀ T', st = some T' → T' = T
/-- What a step of the writer may change: its own block, what lies above it, and of that no block that holds other things than bytes. -/
structure Sy (P : Nat) (w w' : World) : Prop where
  below : Below P w w'
  size : w.heap.size ≤ w'.heap.size
  lies : ∀ k t cs, t ≠ 5 → k ≠ P → Lies w k t cs → Lies w' k t cs
section
variable {P : Nat} {w w' w1 w2 : World} {st : Option (List Nat)}
theorem Wz.lt (h : Wz P st w) : P < w.heap.size := by
  obtain ⟨_, _, h, _⟩ := h
  exact h.lt
theorem Wz.keep (h : Wz P st w) (hb : Below w.heap.size w w') : Wz P st w' := by
  obtain ⟨tv, T, h1, h2, h3⟩ := h
  exact ⟨tv, T, h1.below hb h1.lt, own_below h2 hb, h3⟩
theorem Wz.small (h : Wz P st w) : ∀ T, st = some T → T.length ≤ 4096 := by
  obtain ⟨tv, T, h1, h2, h3, h4, h5⟩ := h
  intro T' e
  rw [h5 T' e]; exact h4
theorem Wz.flag (h : Wz P st w) : w.cell? ⟨P, 1, none⟩ = some (.bool st.isNone) := by
  obtain ⟨tv, T, h1, _⟩ := h
  exact h1.cell 1
theorem Sy.refl (P : Nat) (w : World) : Sy P w w := ⟨Below.refl _ _, Nat.le_refl _, fun _ _ _ _ _ h => h⟩
theorem Sy.trans (h1 : Sy P w w1) (h2 : Sy P w1 w2) : Sy P w w2 :=
  ⟨h1.below.trans h2.below, Nat.le_trans h1.size h2.size, fun k t cs a b h => h2.lies k t cs a b (h1.lies k t cs a b h)⟩
theorem Sy.of_below (h : Below w.heap.size w w') (hw : P ≤ w.heap.size) : Sy P w w' :=
  ⟨h.mono hw, h.size, fun _ _ _ _ _ hl => hl.below h hl.lt⟩
theorem Sy.set (h : Sy P w w') (i : Nat) (v : Value) : Sy P w (w'.setCell ⟨P, i, none⟩ v) :=
  h.trans ⟨(Below.refl P w').setCell (p := ⟨P, i, none⟩) (Nat.le_refl P) v, by simp [World.setCell], fun k t cs _ hk hl => (Below.heap_setCell _ _ _ _ hk).trans hl⟩
theorem Sy.row {base : Nat} {v : Value} {n : Nat} {xs : List Value} (ho : w.ownsRow base 5 1 v n xs) (hg : w.grownBy w' v.ownBlock) (hb : P ≤ base) (hw : P ≤ w.heap.size) : Sy P w w' :=
  ⟨(Below.refl _ _).grown hg hw (fun k e => Nat.le_trans hb (ho.lt k e).1), hg.size, fun k t cs ht _ hl => hl.grown hg (fun e => by
    rcases ho.2 with ⟨rfl, _⟩ | ⟨g, cap, cur, rfl, _, hg, _⟩
    · cases e
    · have hk : k = g := by simpa [Value.ownBlock] using e
      subst hk
      have := hl.symm.trans hg
      injection this with this
      injection this with _ h2 _
      exact ht h2)⟩
theorem own_faz {base : Nat} {e : TypeId} {size n : Nat} {v : Value} {xs : List Value} (h : w.ownsRow base e size v n xs) (hk : ∀ k, v.ownBlock = some k → w'.heap[k]? = w.heap[k]?) : w'.ownsRow base e size v n xs := by
  refine ⟨h.1, ?_⟩
  rcases h.2 with hn | ⟨g, cap, cur, rfl, e2, e3, e4⟩
  · exact .inl hn
  · exact .inr ⟨g, cap, cur, rfl, e2, (hk g rfl).trans e3, e4⟩
theorem zstr_cells (s : ByteArray) : Lib.strCells s = u8s (numsOf s) := by
  show s.data.toList.map (fun b : UInt8 => Value.int .u8 (b.toNat : Int)) = u8s (numsOf s)
  unfold u8s numsOf
  rw [List.map_map]
  rfl
/-- How a step of the writer ends. -/
def WzEnd (P : Nat) (w : World) (st : Option (List Nat)) (e : Ending) (w' : World) : Prop := e = .returned (.tuple #[]) ∧ Sy P w w' ∧ Wz P st w'
set_option maxHeartbeats 2000000 in
set_option maxRecDepth 100000 in
theorem wadd_any (s : ByteArray) (hs : s.size ≤ 140737488351232) (h : Wz P st w) :
    Calls Tryz.prog 26 #[.pointer (some ⟨P, 0, none⟩), .string s] w (WzEnd P w (addZ st (numsOf s))) := by
  have HW := Lib.hid h
  obtain ⟨tv, T, h1, h2, h3, h4, h5⟩ := h
  obtain ⟨A0, cap, rfl⟩ := own_slice h2
  have c0 := h1.cell 0
  have c1 := h1.cell 1
  have f0 := h1.free 0
  have f1 := h1.free 1
  have hOver : Hid (Sy P w (w.setCell ⟨P, 1, none⟩ (.bool true)) ∧ Wz P none (w.setCell ⟨P, 1, none⟩ (.bool true))) := by
    refine ⟨(Sy.refl _ _).set _ _, .slice A0 T.length cap, T, ?_, own_faz h2 (fun k hk => Below.heap_setCell _ _ _ _ (by have := (h2.lt k hk).1; show k ≠ P; omega)), h3, h4, fun T' e => by cases e⟩
    have := h1.put 1 (.bool true)
    exact this
  cases st with
  | none =>
    have c1 : w.cell? ⟨P, 1, none⟩ = some (.bool true) := c1
    clear h1 h2 h3 h4 h5
    go_enter Tryz.func26, Tryz.ntmps26
    go_wp2
    go_end0
    exact ⟨rfl, hOver.out.1, hOver.out.2⟩
  | some T0 =>
    obtain rfl := h5 T0 rfl
    have c1 : w.cell? ⟨P, 1, none⟩ = some (.bool false) := c1
    by_cases hl : T0.length + s.size ≤ 4096
    rotate_left
    · have hd : decide ((4096 : Int) < (T0.length : Int) + (s.size : Int)) = true := decide_eq_true (by omega)
      have HA : Hid (addZ (some T0) (numsOf s) = none) := by unfold Hid addZ; rw [numsOf_length]; simp only; rw [if_pos (by omega)]
      have hT : (T0.length : Int) ≤ 4096 := by omega
      have hS : (s.size : Int) ≤ 140737488351232 := by omega
      clear h1 h2 h3 h5 hl
      go_enter Tryz.func26, Tryz.ntmps26
      go_wp2
      go_end0
      exact ⟨rfl, hOver.out.1, by rw [HA.out]; exact hOver.out.2⟩
    · have hd : decide ((4096 : Int) < (T0.length : Int) + (s.size : Int)) = false := decide_eq_false (by omega)
      have HA : Hid (addZ (some T0) (numsOf s) = some (T0 ++ numsOf s)) := by unfold Hid addZ; rw [numsOf_length]; simp only; rw [if_neg (by omega)]
      clear hOver HW
      go_enter Tryz.func26, Tryz.ntmps26
      go_upto_region 2 with (fail)
      repeat ((fail_if_success (with_reducible show wpList _ _ _ (⟨some 28, _, _, _, _, _⟩ :: _) _ _)); first | go_values | go_skip | go_guarded | go_step | go_upon | go_back | go_simp)
      obtain ⟨i0, hi, hz0, hz1, hz2⟩ := info_parts infoByte
      with_reducible refine Lib.wpList_append_own_string _ rfl (.tmp 26) (.tmp 27) 31 9 rfl (P + 1) 5 i0 Tryz.underlying31 Tryz.underlying9 hi hz0 hz1 hz2 (.slice A0 T0.length cap) T0.length (u8s T0) ?r1 h2 s ?r2 ?r3 ?r4 ?r5 ?r6
      case r1 => rfl
      case r2 => rfl
      case r3 => unfold maxLen; omega
      case r4 => omega
      case r5 => exact h1.lt
      case r6 =>
        intro v' w' hown hgr hnil
        clear hnil
        obtain ⟨A1, cap1, rfl⟩ := own_slice hown
        have hlt := h2.lt
        have hl2 : Lies w' P 39 [.slice A0 T0.length cap, .bool false] := h1.grown hgr (fun e => by have := (hlt P e.symm).1; omega)
        have c2 := hl2.cell 0
        have f2 := hl2.free 0
        have hb : Sy P w w' := Sy.row h2 hgr (Nat.le_succ _) (Nat.le_of_lt h1.lt)
        have HF : Hid (WzEnd P w (addZ (some T0) (numsOf s)) (.returned (.tuple #[])) (w'.setCell ⟨P, 0, none⟩ (.slice A1 (T0.length + s.size) cap1))) := by
          refine ⟨rfl, hb.set _ _, ?_⟩
          rw [HA.out]
          refine ⟨.slice A1 (T0.length + s.size) cap1, T0 ++ numsOf s, ?_, ?_, ?_, by rw [List.length_append, numsOf_length]; exact hl, fun T' e => by injection e with e; exact e.symm⟩
          · have := hl2.put 0 (.slice A1 (T0.length + s.size) cap1); exact this
          · rw [u8s_append, ← zstr_cells, List.length_append, numsOf_length]
            exact own_faz hown (fun k hk => Below.heap_setCell _ _ _ _ (by have := (hown.lt k hk).1; show k ≠ P; omega))
          · intro x hx
            rcases List.mem_append.1 hx with hx | hx
            · exact h3 x hx
            · exact numsOf_lt s x hx
        clear hown hgr hl2 hb c0 c1 f0 f1 h2 hs hl hd h3 h4 h1 hlt hi hz0 hz1 hz2 i0 h5
        go_frame
        go_wp2
        go_end0
        exact HF.out
end
end Go.Proofs.YthhlmalpelgpeaaGreatDoor

/-
  The writer of rules: quote.
-/
namespace Go.Proofs.YthhlmalpelgpeaaGreatDoor
open Go.RowKit

def qOne (c : Nat) : List Nat := if c = 39 ∨ c = 92 then [92, c] else [c]
theorem quoted_is (t : List Nat) : Zq.quoted t = 39 :: (t.flatMap qOne ++ [39]) := rfl
theorem qOne_len (t : List Nat) : (t.flatMap qOne).length ≤ 2 * t.length := by
  induction t with
  | nil => simp
  | cons c r ih =>
    rw [List.flatMap_cons, List.length_append, List.length_cons]
    have : (qOne c).length ≤ 2 := by unfold qOne; split <;> simp
    omega
theorem qOne_lt (t : List Nat) (h : ∀ x ∈ t, x < 256) : ∀ x ∈ t.flatMap qOne, x < 256 := by
  intro x hx
  rw [List.mem_flatMap] at hx
  obtain ⟨c, hc, hx⟩ := hx
  have := h c hc
  unfold qOne at hx
  split at hx
  · simp at hx; omega
  · simp at hx; omega
/-- A row that was just laid is the call's own. -/
theorem own_lit (w : World) (xs : List Nat) (hx : xs.length ≤ 1000) : (w.alloc (.cells (u8s xs).toArray 5)).ownsRow w.heap.size 5 1 (.slice (some ⟨w.heap.size, 0, none⟩) xs.length xs.length) xs.length (u8s xs) := by
  refine ⟨by rw [u8s_length]; omega, .inr ⟨w.heap.size, xs.length, (u8s xs).toArray, rfl, Nat.le_refl _, heap_alloc_new w _, Nat.le_refl _, by unfold maxLen; omega, by simp [u8s_length], ?_⟩⟩
  simp only [Nat.mul_one]
  rw [List.take_of_length_le (by rw [u8s_length]; exact Nat.le_refl _)]
def QuRel (S : List Nat) (w : World) (tv i' : Value) (wr : World) : Prop :=
  ∃ k : Nat, i' = .int .i64 k ∧ k ≤ S.length ∧ Below w.heap.size w wr ∧ wr.ownsRow w.heap.size 5 1 tv (39 :: (S.take k).flatMap qOne).length (u8s (39 :: (S.take k).flatMap qOne))
theorem take_step (S : List Nat) (k : Nat) (h : k < S.length) (c : Nat) (hc : S.getD k 0 = c) : (S.take (k + 1)).flatMap qOne = (S.take k).flatMap qOne ++ qOne c := by
  rw [List.take_add_one, List.getElem?_eq_getElem h]
  rw [List.getD_eq_getElem?_getD, List.getElem?_eq_getElem h] at hc
  simp at hc
  rw [hc]
  simp
theorem own_eq {w : World} {base : Nat} {e : TypeId} {size n n' : Nat} {v : Value} {xs xs' : List Value} (h : w.ownsRow base e size v n xs) (hn : n = n') (hx : xs = xs') : w.ownsRow base e size v n' xs' := by subst hn hx; exact h
theorem below_app {w wr w2 : World} {o : Obj} {tv : Value} {n : Nat} {xs : List Value} (hb : Below w.heap.size w wr) (ho : wr.ownsRow w.heap.size 5 1 tv n xs) (hg : (wr.alloc o).grownBy w2 tv.ownBlock) : Below w.heap.size w w2 :=
  (hb.trans ((box_below wr o).mono hb.size)).grown hg (Nat.le_trans hb.size (box_below wr o).size) (fun k e => (ho.lt k e).1)
set_option maxHeartbeats 2000000 in
set_option maxRecDepth 100000 in
theorem quote_any (s : ByteArray) (w : World) (hs : s.size ≤ 35184372088832) :
    Calls Tryz.prog 112 #[.string s] w fun e w' => e = .returned (.string (strOf (Zq.quoted (numsOf s)))) ∧ Below w.heap.size w w' := by
  have Hlen := Lib.hid (numsOf_length s)
  have h0 : Hid (QuRel (numsOf s) w (.slice (some ⟨w.heap.size, 0, none⟩) 1 1) (.int .i64 0) (w.alloc (.cells #[.int .u8 39] 5))) :=
    ⟨0, rfl, Nat.zero_le _, box_below _ _, own_lit w [39] (by decide)⟩
  have hesc := fun i w => escaped_any (s.extract i s.size) w
  go_enter Tryz.func112, Tryz.ntmps112
  go_wp2_with fail
  go_loopw [3, 8] (fun tv i' wr => QuRel (numsOf s) w tv i' wr) (fun _ i' _ => s.size - (intOf i').toNat)
  case atStart => exact h0.out
  case round =>
    obtain ⟨k, rfl, hk, hb, hown⟩ := hrel
    rw [Hlen.out] at hk
    have hql := qOne_len ((numsOf s).take k)
    rw [List.length_take, Hlen.out] at hql
    obtain ⟨acc, eacc⟩ : ∃ acc, 39 :: ((numsOf s).take k).flatMap qOne = acc := ⟨_, rfl⟩
    have hal : acc.length ≤ 2 * k + 1 := by rw [← eacc, List.length_cons]; omega
    have hacc : ∀ x ∈ acc, x < 256 := by
      rw [← eacc]
      intro x hx
      rcases List.mem_cons.1 hx with rfl | hx
      · decide
      · exact qOne_lt _ (take_lt (numsOf_lt s) k) x hx
    rw [eacc] at hown
    have HACC := Lib.hid eacc
    clear h0 eacc hql
    by_cases hlt : k < s.size
    · have hE := hesc k wr
      have hX := nums_at s k hlt
      have h256 := s[k].toNat_lt
      have hk1 : (k : Int) ≤ (s.size : Int) := by omega
      have hk0 : (0 : Int) ≤ (k : Int) := by omega
      have hbelow := hb
      have hstep := take_step (numsOf s) k (by rw [Hlen.out]; exact hlt) _ hX
      have HST : Hid (39 :: ((numsOf s).take (k + 1)).flatMap qOne = acc ++ qOne s[k].toNat) := by unfold Hid; rw [hstep, ← HACC.out]; rfl
      obtain ⟨eb, heb⟩ : ∃ eb, escB (numsOf (s.extract k s.size)) = eb := ⟨_, rfl⟩
      rw [heb] at hE
      rw [nums_from, Zq.drop_cons (by rw [Hlen.out]; exact hlt), hX] at heb
      simp only [escB, List.head?_cons] at heb
      clear hstep hX
      cases eb with
      | true =>
        have HQ : Hid (qOne s[k].toNat = [92, s[k].toNat]) := by
          simp only [Bool.or_eq_true, beq_iff_eq, Option.some.injEq] at heb
          unfold Hid qOne
          rw [if_pos heb]
        clear heb
        go_wp2_with fail
        refine hE.mono ?_
        rintro e w2 ⟨rfl, rfl⟩
        clear hE
        go_upto_region 6 with (fail)
        repeat ((fail_if_success (with_reducible show wpList _ _ _ (⟨some 17, _, _, _, _, _⟩ :: _) _ _)); first | go_values | go_skip | go_guarded | go_step | go_upon | go_back | go_simp)
        have hown1 := own_below hown (box_below wr (.cells #[.int .u8 (92 : Int)] 5))
        with_reducible refine append_row rfl (.tmp 15) (.tmp 16) 31 5 (.int .u8 0) 1 1 rfl Tryz.underlying31 infoByte rfl (by decide) w.heap.size _ acc.length _ ⟨wr.heap.size, 0, none⟩ 1 1 (u8s [92]) hown1 ?c1 ?c2 ?c3 ?c4 ?c5 ?c6 ?c7 ?c8 ?_
        case c1 => rfl
        case c2 => exact fun j u hj => new_cells wr _ _ j u hj
        case c3 => exact u8s_one _
        case c4 => rfl
        case c5 => rfl
        case c6 => omega
        case c7 => omega
        case c8 => have := hbelow.size; simp; omega
        intro av aw aown agr
        clear hown1
        go_frame
        have hbelow := below_app hbelow hown agr
        have aown := own_eq aown (n' := (acc ++ [92]).length) (xs' := u8s (acc ++ [92])) (by simp) (by rw [u8s_append])
        have hal2 : (acc ++ [92]).length ≤ 2 * k + 2 := by rw [List.length_append]; simp; omega
        clear agr hown hb
        go_upto_region 7 with (fail)
        repeat ((fail_if_success (with_reducible show wpList _ _ _ (⟨some 23, _, _, _, _, _⟩ :: _) _ _)); first | go_values | go_skip | go_guarded | go_step | go_upon | go_back | go_simp)
        have hown1 := own_below aown (box_below aw (.cells #[.int .u8 (s[k].toNat : Int)] 5))
        with_reducible refine append_row rfl (.tmp 18) (.tmp 22) 31 5 (.int .u8 0) 1 1 rfl Tryz.underlying31 infoByte rfl (by decide) w.heap.size _ (acc ++ [92]).length _ ⟨aw.heap.size, 0, none⟩ 1 1 (u8s [s[k].toNat]) hown1 ?c1 ?c2 ?c3 ?c4 ?c5 ?c6 ?c7 ?c8 ?_
        case c1 => rfl
        case c2 => exact fun j u hj => new_cells aw _ _ j u hj
        case c3 => exact u8s_one _
        case c4 => rfl
        case c5 => rfl
        case c6 => omega
        case c7 => omega
        case c8 => have := hbelow.size; simp; omega
        intro bv bw bown bgr
        clear hown1
        go_frame
        have HB := Lib.hid (below_app hbelow aown bgr)
        have HO : Hid (bw.ownsRow w.heap.size 5 1 bv (39 :: ((numsOf s).take (k + 1)).flatMap qOne).length (u8s (39 :: ((numsOf s).take (k + 1)).flatMap qOne))) := by
          unfold Hid
          rw [HST.out, HQ.out]
          exact own_eq bown (by simp) (by rw [← u8s_append]; congr 1; simp)
        clear aown bgr bown hbelow
        go_wp2
        go_roundw
        case rel => exact ⟨k + 1, by go_num, by rw [Hlen.out]; omega, HB.out, HO.out⟩
        case measure => simp [intOf]; omega
      | false =>
        have HQ : Hid (qOne s[k].toNat = [s[k].toNat]) := by
          simp only [Bool.or_eq_false_iff, beq_eq_false_iff_ne, ne_eq, Option.some.injEq] at heb
          unfold Hid qOne
          rw [if_neg (fun h => h.elim heb.1 heb.2)]
        clear heb
        go_wp2_with fail
        refine hE.mono ?_
        rintro e w2 ⟨rfl, rfl⟩
        clear hE
        go_upto_region 7 with (fail)
        repeat ((fail_if_success (with_reducible show wpList _ _ _ (⟨some 23, _, _, _, _, _⟩ :: _) _ _)); first | go_values | go_skip | go_guarded | go_step | go_upon | go_back | go_simp)
        have hown1 := own_below hown (box_below wr (.cells #[.int .u8 (s[k].toNat : Int)] 5))
        with_reducible refine append_row rfl (.tmp 18) (.tmp 22) 31 5 (.int .u8 0) 1 1 rfl Tryz.underlying31 infoByte rfl (by decide) w.heap.size _ acc.length _ ⟨wr.heap.size, 0, none⟩ 1 1 (u8s [s[k].toNat]) hown1 ?c1 ?c2 ?c3 ?c4 ?c5 ?c6 ?c7 ?c8 ?_
        case c1 => rfl
        case c2 => exact fun j u hj => new_cells wr _ _ j u hj
        case c3 => exact u8s_one _
        case c4 => rfl
        case c5 => rfl
        case c6 => omega
        case c7 => omega
        case c8 => have := hbelow.size; simp; omega
        intro bv bw bown bgr
        clear hown1
        go_frame
        have HB := Lib.hid (below_app hbelow hown bgr)
        have HO : Hid (bw.ownsRow w.heap.size 5 1 bv (39 :: ((numsOf s).take (k + 1)).flatMap qOne).length (u8s (39 :: ((numsOf s).take (k + 1)).flatMap qOne))) := by
          unfold Hid
          rw [HST.out, HQ.out]
          exact own_eq bown (by simp) (by rw [← u8s_append])
        clear hown bgr bown hbelow hb
        go_wp2
        go_roundw
        case rel => exact ⟨k + 1, by go_num, by rw [Hlen.out]; omega, HB.out, HO.out⟩
        case measure => simp [intOf]; omega
    · obtain rfl : k = s.size := by omega
      have hd : decide ((s.size : Int) < (s.size : Int)) = false := by simp
      have hbelow := hb
      have HQ : Hid (acc ++ [39] = Zq.quoted (numsOf s)) := by
        unfold Hid
        rw [← HACC.out, List.take_of_length_le (by rw [Hlen.out]; exact Nat.le_refl _), quoted_is]
        rfl
      have HAL : Hid (∀ x ∈ acc ++ [39], x < 256) := fun x hx => by
        rcases List.mem_append.1 hx with hx | hx
        · exact hacc x hx
        · simp at hx; omega
      go_upto_region 9 with (fail)
      repeat ((fail_if_success (with_reducible show wpList _ _ _ (⟨some 27, _, _, _, _, _⟩ :: _) _ _)); first | go_values | go_skip | go_guarded | go_step | go_upon | go_back | go_simp)
      have hown1 := own_below hown (box_below wr (.cells #[.int .u8 (39 : Int)] 5))
      with_reducible refine append_row rfl (.tmp 25) (.tmp 26) 31 5 (.int .u8 0) 1 1 rfl Tryz.underlying31 infoByte rfl (by decide) w.heap.size _ acc.length _ ⟨wr.heap.size, 0, none⟩ 1 1 (u8s [39]) hown1 ?c1 ?c2 ?c3 ?c4 ?c5 ?c6 ?c7 ?c8 ?_
      case c1 => rfl
      case c2 => exact fun j u hj => new_cells wr _ _ j u hj
      case c3 => exact u8s_one _
      case c4 => rfl
      case c5 => rfl
      case c6 => omega
      case c7 => omega
      case c8 => have := hbelow.size; simp; omega
      intro bv bw bown bgr
      clear hown1
      go_frame
      have HB := Lib.hid (below_app hbelow hown bgr)
      obtain ⟨A1, c1, rfl⟩ := own_slice bown
      obtain ⟨_, hA⟩ := own_arg (q := acc ++ [39]) (own_eq bown rfl (by rw [u8s_append])) HAL.out
      have hcv : (convert 31 9 (.slice A1 (acc.length + 1) c1)).run Tryz.prog bw = .ok (.string (strOf (Zq.quoted (numsOf s)))) bw := by
        have := conv_str (q := acc ++ [39]) hA
        rw [show (acc ++ [39] : List Nat).length = acc.length + 1 from by simp, HQ.out] at this
        exact this
      clear hown bgr bown hbelow hb hA
      go_wp2
      go_ret
      exact ⟨rfl, HB.out⟩
end Go.Proofs.YthhlmalpelgpeaaGreatDoor
