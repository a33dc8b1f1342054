/-
  The contract of Parse.
-/
import Derived.Test.YtejmkijnngkoaaaDoorPPart
namespace Go.Proofs.YtejmkijnngkoaaaDoor
open Go.RowKit

/-- What Parse answers. -/
def ParseEnd (S : List Nat) (w : World) (e : Ending) (w' : World) : Prop :=
  ∃ (A : Option Addr) (c : Nat), e = .returned (.tuple #[.slice A ((Pq.parse S).getD []).length c, .bool (Pq.parse S).isSome]) ∧ Row w' A (pcells ((Pq.parse S).getD [])) ∧ ((Pq.parse S).getD []).length ≤ c ∧ c ≤ 4096 ∧ Below w.heap.size w w'
/-- The slice lies in memory that is new since w. -/
def Fresh (w : World) (A : Option Addr) : Prop := ∀ b off, A = some ⟨b, off, none⟩ → w.heap.size ≤ b
theorem Fresh.nil (w : World) : Fresh w none := fun _ _ h => by cases h
theorem Fresh.at_ {w : World} {g : Nat} (h : w.heap.size ≤ g) (o : Nat) : Fresh w (some ⟨g, o, none⟩) := fun _ _ e => by cases e; exact h
theorem Fresh.later {w w' : World} {A : Option Addr} (h : Fresh w' A) (hb : w.heap.size ≤ w'.heap.size) : Fresh w A := fun b off e => Nat.le_trans hb (h b off e)
/-- The same, and that what is told lies in new memory. -/
def ParseEndN (S : List Nat) (w : World) (e : Ending) (w' : World) : Prop :=
  ∃ (A : Option Addr) (c : Nat), e = .returned (.tuple #[.slice A ((Pq.parse S).getD []).length c, .bool (Pq.parse S).isSome]) ∧ Row w' A (pcells ((Pq.parse S).getD [])) ∧ ((Pq.parse S).getD []).length ≤ c ∧ c ≤ 4096 ∧ Below w.heap.size w w' ∧ Fresh w A
theorem ParseEndN.no {S : List Nat} {w w' : World} (h : Pq.parse S = none) (hb : Below w.heap.size w w') : ParseEndN S w (.returned (.tuple #[.slice none 0 0, .bool false])) w' :=
  ⟨none, 0, by rw [h]; rfl, by rw [h]; exact Row.nil _ _, by rw [h]; exact Nat.le_refl _, by decide, hb, Fresh.nil _⟩
theorem ParseEndN.empty {w w' : World} (hb : Below w.heap.size w w') : ParseEndN [] w (.returned (.tuple #[.slice none 0 0, .bool true])) w' :=
  ⟨none, 0, rfl, Row.nil _ _, Nat.le_refl _, by decide, hb, Fresh.nil _⟩
theorem ParseEndN.yes {S : List Nat} {w w' : World} {A : Option Addr} {n c : Nat} {Y : List (List Nat × List Nat)} (h : Pq.parse S = some Y) (hn : Y.length = n) (hr : Row w' A (pcells Y)) (hc : n ≤ c) (hcm : c ≤ 4096) (hb : Below w.heap.size w w') (hA : Fresh w A) : ParseEndN S w (.returned (.tuple #[.slice A n c, .bool true])) w' :=
  ⟨A, c, by rw [h, ← hn]; rfl, by rw [h]; exact hr, by rw [h]; show Y.length ≤ c; omega, hcm, hb, hA⟩

theorem made_pairs (n : Nat) : madeCells (Value.cells (.agg #[.string ByteArray.empty, .string ByteArray.empty])) (n * 2) = (pcells (List.replicate n ([], []))).toArray := by
  apply Array.ext'
  apply List.ext_getElem
  · simp [madeCells, pcells_length, Value.cells]
  · intro i h1 h2
    have hi : i < n * 2 := by simpa [madeCells, Value.cells] using h1
    obtain ⟨p0, p1⟩ := pcells_at (List.replicate n ([], [])) (i / 2) (by rw [List.length_replicate]; omega)
    have hg : (List.replicate n (([], []) : List Nat × List Nat)).getD (i / 2) ([], []) = ([], []) := by
      rw [List.getD_eq_getElem?_getD, List.getElem?_replicate]; split <;> rfl
    rw [hg] at p0 p1
    have hl : (pcells (List.replicate n ([], [])))[i]? = some (.string ByteArray.empty) := by
      rcases Nat.mod_two_eq_zero_or_one i with h | h
      · rw [show i / 2 * 2 = i from by omega] at p0; exact p0
      · rw [show i / 2 * 2 + 1 = i from by omega] at p1; exact p1
    have h2' : (pcells (List.replicate n ([], [])))[i]'(by simpa using h2) = .string ByteArray.empty := by
      have := List.getElem?_eq_getElem (l := pcells (List.replicate n ([], []))) (i := i) (by simpa using h2)
      rw [hl] at this
      exact (Option.some.inj this).symm
    have h1' : (madeCells (Value.cells (.agg #[.string ByteArray.empty, .string ByteArray.empty])) (n * 2)).toList[i] = .string ByteArray.empty := by
      simp only [madeCells, Value.cells]
      rcases Nat.mod_two_eq_zero_or_one i with h | h <;> simp [h]
    rw [h1']
    exact h2'.symm
theorem make_pairs_at {ops : Array Oper} {rest : List Oper} {o : Oper} {a : Act} {Q : Exit → Act → World → Prop} {w : World} (hgd : o.guard = none) (x y : Operand) (ho : o.op = .makeSlice 22 x y) (l : Nat) (hx : a.eval x = .int .i64 l) (hy : a.eval y = .int .i64 l) (hc : l ≤ 1048576)
    (h : ∀ w', Lies w' w.heap.size 34 (pcells (List.replicate l ([], []))) → Below w.heap.size w w' → wpList Tryd.prog ops Q rest (a.put o.dst (.slice (some ⟨w.heap.size, 0, none⟩) l l)) w') : wpList Tryd.prog ops Q (o :: rest) a w := by
  refine wpList_plain hgd fun K hK => ?_
  obtain ⟨i0, hi, hz0, hz1, hz2⟩ := info_parts infoPair
  have hr := run_make (P := Tryd.prog) w 22 34 i0 (.agg #[.string ByteArray.empty, .string ByteArray.empty]) Tryd.underlying22 hi hz0 .i64 .i64 l l (by omega) (by omega) (by rw [hz2]; omega) (by omega)
  simp only [Int.toNat_natCast, hz1, made_pairs] at hr
  unfold Oper.wp
  rw [execOp, ho]
  simp [hx, hy, hr, Result.andThen]
  exact hK _ _ (h _ (Lies.made w _ _) ((Below.refl _ _).alloc (Nat.le_refl _) _))

theorem pcells_put (Y : List (List Nat × List Nat)) (k m : Nat) (hk : Y.length = k) (p : List Nat × List Nat) :
    ((pcells (Y ++ List.replicate (m + 1) ([], []))).set (k * 2) (.string (strOf p.1))).set (k * 2 + 1) (.string (strOf p.2)) = pcells ((Y ++ [p]) ++ List.replicate m ([], [])) := by
  have hl : (pcells Y).length = k * 2 := by rw [pcells_length, hk]
  rw [pcells_append, List.replicate_succ, pcells_cons, List.set_append_right _ _ (by omega), hl, Nat.sub_self, List.set_cons_zero, List.set_append_right _ _ (by omega), hl, show k * 2 + 1 - k * 2 = 1 from by omega, List.set_cons_succ, List.set_cons_zero, List.append_assoc, pcells_append]
  rfl

theorem tcells_at (l : List (List Nat)) (k : Nat) (h : k < l.length) : (tcells l)[k]? = some (.string (strOf (l.getD k []))) := by
  rw [tcells, List.getElem?_map, List.getElem?_eq_getElem h, List.getD_eq_getElem?_getD, List.getElem?_eq_getElem h]
  rfl

/-- What holds at each round of Parse's loop. -/
def ParseRel (P : List (List Nat)) (n g gp : Nat) (w : World) (i : Value) (wr : World) : Prop :=
  ∃ (k : Nat) (Y : List (List Nat × List Nat)), i = .int .i64 k ∧ k ≤ n ∧ Pq.pairsOf (P.take k) = some Y ∧ Y.length = k ∧ Lies wr g 34 (pcells (Y ++ List.replicate (n - k) ([], []))) ∧ Lies wr gp 9 (tcells P) ∧ Below w.heap.size w wr

theorem empty_iff (s : ByteArray) : s.toList = [] ↔ numsOf s = [] := by
  rw [ByteArray.toList_eq, numsOf, List.map_eq_nil_iff]

set_option maxHeartbeats 2000000 in
set_option maxRecDepth 100000 in
theorem parseNew_any (s : ByteArray) (w : World) (hs : s.size ≤ 140737488351232) :
    Calls Tryd.prog 22 #[.string s] w fun e w' => ParseEndN (numsOf s) w e w' := by
  have Hlen := Lib.hid (numsOf_length s)
  by_cases hlong : 4096 < s.size
  · have hd : decide ((4096 : Int) < (s.size : Int)) = true := decide_eq_true (by omega)
    go_enter Tryd.func22, Tryd.ntmps22
    go_wp2
    go_ret2
    exact ParseEndN.no (Pq.parse_long (by rw [Hlen.out]; exact hlong)) (Below.refl _ _)
  · have hd : decide ((4096 : Int) < (s.size : Int)) = false := decide_eq_false (by omega)
    by_cases h0 : numsOf s = []
    · have h1 : s.toList = [] := (empty_iff s).2 h0
      have H0 := Lib.hid h0
      clear h0
      go_enter Tryd.func22, Tryd.ntmps22
      go_wp2
      go_ret2
      rw [H0.out]
      exact ParseEndN.empty (Below.refl _ _)
    · have h1 : ¬ s.toList = [] := fun h => h0 ((empty_iff s).1 h)
      have h2 : s.toList.isEmpty = false := by rw [List.isEmpty_eq_false_iff]; exact h1
      have H0 := Lib.hid h0
      clear h0
      go_enter Tryd.func22, Tryd.ntmps22
      go_wp2_with fail
      refine (split_any s w (by omega)).mono ?_
      rintro e w1 ⟨rfl, hL1, hb1⟩
      have hnp := Pq.parts_pos (numsOf s)
      have HM := Lib.hid (show ∀ p ∈ Pq.parts (numsOf s), p.length ≤ s.size ∧ ∀ x ∈ p, x < 256 from fun p hp => ⟨by rw [← Hlen.out]; exact (Pq.parts_mem hp).1, fun x hx => numsOf_lt s x ((Pq.parts_mem hp).2 x hx)⟩)
      have HMany := Lib.hid (fun h : 32 < (Pq.parts (numsOf s)).length => Pq.parse_many h H0.out)
      have HOf := Lib.hid (fun h : ¬ 32 < (Pq.parts (numsOf s)).length => Pq.parse_of (by rw [Hlen.out]; exact hlong) H0.out h)
      obtain ⟨P, eP⟩ : ∃ P, Pq.parts (numsOf s) = P := ⟨_, rfl⟩
      rw [eP] at hL1 hnp HM HMany HOf ⊢
      clear eP
      obtain ⟨n, en⟩ : ∃ n, P.length = n := ⟨_, rfl⟩
      rw [en] at hnp HMany HOf ⊢
      have Hn := Lib.hid en
      clear en h1 h2
      by_cases hmany : 32 < n
      · have hd2 : decide ((32 : Int) < (n : Int)) = true := decide_eq_true (by omega)
        go_wp2
        go_ret2
        exact ParseEndN.no (HMany.out hmany) hb1
      · have hd2 : decide ((32 : Int) < (n : Int)) = false := decide_eq_false (by omega)
        have hbs := hb1.size
        have hg := hL1.lt
        repeat ((fail_if_success (with_reducible show wpList _ _ _ (⟨some 22, _, _, _, _, _⟩ :: _) _ _)); first | go_values | go_skip | go_guarded | go_step | go_upon | go_back | go_simp)
        with_reducible refine make_pairs_at rfl (.tmp 21) (.tmp 21) rfl n ?s1 ?s2 (by omega) ?_
        case s1 => rfl
        case s2 => rfl
        intro w2 hL2 hb2
        have hL12 := hL1.below hb2 hg
        have hb02 := hb1.trans (hb2.mono hbs)
        clear hb2 hL1 hb1
        go_frame
        go_wp2_with fail
        go_loopw [25] (fun i wr => ParseRel P n w1.heap.size w.heap.size w i wr) (fun i _ => n - (intOf i).toNat)
        case atStart => exact ⟨0, [], rfl, Nat.zero_le _, rfl, rfl, by simpa using hL2, hL12, hb02⟩
        case round =>
          obtain ⟨k, Y, rfl, hk, hY, hYk, hL, hLp, hb⟩ := hrel
          have HY := Lib.hid hY
          have HYk := Lib.hid hYk
          clear hL2 hL12 hb02 hY hYk
          by_cases hlt : k < n
          · have hcell : wr.cell? ⟨w.heap.size, k, none⟩ = some (.string (strOf (P.getD k []))) := by rw [hLp.cell]; exact tcells_at P k (by rw [Hn.out]; exact hlt)
            have hmem : P.getD k [] ∈ P := by
              rw [List.getD_eq_getElem?_getD, List.getElem?_eq_getElem (by rw [Hn.out]; exact hlt)]
              exact List.getElem_mem _
            have hpp := parsePart_any (strOf (P.getD k [])) wr (by rw [strOf_size]; have := (HM.out _ hmem).1; omega)
            rw [numsOf_strOf (HM.out _ hmem).2] at hpp
            clear hmem
            have HT := Lib.hid (fun x (h : Pq.pair (P.getD k []) = some x) => Pq.pairsOf_take HY.out (by rw [Hn.out]; exact hlt) h)
            have HB := Lib.hid (fun h : Pq.pair (P.getD k []) = none => Pq.pairsOf_bad (by rw [Hn.out]; exact hlt) h)
            obtain ⟨q, eq⟩ : ∃ q, P.getD k [] = q := ⟨_, rfl⟩
            rw [eq] at hcell hpp HT HB
            clear eq
            go_wp2_with fail
            refine hpp.mono ?_
            rintro e w3 ⟨hb3, hcase⟩
            have hL3 := hL.below hb3 hL.lt
            have hLp3 := hLp.below hb3 hLp.lt
            have hb03 := hb.trans (hb3.mono hb.size)
            have hsz3 := hb3.size
            have hgl := hL.lt
            clear hpp hb3 hL hLp hb hcell
            rcases hcase with ⟨p, hp, rfl⟩ | ⟨hp, a, b, rfl⟩
            · have HP := Lib.hid (HT.out p hp)
              clear hp HT HB
              have hgl3 : w1.heap.size < w3.heap.size := by omega
              have hne : ¬ w3.heap.size = w1.heap.size := by omega
              have hlen : (pcells (Y ++ List.replicate (n - k) ([], []))).length = n * 2 := by rw [pcells_length, List.length_append, List.length_replicate, HYk.out]; omega
              obtain ⟨x0, hx0⟩ : ∃ x, w3.cell? ⟨w1.heap.size, k * 2, none⟩ = some x := ⟨_, (hL3.cell _).trans (List.getElem?_eq_getElem (by omega))⟩
              obtain ⟨x1, hx1⟩ : ∃ x, w3.cell? ⟨w1.heap.size, k * 2 + 1, none⟩ = some x := ⟨_, (hL3.cell _).trans (List.getElem?_eq_getElem (by omega))⟩
              have hf0 := hL3.free (k * 2)
              have hf1 := hL3.free (k * 2 + 1)
              have hL4 := (hL3.put (k * 2) (.string (strOf p.1))).put (k * 2 + 1) (.string (strOf p.2))
              rw [show n - k = (n - (k + 1)) + 1 from by omega, pcells_put Y k _ HYk.out p] at hL4
              have hLp4 := (hLp3.far (p := ⟨w1.heap.size, k * 2, none⟩) (Nat.ne_of_lt hg) (.string (strOf p.1))).far (p := ⟨w1.heap.size, k * 2 + 1, none⟩) (Nat.ne_of_lt hg) (.string (strOf p.2))
              have hb4 := (hb03.setCell (p := ⟨w1.heap.size, k * 2, none⟩) hbs (.string (strOf p.1))).setCell (p := ⟨w1.heap.size, k * 2 + 1, none⟩) hbs (.string (strOf p.2))
              have HYl : Hid ((Y ++ [p]).length = k + 1) := by unfold Hid; rw [List.length_append, HYk.out]; rfl
              clear hlen hL3 hLp3 hb03
              go_wp2
              go_roundw
              case rel => exact ⟨k + 1, Y ++ [p], by go_num, by omega, HP.out, HYl.out, hL4.alloc _, hLp4.alloc _, hb4.alloc hb4.size _⟩
              case measure => simp [intOf]; omega
            · have HP := Lib.hid (HB.out hp)
              clear hp HT HB
              go_wp2
              go_ret2
              exact ParseEndN.no ((HOf.out hmany).trans HP.out) (hb03.alloc hb03.size _)
          · obtain rfl : k = n := by omega
            have hd3 : decide ((k : Int) < (k : Int)) = false := by simp
            rw [Nat.sub_self, List.replicate_zero, List.append_nil] at hL
            rw [List.take_of_length_le (by rw [Hn.out]; exact Nat.le_refl _)] at HY
            go_wp2
            go_ret2
            exact ParseEndN.yes ((HOf.out hmany).trans HY.out) HYk.out (Row.lies hL) (Nat.le_refl _) (by omega) hb (Fresh.at_ hbs 0)
theorem parse_any (s : ByteArray) (w : World) (hs : s.size ≤ 140737488351232) :
    Calls Tryd.prog 22 #[.string s] w fun e w' => ParseEnd (numsOf s) w e w' :=
  (parseNew_any s w hs).mono fun _ _ ⟨A, c, he, hr, hc, hcm, hb, _⟩ => ⟨A, c, he, hr, hc, hcm, hb⟩
end Go.Proofs.YtejmkijnngkoaaaDoor
