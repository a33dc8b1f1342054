/-
  The contracts of the document's Parts and Parse.
-/
import Derived.Test.YtejmkijnngkoaaaDoorPRefP
import Derived.Test.YtejmkijnngkoaaaDoorPParse
namespace Go.Proofs.YtejmkijnngkoaaaDoor
open Go.RowKit

/-- What holds at each round of Parts's loop. -/
def PartsRel (S : List Nat) (w : World) (out f i : Value) (wr : World) : Prop :=
  ∃ (k fr n : Nat) (Q : List (List Nat)), i = .int .i64 k ∧ f = .int .i64 fr ∧ fr ≤ k ∧ k ≤ S.length ∧ n ≤ k ∧ Pq.parts S = Q ++ Pq.parts (S.drop fr) ∧ (∀ j, fr ≤ j → j < k → S.getD j 0 ≠ 38) ∧ Q.length = n ∧ wr.ownsRow w.heap.size 9 1 out n (tcells Q) ∧ Below w.heap.size w wr

theorem seg_free {S : List Nat} {f k : Nat} (h : ∀ j, f ≤ j → j < k → S.getD j 0 ≠ 38) (hk : k ≤ S.length) : ∀ x ∈ (S.take k).drop f, x ≠ 38 := by
  intro x hx
  obtain ⟨j, hj, rfl⟩ := List.getElem_of_mem hx
  rw [List.length_drop, List.length_take] at hj
  have := h (f + j) (by omega) (by omega)
  rw [List.getD_eq_getElem?_getD, List.getElem?_eq_getElem (by omega)] at this
  simpa using this
theorem parts_step {S : List Nat} {f k : Nat} (h : ∀ j, f ≤ j → j < k → S.getD j 0 ≠ 38) (hfk : f ≤ k) (hk : k < S.length) (hc : S.getD k 0 = 38) : Pq.parts (S.drop f) = (S.take k).drop f :: Pq.parts (S.drop (k + 1)) := by
  have e : S.drop f = (S.take k).drop f ++ 38 :: S.drop (k + 1) := by
    have h1 := Pq.drop_at S hk
    rw [hc] at h1
    rw [← h1]
    conv => lhs; rw [← List.take_append_drop k S]
    rw [List.drop_append_of_le_length (by rw [List.length_take]; omega)]
  rw [e]
  exact Pq.parts_first (seg_free h (by omega)) _
theorem tcells_snoc (Q : List (List Nat)) (p : List Nat) : tcells (Q ++ [p]) = tcells Q ++ [.string (strOf p)] := by simp [tcells]
theorem text_one (a : ByteArray) : ∀ u ∈ [Value.string a], u.oneCell' = true := by intro u hu; simp at hu; subst hu; rfl

set_option maxHeartbeats 2000000 in
set_option maxRecDepth 100000 in
theorem refParts_any (s : ByteArray) (w : World) (hs : s.size ≤ 4096) :
    Calls Tryd.prog 42 #[.string s, .int .u8 38] w fun e w' => ∃ A c, e = .returned (.slice A (Pq.parts (numsOf s)).length c) ∧ Row w' A (tcells (Pq.parts (numsOf s))) ∧ Below w.heap.size w w' := by
  have Hlen := Lib.hid (numsOf_length s)
  go_enter Tryd.func42, Tryd.ntmps42
  go_wp2_with fail
  go_loopw [5, 6, 7] (fun v f i wr => PartsRel (numsOf s) w v f i wr) (fun _ _ i _ => s.size - (intOf i).toNat)
  case atStart => exact ⟨0, 0, 0, [], rfl, rfl, Nat.le_refl _, Nat.zero_le _, Nat.le_refl _, rfl, (fun j _ hj => by omega), rfl, World.ownsRow_nil _ _ _ _, Below.refl _ _⟩
  case round =>
    obtain ⟨k, fr, n, Q, rfl, rfl, hfk, hk, hnk, hQ, hno, hQn, hown, hb⟩ := hrel
    rw [Hlen.out] at hk
    have HQ := Lib.hid hQ
    have HQn := Lib.hid hQn
    have Hno := Lib.hid hno
    clear hQ hQn hno
    by_cases hlt : k < s.size
    · have hX := Lib.hid (nums_at s k hlt)
      by_cases h38 : s[k].toNat = 38
      · have hd : ((s[k].toNat : Int) == 38) = true := by rw [beq_iff_eq]; omega
        have HS := Lib.hid (parts_step Hno.out hfk (by rw [Hlen.out]; exact hlt) (by rw [hX.out]; exact h38))
        clear h38
        have c1 : (0 : Int) ≤ (fr : Int) := by omega
        have c2 : (fr : Int) ≤ (k : Int) := by omega
        have c3 : (k : Int) ≤ (s.size : Int) := by omega
        repeat ((fail_if_success (with_reducible show wpList _ _ _ (⟨some 25, _, _, _, _, _⟩ :: _) _ _)); first | go_values | go_skip | go_guarded | go_step | go_upon | go_back | go_simp)
        with_reducible refine append_row rfl (.tmp 19) (.tmp 24) 50 9 (.string ByteArray.empty) 1 16 rfl Tryd.underlying50 infoText rfl (by decide) w.heap.size _ n _ ⟨wr.heap.size, 0, none⟩ 1 1 [.string (s.extract fr k)] (hown.alloc _) ?c1 ?c2 ?c3 ?c4 ?c5 ?c6 ?c7 ?c8 ?_
        case c1 => rfl
        case c2 => exact fun j u hj => new_cells wr _ _ j u hj
        case c3 => exact text_one _
        case c4 => rfl
        case c5 => rfl
        case c6 => omega
        case c7 => omega
        case c8 => have := hb.size; simp; omega
        intro v2 w2 hown2 hgr2
        have hb2 : Below w.heap.size w w2 := (hb.alloc hb.size _).grown hgr2 (by have := hb.size; simp; omega) (own_ge hown)
        have eX : strOf (((numsOf s).take k).drop fr) = s.extract fr k := by rw [← nums_extract, strOf_numsOf]
        rw [← eX, ← tcells_snoc] at hown2
        clear hgr2 hown hb eX
        go_frame
        go_wp2
        go_roundw
        case rel => exact ⟨k + 1, k + 1, n + 1, Q ++ [((numsOf s).take k).drop fr], by go_num, by go_num, Nat.le_refl _, by rw [Hlen.out]; omega, by omega, by rw [HQ.out, HS.out]; simp, (fun j h1 h2 => by omega), by rw [List.length_append, HQn.out]; rfl, hown2, hb2⟩
        case measure => simp [intOf]; omega
      · have hd : ((s[k].toNat : Int) == 38) = false := by rw [beq_eq_false_iff_ne]; omega
        have HN : Hid (∀ j, fr ≤ j → j < k + 1 → (numsOf s).getD j 0 ≠ 38) := fun j h1 hj => by
          rcases Nat.lt_or_eq_of_le (Nat.le_of_lt_succ hj) with h | h
          · exact Hno.out j h1 h
          · rw [h, hX.out]; exact h38
        clear h38
        go_wp2
        go_roundw
        case rel => exact ⟨k + 1, fr, n, Q, by go_num, rfl, by omega, by rw [Hlen.out]; omega, by omega, HQ.out, HN.out, HQn.out, hown, hb⟩
        case measure => simp [intOf]; omega
    · obtain rfl : k = s.size := by omega
      have hd : decide ((s.size : Int) < (s.size : Int)) = false := by simp
      have HS : Hid (Pq.parts (numsOf s) = Q ++ [(numsOf s).drop fr]) := by
        unfold Hid
        rw [HQ.out]
        have := seg_free Hno.out (by rw [Hlen.out]; exact Nat.le_refl _)
        rw [List.take_of_length_le (by rw [Hlen.out]; exact Nat.le_refl _)] at this
        rw [Pq.parts_free this]
      have c1 : (0 : Int) ≤ (fr : Int) := by omega
      have c2 : (fr : Int) ≤ (s.size : Int) := by omega
      repeat ((fail_if_success (with_reducible show wpList _ _ _ (⟨some 33, _, _, _, _, _⟩ :: _) _ _)); first | go_values | go_skip | go_guarded | go_step | go_upon | go_back | go_simp)
      with_reducible refine append_row rfl (.tmp 28) (.tmp 32) 50 9 (.string ByteArray.empty) 1 16 rfl Tryd.underlying50 infoText rfl (by decide) w.heap.size _ n _ ⟨wr.heap.size, 0, none⟩ 1 1 [.string (s.extract fr s.size)] (hown.alloc _) ?d1 ?d2 ?d3 ?d4 ?d5 ?d6 ?d7 ?d8 ?_
      case d1 => rfl
      case d2 => exact fun j u hj => new_cells wr _ _ j u hj
      case d3 => exact text_one _
      case d4 => rfl
      case d5 => rfl
      case d6 => omega
      case d7 => omega
      case d8 => have := hb.size; simp; omega
      intro v2 w2 hown2 hgr2
      have hb2 : Below w.heap.size w w2 := (hb.alloc hb.size _).grown hgr2 (by have := hb.size; simp; omega) (own_ge hown)
      have eX : strOf ((numsOf s).drop fr) = s.extract fr s.size := by rw [← nums_from, strOf_numsOf]
      rw [← eX, ← tcells_snoc, ← HS.out] at hown2
      obtain ⟨A2, cap2, rfl⟩ := own_slice hown2
      have hrow := Row.own hown2
      have hl : (Pq.parts (numsOf s)).length = n + 1 := by rw [HS.out, List.length_append, HQn.out]; rfl
      have Hl := Lib.hid hl
      clear hgr2 hown hb eX hown2 hl
      go_frame
      go_wp2
      go_ret
      exact ⟨A2, cap2, by rw [Hl.out]; rfl, hrow, hb2⟩

theorem new_after (w : World) (o : Obj) (cs : Array Value) (t : TypeId) (j : Nat) (u : Value) (h : cs.toList[j]? = some u) : ((w.alloc o).alloc (.cells cs t)).cell? ((⟨w.heap.size + 1, 0, none⟩ : Addr).add j) = some u := by
  have := new_cells (w.alloc o) cs t j u h
  simpa using this

def PairsRel (P : List (List Nat)) (n : Nat) (w1 : World) (l i : Value) (wr : World) : Prop :=
  ∃ (k : Nat) (Y : List (List Nat × List Nat)), i = .int .i64 k ∧ k ≤ n ∧ Pq.pairsOf (P.take k) = some Y ∧ Y.length = k ∧ wr.ownsRow w1.heap.size 34 2 l k (pcells Y) ∧ Below w1.heap.size w1 wr

theorem fresh_own {w w' : World} {e : TypeId} {size n c m : Nat} {A : Option Addr} {xs : List Value} (h : w'.ownsRow w.heap.size e size (.slice A n c) m xs) : Fresh w A := by
  rcases h.2 with ⟨e, _⟩ | ⟨g, cap, cur, e, hB, _⟩
  · have hA : A = none := by simpa using congrArg (fun v => match v with | Value.slice a _ _ => a | _ => none) e
    subst hA
    exact Fresh.nil _
  · have hA : A = some ⟨g, 0, none⟩ := by simpa using congrArg (fun v => match v with | Value.slice a _ _ => a | _ => none) e
    subst hA
    exact Fresh.at_ hB 0

set_option maxHeartbeats 2000000 in
set_option maxRecDepth 100000 in
theorem refParseNew_any (s : ByteArray) (w : World) (hs : s.size ≤ 140737488351232) :
    Calls Tryd.prog 27 #[.string s] w fun e w' => ∃ (A : Option Addr) (c : Nat), e = .returned (.tuple #[.slice A ((Pq.parse (numsOf s)).getD []).length c, .bool (Pq.parse (numsOf s)).isSome]) ∧ Row w' A (pcells ((Pq.parse (numsOf s)).getD [])) ∧ Below w.heap.size w w' ∧ Fresh w A := by
  have Hlen := Lib.hid (numsOf_length s)
  by_cases h0 : numsOf s = []
  · have h1 : s.toList = [] := (empty_iff s).2 h0
    have H0 := Lib.hid h0
    clear h0
    go_enter Tryd.func27, Tryd.ntmps27
    go_wp2
    go_ret2
    rw [H0.out]
    exact ⟨none, 0, rfl, Row.nil _ _, Below.refl _ _, Fresh.nil _⟩
  · have h1 : ¬ s.toList = [] := fun h => h0 ((empty_iff s).1 h)
    have h2 : s.toList.isEmpty = false := by rw [List.isEmpty_eq_false_iff]; exact h1
    have H0 := Lib.hid h0
    clear h0
    by_cases hlong : 4096 < s.size
    · have hd : decide ((4096 : Int) < (s.size : Int)) = true := decide_eq_true (by omega)
      have HP := Lib.hid (Pq.parse_long (S := numsOf s) (by rw [Hlen.out]; exact hlong))
      go_enter Tryd.func27, Tryd.ntmps27
      go_wp2
      go_ret2
      rw [HP.out]
      exact ⟨none, 0, rfl, Row.nil _ _, Below.refl _ _, Fresh.nil _⟩
    · have hd : decide ((4096 : Int) < (s.size : Int)) = false := decide_eq_false (by omega)
      go_enter Tryd.func27, Tryd.ntmps27
      go_wp2_with fail
      refine (refParts_any s w (by omega)).mono ?_
      rintro e w1 ⟨A, cA, rfl, hrow, hb1⟩
      have hnp := Pq.parts_pos (numsOf s)
      have HM := Lib.hid (show ∀ p ∈ Pq.parts (numsOf s), p.length ≤ s.size ∧ ∀ x ∈ p, x < 256 from fun p hp => ⟨by rw [← Hlen.out]; exact (Pq.parts_mem hp).1, fun x hx => numsOf_lt s x ((Pq.parts_mem hp).2 x hx)⟩)
      have HMany := Lib.hid (fun h : 32 < (Pq.parts (numsOf s)).length => Pq.parse_many h H0.out)
      have HOf := Lib.hid (fun h : ¬ 32 < (Pq.parts (numsOf s)).length => Pq.parse_of (by rw [Hlen.out]; exact hlong) H0.out h)
      obtain ⟨P, eP⟩ : ∃ P, Pq.parts (numsOf s) = P := ⟨_, rfl⟩
      rw [eP] at hrow hnp HM HMany HOf ⊢
      clear eP
      obtain ⟨b, off, rfl, hbw, hc⟩ := hrow (by rw [tcells, List.length_map]; exact hnp)
      have HC := Lib.hid hc
      clear hc hrow
      obtain ⟨n, en⟩ : ∃ n, P.length = n := ⟨_, rfl⟩
      rw [en] at hnp HMany HOf ⊢
      have Hn := Lib.hid en
      clear en h1 h2
      by_cases hmany : 32 < n
      · have hd2 : decide ((32 : Int) < (n : Int)) = true := decide_eq_true (by omega)
        have HP := Lib.hid (HMany.out hmany)
        go_wp2
        go_ret2
        rw [HP.out]
        exact ⟨none, 0, rfl, Row.nil _ _, hb1, Fresh.nil _⟩
      · have hd2 : decide ((32 : Int) < (n : Int)) = false := decide_eq_false (by omega)
        have HPo := Lib.hid (HOf.out hmany)
        go_wp2_with fail
        go_loopw [5, 6] (fun l i wr => PairsRel P n w1 l i wr) (fun _ i _ => n - (intOf i).toNat)
        case atStart => exact ⟨0, [], rfl, Nat.zero_le _, rfl, rfl, World.ownsRow_nil _ _ _ _, Below.refl _ _⟩
        case round =>
          obtain ⟨k, Y, rfl, hk, hY, hYk, hown, hb⟩ := hrel
          have HY := Lib.hid hY
          have HYk := Lib.hid hYk
          clear hY hYk
          by_cases hlt : k < n
          · have hcell : wr.cell? ⟨b, off + k, none⟩ = some (.string (strOf (P.getD k []))) := (hb.cell (p := ⟨b, off + k, none⟩) hbw).trans (HC.out k _ (tcells_at P k (by rw [Hn.out]; exact hlt)))
            have hmem : P.getD k [] ∈ P := by
              rw [List.getD_eq_getElem?_getD, List.getElem?_eq_getElem (by rw [Hn.out]; exact hlt)]
              exact List.getElem_mem _
            have hpp := refPair_any (strOf (P.getD k [])) wr (by rw [strOf_size]; have := (HM.out _ hmem).1; omega)
            rw [numsOf_strOf (HM.out _ hmem).2] at hpp
            clear hmem
            have HT := Lib.hid (fun x (h : Pq.pair (P.getD k []) = some x) => Pq.pairsOf_take HY.out (by rw [Hn.out]; exact hlt) h)
            have HB := Lib.hid (fun h : Pq.pair (P.getD k []) = none => Pq.pairsOf_bad (by rw [Hn.out]; exact hlt) h)
            obtain ⟨q, eq⟩ : ∃ q, P.getD k [] = q := ⟨_, rfl⟩
            rw [eq] at hcell hpp HT HB
            clear eq
            go_wp2_with fail
            refine hpp.mono ?_
            rintro e w3 ⟨hb3, hcase⟩
            have hown3 := own_below hown hb3
            have hb03 := hb.trans (hb3.mono hb.size)
            clear hpp hb3 hown hb hcell
            rcases hcase with ⟨p, hp, rfl⟩ | ⟨hp, a, b', rfl⟩
            · have HP := Lib.hid (HT.out p hp)
              clear hp HT HB
              have HYl : Hid ((Y ++ [p]).length = k + 1) := by unfold Hid; rw [List.length_append, HYk.out]; rfl
              repeat ((fail_if_success (with_reducible show wpList _ _ _ (⟨some 38, _, _, _, _, _⟩ :: _) _ _)); first | go_values | go_skip | go_guarded | go_step | go_upon | go_back | go_simp)
              with_reducible refine append_row rfl (.tmp 35) (.tmp 37) 22 34 (.agg #[.string ByteArray.empty, .string ByteArray.empty]) 2 32 rfl Tryd.underlying22 infoPair rfl (by decide) w1.heap.size _ k _ ⟨w3.heap.size + 1, 0, none⟩ 1 1 (pcells [p]) ((hown3.alloc _).alloc _) ?c1 ?c2 ?c3 ?c4 ?c5 ?c6 ?c7 ?c8 ?_
              case c1 => rfl
              case c2 => exact fun j u hj => new_after w3 _ _ _ j u hj
              case c3 => exact pcells_one _
              case c4 => rfl
              case c5 => rfl
              case c6 => omega
              case c7 => omega
              case c8 => have := hb03.size; simp; omega
              intro v2 w4 hown4 hgr4
              have hb4 : Below w1.heap.size w1 w4 := ((hb03.alloc hb03.size _).alloc (by have := hb03.size; simp; omega) _).grown hgr4 (by have := hb03.size; simp; omega) (own_ge hown3)
              rw [← pcells_append] at hown4
              clear hgr4 hown3 hb03
              go_frame
              go_wp2
              go_roundw
              case rel => exact ⟨k + 1, Y ++ [p], by go_num, by omega, HP.out, HYl.out, hown4, hb4⟩
              case measure => simp [intOf]; omega
            · have HP := Lib.hid (HB.out hp)
              clear hp HT HB
              go_wp2
              go_ret2
              rw [HPo.out.trans HP.out]
              exact ⟨none, 0, rfl, Row.nil _ _, hb1.trans ((hb03.alloc hb03.size _).mono hb1.size), Fresh.nil _⟩
          · obtain rfl : k = n := by omega
            have hd3 : decide ((k : Int) < (k : Int)) = false := by simp
            rw [List.take_of_length_le (by rw [Hn.out]; exact Nat.le_refl _)] at HY
            obtain ⟨A2, cap2, rfl⟩ := own_slice hown
            have hrow := Row.own hown
            have hfr := (fresh_own hown).later hb1.size
            clear hown
            go_wp2
            go_ret2
            rw [HPo.out.trans HY.out]
            exact ⟨A2, cap2, by rw [← HYk.out]; rfl, hrow, hb1.trans (hb.mono hb1.size), hfr⟩
theorem refParse_any (s : ByteArray) (w : World) (hs : s.size ≤ 140737488351232) :
    Calls Tryd.prog 27 #[.string s] w fun e w' => ∃ (A : Option Addr) (c : Nat), e = .returned (.tuple #[.slice A ((Pq.parse (numsOf s)).getD []).length c, .bool (Pq.parse (numsOf s)).isSome]) ∧ Row w' A (pcells ((Pq.parse (numsOf s)).getD [])) ∧ Below w.heap.size w w' :=
  (refParseNew_any s w hs).mono fun _ _ ⟨A, c, he, hr, hb, _⟩ => ⟨A, c, he, hr, hb⟩
end Go.Proofs.YtejmkijnngkoaaaDoor
