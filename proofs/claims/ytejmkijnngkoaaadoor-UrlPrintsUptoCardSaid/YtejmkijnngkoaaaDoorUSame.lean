/-
  The contracts of slices.Equal over pairs, of the document's Same of addresses, and of Right.
-/
import Derived.Test.YtejmkijnngkoaaaDoorUPrint
import Derived.Test.YtejmkijnngkoaaaDoorPSame
namespace Go.Proofs.YtejmkijnngkoaaaDoor
open Go.RowKit

set_option maxHeartbeats 2000000 in
set_option maxRecDepth 100000 in
theorem equal_any (L M : List (List Nat × List Nat)) (A B : Option Addr) (cA cB : Nat) (w : World) (hA : Row w A (pcells L)) (hB : Row w B (pcells M)) (hL : Pq.Fine L) (hM : Pq.Fine M) (hn : L.length ≤ 4194304) :
    Calls Tryd.prog 31 #[.slice A L.length cA, .slice B M.length cB] w fun e w' => e = .returned (.bool (decide (L = M))) ∧ Below w.heap.size w w' := by
  by_cases hlen : L.length = M.length
  · obtain ⟨n, en⟩ : ∃ n, L.length = n := ⟨_, rfl⟩
    have em : M.length = n := by rw [← hlen, en]
    have Hn := Lib.hid en
    have Hm := Lib.hid em
    rw [en, em]
    rw [en] at hn
    have hd : ((n : Int) != (n : Int)) = false := by simp
    clear en em hlen
    go_enter Tryd.func31, Tryd.ntmps31
    go_wp2_with fail
    go_loopw [13] (fun i wr => ∃ k : Nat, i = .int .i64 k ∧ k ≤ n ∧ L.take k = M.take k ∧ Below w.heap.size w wr) (fun i _ => n - (intOf i).toNat)
    case atStart => exact ⟨0, rfl, Nat.zero_le _, rfl, Below.refl _ _⟩
    case round =>
      obtain ⟨k, rfl, hk, he, hb⟩ := hrel
      have He := Lib.hid he
      clear he
      by_cases hlt : k < n
      · obtain ⟨b, off, rfl, hbw, c0, c1⟩ := (hA.below hb (Nat.le_refl _)).pair (by rw [Hn.out]; exact hlt)
        obtain ⟨b', off', rfl, hbw', d0, d1⟩ := (hB.below hb (Nat.le_refl _)).pair (by rw [Hm.out]; exact hlt)
        have HE := Lib.hid (fun hp => ext_at Hn.out Hm.out hlt He.out hp)
        have hLk := getD_lt hL k
        have hMk := getD_lt hM k
        have HLk := Lib.hid hLk
        have HMk := Lib.hid hMk
        obtain ⟨p, ep⟩ : ∃ p, L.getD k ([], []) = p := ⟨_, rfl⟩
        obtain ⟨q, eq⟩ : ∃ q, M.getD k ([], []) = q := ⟨_, rfl⟩
        rw [ep] at c0 c1
        rw [eq] at d0 d1
        rw [ep, eq] at HE
        rw [ep] at hLk
        rw [eq] at hMk
        have hneq := neq_pairs hLk hMk
        have HP := Lib.hid ep
        have HQ := Lib.hid eq
        have hgd := guard_pair
        clear hA hB hLk hMk ep eq
        by_cases hpq : p = q
        · rw [decide_eq_true hpq] at hneq
          have HE' := Lib.hid (HE.out hpq)
          clear hpq HE
          go_upto_region 6 with (fail)
          go_quiet (fail)
          go_wp2
          go_roundw
          case rel => exact ⟨k + 1, by go_num, by omega, HE'.out, below_drewN hb nq⟩
          case measure => simp [intOf]; omega
        · rw [decide_eq_false hpq] at hneq
          have HE' : Hid (L ≠ M) := fun h => by
            subst h
            exact hpq (HP.out.symm.trans HQ.out)
          clear hpq HE
          go_upto_region 6 with (fail)
          go_quiet (fail)
          go_wp2
          go_ret
          exact ⟨by rw [decide_eq_false HE'.out]; rfl, below_drewN hb nq⟩
      · obtain rfl : k = n := by omega
        have hd3 : decide ((k : Int) < (k : Int)) = false := by simp
        have HE : Hid (L = M) := by
          have := He.out
          rwa [List.take_of_length_le (by rw [Hn.out]; exact Nat.le_refl _), List.take_of_length_le (by rw [Hm.out]; exact Nat.le_refl _)] at this
        go_wp2
        go_ret
        exact ⟨by rw [decide_eq_true HE.out]; rfl, hb⟩
  · have hd : ((L.length : Int) != (M.length : Int)) = true := by simp; omega
    have HE : Hid (L ≠ M) := fun h => hlen (by rw [h])
    obtain ⟨n, en⟩ : ∃ n, L.length = n := ⟨_, rfl⟩
    obtain ⟨m, em⟩ : ∃ m, M.length = m := ⟨_, rfl⟩
    rw [en, em] at hd ⊢
    rw [en] at hn
    clear en em hlen
    go_enter Tryd.func31, Tryd.ntmps31
    go_wp2
    go_ret
    exact ⟨by rw [decide_eq_false HE.out]; rfl, Below.refl _ _⟩

set_option maxHeartbeats 2000000 in
set_option maxRecDepth 100000 in
/-- The document's Same of pairs, of more of them. -/
theorem sameWide_any (L M : List (List Nat × List Nat)) (A B : Option Addr) (cA cB : Nat) (w : World) (hA : Row w A (pcells L)) (hB : Row w B (pcells M)) (hL : Pq.Fine L) (hM : Pq.Fine M) (hn : L.length ≤ 4194304) :
    Calls Tryd.prog 17 #[.slice A L.length cA, .slice B M.length cB] w fun e w' => e = .returned (.bool (decide (L = M))) ∧ Below w.heap.size w w' := by
  by_cases hlen : L.length = M.length
  · obtain ⟨n, en⟩ : ∃ n, L.length = n := ⟨_, rfl⟩
    have em : M.length = n := by rw [← hlen, en]
    have Hn := Lib.hid en
    have Hm := Lib.hid em
    rw [en, em]
    rw [en] at hn
    have hd : ((n : Int) != (n : Int)) = false := by simp
    clear en em hlen
    go_enter Tryd.func17, Tryd.ntmps17
    go_wp2_with fail
    go_loopw [5] (fun i wr => ∃ k : Nat, i = .int .i64 k ∧ k ≤ n ∧ L.take k = M.take k ∧ Below w.heap.size w wr) (fun i _ => n - (intOf i).toNat)
    case atStart => exact ⟨0, rfl, Nat.zero_le _, rfl, Below.refl _ _⟩
    case round =>
      obtain ⟨k, rfl, hk, he, hb⟩ := hrel
      have He := Lib.hid he
      clear he
      by_cases hlt : k < n
      · obtain ⟨b, off, rfl, hbw, c0, c1⟩ := (hA.below hb (Nat.le_refl _)).pair (by rw [Hn.out]; exact hlt)
        obtain ⟨b', off', rfl, hbw', d0, d1⟩ := (hB.below hb (Nat.le_refl _)).pair (by rw [Hm.out]; exact hlt)
        have HE := Lib.hid (fun hp => ext_at Hn.out Hm.out hlt He.out hp)
        have hLk := getD_lt hL k
        have hMk := getD_lt hM k
        have HLk := Lib.hid hLk
        have HMk := Lib.hid hMk
        obtain ⟨p, ep⟩ : ∃ p, L.getD k ([], []) = p := ⟨_, rfl⟩
        obtain ⟨q, eq⟩ : ∃ q, M.getD k ([], []) = q := ⟨_, rfl⟩
        rw [ep] at c0 c1
        rw [eq] at d0 d1
        rw [ep, eq] at HE
        rw [ep] at hLk
        rw [eq] at hMk
        have hneq := neq_pairs hLk hMk
        have HP := Lib.hid ep
        have HQ := Lib.hid eq
        have hgd := guard_pair
        clear hA hB hLk hMk ep eq
        by_cases hpq : p = q
        · rw [decide_eq_true hpq] at hneq
          have HE' := Lib.hid (HE.out hpq)
          clear hpq HE
          go_upto_region 6 with (fail)
          go_quiet (fail)
          go_wp2
          go_roundw
          case rel => exact ⟨k + 1, by go_num, by omega, HE'.out, below_drewN hb nq⟩
          case measure => simp [intOf]; omega
        · rw [decide_eq_false hpq] at hneq
          have HE' : Hid (L ≠ M) := fun h => by
            subst h
            exact hpq (HP.out.symm.trans HQ.out)
          clear hpq HE
          go_upto_region 6 with (fail)
          go_quiet (fail)
          go_wp2
          go_ret
          exact ⟨by rw [decide_eq_false HE'.out]; rfl, below_drewN hb nq⟩
      · obtain rfl : k = n := by omega
        have hd3 : decide ((k : Int) < (k : Int)) = false := by simp
        have HE : Hid (L = M) := by
          have := He.out
          rwa [List.take_of_length_le (by rw [Hn.out]; exact Nat.le_refl _), List.take_of_length_le (by rw [Hm.out]; exact Nat.le_refl _)] at this
        go_wp2
        go_ret
        exact ⟨by rw [decide_eq_true HE.out]; rfl, hb⟩
  · have hd : ((L.length : Int) != (M.length : Int)) = true := by simp; omega
    have HE : Hid (L ≠ M) := fun h => hlen (by rw [h])
    obtain ⟨n, en⟩ : ∃ n, L.length = n := ⟨_, rfl⟩
    obtain ⟨m, em⟩ : ∃ m, M.length = m := ⟨_, rfl⟩
    rw [en, em] at hd ⊢
    rw [en] at hn
    clear en em hlen
    go_enter Tryd.func17, Tryd.ntmps17
    go_wp2
    go_ret
    exact ⟨by rw [decide_eq_false HE.out]; rfl, Below.refl _ _⟩

theorem text_beq (a b : ByteArray) : (a.toList == b.toList) = decide (a = b) := by
  rw [Bool.eq_iff_iff, beq_iff_eq, decide_eq_true_iff, ByteArray.toList_eq, ByteArray.toList_eq]
  exact ⟨fun h => ByteArray.ext (Array.toList_inj.1 h), fun h => by rw [h]⟩

set_option maxHeartbeats 1000000 in
set_option maxRecDepth 100000 in
theorem refSame_any (H P H' P' : ByteArray) (L M : List (List Nat × List Nat)) (A B : Option Addr) (n m c d : Nat) (w : World) (hn : L.length = n) (hm : M.length = m) (hA : Row w A (pcells L)) (hB : Row w B (pcells M)) (hL : Pq.Fine L) (hM : Pq.Fine M) (hn9 : n ≤ 4194304) :
    Calls Tryd.prog 12 #[uval H P A n c, uval H' P' B m d] w fun e w' => e = .returned (.bool (decide (H = H' ∧ P = P' ∧ L = M))) ∧ Below w.heap.size w w' := by
  have hS := sameWide_any L M A B c d ((w.alloc (.cells #[.string H, .string P, .slice A n c] 24)).alloc (.cells #[.string H', .string P', .slice B m d] 24)) ((hA.alloc _).alloc _) ((hB.alloc _).alloc _) hL hM (by omega)
  rw [hn, hm] at hS
  have hb : Below w.heap.size w ((w.alloc (.cells #[.string H, .string P, .slice A n c] 24)).alloc (.cells #[.string H', .string P', .slice B m d] 24)) := ((Below.refl _ _).alloc (Nat.le_refl _) _).alloc (by simp) _
  have HB := Lib.hid hb
  by_cases h1 : H = H'
  · have hd1 : (H.toList == H'.toList) = true := by rw [text_beq, decide_eq_true h1]
    by_cases h2 : P = P'
    · have hd2 : (P.toList == P'.toList) = true := by rw [text_beq, decide_eq_true h2]
      have HE : Hid (decide (H = H' ∧ P = P' ∧ L = M) = decide (L = M)) := by
        unfold Hid
        rw [decide_eq_decide]
        exact ⟨fun h => h.2.2, fun h => ⟨h1, h2, h⟩⟩
      have hp1 : H.toList = H'.toList := by rw [h1]
      have hp2 : P.toList = P'.toList := by rw [h2]
      obtain ⟨r, er⟩ : ∃ r, decide (L = M) = r := ⟨_, rfl⟩
      rw [er] at hS HE
      clear h1 h2 er hb hn hm hA hB hp1 hp2
      go_enter Tryd.func12, Tryd.ntmps12
      go_wp2_with fail
      refine hS.mono ?_
      rintro e w1 ⟨rfl, hb1⟩
      have hb2 := HB.out.trans (hb1.mono HB.out.size)
      clear hS hb1
      go_wp2
      go_ret
      exact ⟨ret_bool (by rw [HE.out]), hb2⟩
    · have hd2 : (P.toList == P'.toList) = false := by rw [text_beq, decide_eq_false h2]
      have HE : Hid (decide (H = H' ∧ P = P' ∧ L = M) = false) := decide_eq_false fun h => h2 h.2.1
      clear h1 h2 hb hn hm hA hB hS
      go_enter Tryd.func12, Tryd.ntmps12
      go_wp2
      go_ret
      exact ⟨ret_bool (by rw [HE.out]), HB.out⟩
  · have hd1 : (H.toList == H'.toList) = false := by rw [text_beq, decide_eq_false h1]
    have HE : Hid (decide (H = H' ∧ P = P' ∧ L = M) = false) := decide_eq_false fun h => h1 h.1
    clear h1 hb hn hm hA hB hS
    go_enter Tryd.func12, Tryd.ntmps12
    go_wp2
    go_ret
    exact ⟨ret_bool (by rw [HE.out]), HB.out⟩
theorem pairs_fine : ∀ (P : List (List Nat)), (∀ q ∈ P, ∀ x ∈ q, x < 256) → ∀ Y, Pq.pairsOf P = some Y → Pq.Fine Y
  | [], _, Y, hY => by rw [Pq.pairsOf] at hY; cases hY; intro p hp; cases hp
  | q :: P, hq, Y, hY => by
    rw [Pq.pairsOf] at hY
    split at hY
    · rename_i x y hx hy
      cases hY
      intro p hp
      rcases List.mem_cons.1 hp with rfl | hp
      · unfold Pq.pair at hx
        split at hx
        · rename_i a b ha hb
          cases hx
          exact ⟨(Pq.un_lt true _ _ _ (Nat.le_refl _) (fun z hz => hq q (by simp) z (List.mem_of_mem_take (by rw [Pq.front_take]; exact hz))) ha).1, (Pq.un_lt true _ _ _ (Nat.le_refl _) (fun z hz => hq q (by simp) z (List.mem_of_mem_drop hz)) hb).1⟩
        · cases hx
      · exact pairs_fine P (fun r hr => hq r (List.mem_cons_of_mem _ hr)) _ hy p hp
    · cases hY
theorem fine_of {S : List Nat} {Y : List (List Nat × List Nat)} (h : Pq.parse S = some Y) (hS : ∀ x ∈ S, x < 256) : Pq.Fine Y := by
  unfold Pq.parse at h
  split at h
  · cases h
  · split at h
    · cases h; intro p hp; cases hp
    · split at h
      · cases h
      · exact pairs_fine _ (fun q hq x hx => hS x ((Pq.parts_mem hq).2 x hx)) _ h
theorem url_fine {S : List Nat} {u : Uq.U} (h : Uq.parse S = some u) (hS : ∀ x ∈ S, x < 256) : Pq.Fine u.2.2 :=
  fine_of (Uq.parse_some h).2.2.2 (drop_lt (drop_lt hS _) _)

set_option maxHeartbeats 1000000 in
set_option maxRecDepth 100000 in
theorem right_any (H P : ByteArray) (L : List (List Nat × List Nat)) (A : Option Addr) (n c : Nat) (w : World) (hn : L.length = n) (hA : Row w A (pcells L)) (hL : Pq.Fine L) (hS : Short L) (hn9 : n ≤ 1048576) (hH : H.size ≤ 4194304) (hP : P.size ≤ 4194304) (hHd : Held w) :
    Calls Tryd.prog 18 #[uval H P A n c] w fun e w' => e = .returned (.bool (Uq.right (numsOf H, numsOf P, L))) ∧ Below w.heap.size w w' := by
  have hlt := Uq.print_lt (u := (numsOf H, numsOf P, L)) (numsOf_lt H) (numsOf_lt P) hL
  have hlen : (Uq.print (numsOf H, numsOf P, L)).length ≤ 140737488351232 := by
    have h1 := print_bnd hS (by omega)
    have h2 : Uq.scheme.length = 8 := rfl
    unfold Uq.print
    simp only [List.length_append, numsOf_length, h2]
    split
    · simp; omega
    · simp only [List.length_cons]; omega
  have hP1 := urlPrint_any H P L A c (w.alloc (.cells #[.string H, .string P, .slice A n c] 24)) (hA.alloc _) hL hS (by omega) hH hP
  rw [hn] at hP1
  have hP2 := fun w h => urlParse_any (strOf (Uq.print (numsOf H, numsOf P, L))) w (by rw [strOf_size]; exact hlen) h
  rw [numsOf_strOf hlt] at hP2
  unfold UrlEnd at hP2
  obtain ⟨T, eT⟩ : ∃ T, strOf (Uq.print (numsOf H, numsOf P, L)) = T := ⟨_, rfl⟩
  rw [eT] at hP1
  simp only [eT] at hP2
  have hW := Lies.made w 24 [.string H, .string P, .slice A n c]
  have hbw : Below w.heap.size w (w.alloc (.cells #[.string H, .string P, .slice A n c] 24)) := (Below.refl _ _).alloc (Nat.le_refl _) _
  have HW := Lib.hid hW
  have HBW := Lib.hid hbw
  have HHd := Lib.hid (hHd.alloc (.cells #[.string H, .string P, .slice A n c] 24))
  have HPl := Lib.hid hlt
  clear eT hlen hHd hW hbw hlt
  have g0 := HW.out.cell 0
  have g1 := HW.out.cell 1
  have g2 := HW.out.cell 2
  cases hp : Uq.parse (Uq.print (numsOf H, numsOf P, L)) with
  | none =>
    have HE : Hid (Uq.right (numsOf H, numsOf P, L) = false) := by unfold Hid Uq.right; rw [hp]; rfl
    simp only [hp, Option.getD_none, Option.isSome_none] at hP2
    clear hp hA hn
    go_enter Tryd.func18, Tryd.ntmps18
    go_wp2_with fail
    refine hP1.mono ?_
    rintro e w1 ⟨rfl, hb1⟩
    have HH1 := Lib.hid (HHd.out.below hb1)
    have hb01 := HBW.out.trans (hb1.mono HBW.out.size)
    clear hP1 hb1 g0 g1 g2
    go_wp2_with fail
    refine (hP2 _ HH1.out).mono ?_
    rintro e w2 ⟨B, d, rfl, hrow, hb2⟩
    have hb02 := hb01.trans (hb2.mono hb01.size)
    clear hP2 hrow hb2
    go_wp2
    go_ret
    exact ⟨ret_bool (by rw [HE.out]), hb02.alloc hb02.size _⟩
  | some v =>
    obtain ⟨vH, vP, vL⟩ := v
    obtain ⟨hvH, hvP⟩ := Uq.parse_bytes hp HPl.out
    have hvL := url_fine hp HPl.out
    obtain ⟨_, _, hl32⟩ := Uq.parse_lens hp
    simp only at hvH hvP hvL hl32
    have HE : Hid (Uq.right (numsOf H, numsOf P, L) = decide (strOf vH = H ∧ strOf vP = P ∧ vL = L)) := by
      unfold Hid Uq.right
      rw [hp, decide_eq_decide]
      constructor
      · intro h
        injection h with h
        injection h with h1 h
        injection h with h2 h3
        exact ⟨by rw [h1, strOf_numsOf], by rw [h2, strOf_numsOf], h3⟩
      · rintro ⟨h1, h2, h3⟩
        rw [← h1, ← h2, h3, numsOf_strOf hvH, numsOf_strOf hvP]
    simp only [hp, Option.getD_some, Option.isSome_some] at hP2
    obtain ⟨SH, eSH⟩ : ∃ SH, strOf vH = SH := ⟨_, rfl⟩
    obtain ⟨SP, eSP⟩ : ∃ SP, strOf vP = SP := ⟨_, rfl⟩
    simp only [eSH, eSP] at hP2
    rw [eSH, eSP] at HE
    obtain ⟨k, ek⟩ : ∃ k, vL.length = k := ⟨_, rfl⟩
    simp only [ek] at hP2
    rw [ek] at hl32
    have Hk := Lib.hid ek
    have Hn := Lib.hid hn
    clear hp hvH hvP eSH eSP ek hn
    go_enter Tryd.func18, Tryd.ntmps18
    go_wp2_with fail
    refine hP1.mono ?_
    rintro e w1 ⟨rfl, hb1⟩
    have HH1 := Lib.hid (HHd.out.below hb1)
    clear hP1 g0 g1 g2
    go_wp2_with fail
    refine (hP2 _ HH1.out).mono ?_
    rintro e w2 ⟨B, d, rfl, hrow, hb2⟩
    have hb12 := hb1.trans (hb2.mono hb1.size)
    have hb02 := HBW.out.trans (hb12.mono HBW.out.size)
    have hA2 := hA.below hb02 (Nat.le_refl _)
    obtain ⟨g0, g1, g2, _, _, _⟩ := keep3 HW.out hb12
    have hlt2 := HW.out.lt
    have hlt3 : w.heap.size < w2.heap.size := Nat.lt_of_lt_of_le hlt2 hb12.size
    have hEq := equal_any vL L B A d c (w2.alloc (.cells #[.string SH, .string SP, .slice B k d] 24)) (hrow.alloc _) (hA2.alloc _) hvL hL (by rw [Hk.out]; omega)
    rw [Hk.out, Hn.out] at hEq
    have hb3 := hb02.alloc hb02.size (.cells #[.string SH, .string SP, .slice B k d] 24)
    have HB3 := Lib.hid hb3
    clear hP2 hrow hb2 hb1 hb12 hb02 hA hA2 hb3 hlt2
    by_cases h1 : SH = H
    · have hd1 : (SH.toList == H.toList) = true := by rw [text_beq, decide_eq_true h1]
      by_cases h2 : SP = P
      · have hd2 : (SP.toList == P.toList) = true := by rw [text_beq, decide_eq_true h2]
        have HE' : Hid (Uq.right (numsOf H, numsOf P, L) = decide (vL = L)) := by
          unfold Hid
          rw [HE.out, decide_eq_decide]
          exact ⟨fun h => h.2.2, fun h => ⟨h1, h2, h⟩⟩
        obtain ⟨r, er⟩ : ∃ r, decide (vL = L) = r := ⟨_, rfl⟩
        rw [er] at hEq HE'
        clear h1 h2 er
        go_wp2_with fail
        refine hEq.mono ?_
        rintro e w4 ⟨rfl, hb4⟩
        have hb5 := HB3.out.trans (hb4.mono HB3.out.size)
        clear hEq hb4
        go_wp2
        go_ret
        exact ⟨ret_bool (by rw [HE'.out]), hb5⟩
      · have hd2 : (SP.toList == P.toList) = false := by rw [text_beq, decide_eq_false h2]
        have HE' : Hid (Uq.right (numsOf H, numsOf P, L) = false) := by
          unfold Hid
          rw [HE.out]
          exact decide_eq_false fun h => h2 h.2.1
        clear h1 h2 hEq
        go_wp2
        go_ret
        exact ⟨ret_bool (by rw [HE'.out]), HB3.out⟩
    · have hd1 : (SH.toList == H.toList) = false := by rw [text_beq, decide_eq_false h1]
      have HE' : Hid (Uq.right (numsOf H, numsOf P, L) = false) := by
        unfold Hid
        rw [HE.out]
        exact decide_eq_false fun h => h1 h.1
      clear h1 hEq
      go_wp2
      go_ret
      exact ⟨ret_bool (by rw [HE'.out]), HB3.out⟩
end Go.Proofs.YtejmkijnngkoaaaDoor
