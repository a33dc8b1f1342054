/-
  The contracts of rightHost, and of the document's Parts at a dot and its host.
-/
import Derived.Test.YtejmkijnngkoaaaDoorUPath
import Derived.Test.YtejmkijnngkoaaaDoorPRefS
namespace Go.Proofs.YtejmkijnngkoaaaDoor
open Go.RowKit

/-- What holds at each round of Parts's loop. -/
def PartsRelD (S : List Nat) (w : World) (out f i : Value) (wr : World) : Prop :=
  ∃ (k fr n : Nat) (Q : List (List Nat)), i = .int .i64 k ∧ f = .int .i64 fr ∧ fr ≤ k ∧ k ≤ S.length ∧ n ≤ k ∧ Uq.parts 46 S = Q ++ Uq.parts 46 (S.drop fr) ∧ (∀ j, fr ≤ j → j < k → S.getD j 0 ≠ 46) ∧ Q.length = n ∧ wr.ownsRow w.heap.size 9 1 out n (tcells Q) ∧ Below w.heap.size w wr

set_option maxHeartbeats 2000000 in
set_option maxRecDepth 100000 in
theorem refPartsDot_any (s : ByteArray) (w : World) (hs : s.size ≤ 4096) :
    Calls Tryd.prog 42 #[.string s, .int .u8 46] w fun e w' => ∃ A c, e = .returned (.slice A (Uq.parts 46 (numsOf s)).length c) ∧ Row w' A (tcells (Uq.parts 46 (numsOf s))) ∧ Below w.heap.size w w' := by
  have Hlen := Lib.hid (numsOf_length s)
  go_enter Tryd.func42, Tryd.ntmps42
  go_wp2_with fail
  go_loopw [5, 6, 7] (fun v f i wr => PartsRelD (numsOf s) w v f i wr) (fun _ _ i _ => s.size - (intOf i).toNat)
  case atStart => exact ⟨0, 0, 0, [], rfl, rfl, Nat.le_refl _, Nat.zero_le _, Nat.le_refl _, rfl, (fun j _ hj => by omega), rfl, World.ownsRow_nil _ _ _ _, Below.refl _ _⟩
  case round =>
    obtain ⟨k, fr, n, Q, rfl, rfl, hfk, hk, hnk, hQ, hno, hQn, hown, hb⟩ := hrel
    rw [Hlen.out] at hk
    have HQ := Lib.hid hQ
    have HQn := Lib.hid hQn
    have Hno := Lib.hid hno
    clear hQ hQn hno
    by_cases hlt : k < s.size
    · have hX := Lib.hid (nums_at s k hlt)
      by_cases h46 : s[k].toNat = 46
      · have hd : ((s[k].toNat : Int) == 46) = true := by rw [beq_iff_eq]; omega
        have HS := Lib.hid (Uq.parts_step Hno.out hfk (by rw [Hlen.out]; exact hlt) (by rw [hX.out]; exact h46))
        clear h46
        have c1 : (0 : Int) ≤ (fr : Int) := by omega
        have c2 : (fr : Int) ≤ (k : Int) := by omega
        have c3 : (k : Int) ≤ (s.size : Int) := by omega
        repeat ((fail_if_success (with_reducible show wpList _ _ _ (⟨some 25, _, _, _, _, _⟩ :: _) _ _)); first | go_values | go_skip | go_guarded | go_step | go_upon | go_back | go_simp)
        with_reducible refine append_row rfl (.tmp 19) (.tmp 24) 50 9 (.string ByteArray.empty) 1 16 rfl Tryd.underlying50 infoText rfl (by decide) w.heap.size _ n _ ⟨wr.heap.size, 0, none⟩ 1 1 [.string (s.extract fr k)] (hown.alloc _) ?c1 ?c2 ?c3 ?c4 ?c5 ?c6 ?c7 ?c8 ?_
        case c1 => rfl
        case c2 => exact fun j u hj => new_cells wr _ _ j u hj
        case c3 => exact text_one _
        case c4 => rfl
        case c5 => rfl
        case c6 => omega
        case c7 => omega
        case c8 => have := hb.size; simp; omega
        intro v2 w2 hown2 hgr2
        have hb2 : Below w.heap.size w w2 := (hb.alloc hb.size _).grown hgr2 (by have := hb.size; simp; omega) (own_ge hown)
        have eX : strOf (((numsOf s).take k).drop fr) = s.extract fr k := by rw [← nums_extract, strOf_numsOf]
        rw [← eX, ← tcells_snoc] at hown2
        clear hgr2 hown hb eX
        go_frame
        go_wp2
        go_roundw
        case rel => exact ⟨k + 1, k + 1, n + 1, Q ++ [((numsOf s).take k).drop fr], by go_num, by go_num, Nat.le_refl _, by rw [Hlen.out]; omega, by omega, by rw [HQ.out, HS.out]; simp, (fun j h1 h2 => by omega), by rw [List.length_append, HQn.out]; rfl, hown2, hb2⟩
        case measure => simp [intOf]; omega
      · have hd : ((s[k].toNat : Int) == 46) = false := by rw [beq_eq_false_iff_ne]; omega
        have HN : Hid (∀ j, fr ≤ j → j < k + 1 → (numsOf s).getD j 0 ≠ 46) := fun j h1 hj => by
          rcases Nat.lt_or_eq_of_le (Nat.le_of_lt_succ hj) with h | h
          · exact Hno.out j h1 h
          · rw [h, hX.out]; exact h46
        clear h46
        go_wp2
        go_roundw
        case rel => exact ⟨k + 1, fr, n, Q, by go_num, rfl, by omega, by rw [Hlen.out]; omega, by omega, HQ.out, HN.out, HQn.out, hown, hb⟩
        case measure => simp [intOf]; omega
    · obtain rfl : k = s.size := by omega
      have hd : decide ((s.size : Int) < (s.size : Int)) = false := by simp
      have HS : Hid (Uq.parts 46 (numsOf s) = Q ++ [(numsOf s).drop fr]) := by
        unfold Hid
        rw [HQ.out]
        have := Uq.seg_free Hno.out (by rw [Hlen.out]; exact Nat.le_refl _)
        rw [List.take_of_length_le (by rw [Hlen.out]; exact Nat.le_refl _)] at this
        rw [Uq.parts_free this]
      have c1 : (0 : Int) ≤ (fr : Int) := by omega
      have c2 : (fr : Int) ≤ (s.size : Int) := by omega
      repeat ((fail_if_success (with_reducible show wpList _ _ _ (⟨some 33, _, _, _, _, _⟩ :: _) _ _)); first | go_values | go_skip | go_guarded | go_step | go_upon | go_back | go_simp)
      with_reducible refine append_row rfl (.tmp 28) (.tmp 32) 50 9 (.string ByteArray.empty) 1 16 rfl Tryd.underlying50 infoText rfl (by decide) w.heap.size _ n _ ⟨wr.heap.size, 0, none⟩ 1 1 [.string (s.extract fr s.size)] (hown.alloc _) ?d1 ?d2 ?d3 ?d4 ?d5 ?d6 ?d7 ?d8 ?_
      case d1 => rfl
      case d2 => exact fun j u hj => new_cells wr _ _ j u hj
      case d3 => exact text_one _
      case d4 => rfl
      case d5 => rfl
      case d6 => omega
      case d7 => omega
      case d8 => have := hb.size; simp; omega
      intro v2 w2 hown2 hgr2
      have hb2 : Below w.heap.size w w2 := (hb.alloc hb.size _).grown hgr2 (by have := hb.size; simp; omega) (own_ge hown)
      have eX : strOf ((numsOf s).drop fr) = s.extract fr s.size := by rw [← nums_from, strOf_numsOf]
      rw [← eX, ← tcells_snoc, ← HS.out] at hown2
      obtain ⟨A2, cap2, rfl⟩ := own_slice hown2
      have hrow := Row.own hown2
      have hl : (Uq.parts 46 (numsOf s)).length = n + 1 := by rw [HS.out, List.length_append, HQn.out]; rfl
      have Hl := Lib.hid hl
      clear hgr2 hown hb eX hown2 hl
      go_frame
      go_wp2
      go_ret
      exact ⟨A2, cap2, by rw [Hl.out]; rfl, hrow, hb2⟩


theorem host_no {S : List Nat} (h : ¬ Uq.HostOk S) : Uq.hostOk S = false := decide_eq_false h
theorem getD_part {P : List (List Nat)} {k : Nat} (h : k < P.length) : P.getD k [] ∈ P := by
  rw [List.getD_eq_getElem?_getD, List.getElem?_eq_getElem h]
  exact List.getElem_mem _
theorem all_part {P : List (List Nat)} {k : Nat} {p : List Nat → Prop} (h : ∀ j, j < k → p (P.getD j [])) (hk : P.length ≤ k) : ∀ c ∈ P, p c := by
  intro c hc
  obtain ⟨j, hj, rfl⟩ := List.getElem_of_mem hc
  have := h j (by omega)
  rwa [List.getD_eq_getElem?_getD, List.getElem?_eq_getElem hj] at this
/-- What is known of the names of a host. -/
theorem names_fine (s : ByteArray) (F : List Nat) (hF : ∀ x ∈ F, x ∈ numsOf s) (hl : F.length ≤ s.size) : ∀ p ∈ Uq.parts 46 F, p.length ≤ s.size ∧ ∀ x ∈ p, x < 256 := fun p hp => by
  obtain ⟨h1, h2⟩ := Uq.parts_mem hp
  exact ⟨by omega, fun x hx => numsOf_lt s x (hF x (h2 x hx))⟩

set_option maxHeartbeats 2000000 in
set_option maxRecDepth 100000 in
theorem rightHost_any (s : ByteArray) (hs : s.size ≤ 4096) (w : World) (hH : Held w) :
    Calls Tryd.prog 23 #[.string s] w fun e w' => e = .returned (.bool (Uq.hostOk (numsOf s))) ∧ Below w.heap.size w w' := by
  have Hlen := Lib.hid (numsOf_length s)
  by_cases hlong : 253 < s.size
  · have hd : decide ((253 : Int) < (s.size : Int)) = true := decide_eq_true (by omega)
    have HE : Hid (Uq.hostOk (numsOf s) = false) := host_no fun h => by have := h.1; rw [Hlen.out] at this; omega
    clear hH
    go_enter Tryd.func23, Tryd.ntmps23
    go_wp2
    go_ret
    exact ⟨ret_bool HE.out.symm, Below.refl _ _⟩
  · have hd : decide ((253 : Int) < (s.size : Int)) = false := decide_eq_false (by omega)
    have hC := cutB_any 58 s w hs
    have hlt := numsOf_lt s
    have hfl := Uq.front_le 58 (numsOf s)
    have HY : Hid (((Uq.front 58 (numsOf s)).length < (numsOf s).length → Uq.numOk (Uq.behind 58 (numsOf s)) = true) → (∀ p ∈ Uq.parts 46 (Uq.front 58 (numsOf s)), Uq.nameOk p = true) → Uq.hostOk (numsOf s) = true) := fun h1 h2 => decide_eq_true ⟨by rw [Hlen.out]; omega, h1, h2⟩
    have HN1 : Hid ((Uq.front 58 (numsOf s)).length < (numsOf s).length → Uq.numOk (Uq.behind 58 (numsOf s)) = false → Uq.hostOk (numsOf s) = false) := fun h1 h2 => host_no fun h => by
      have := h.2.1 h1
      rw [h2] at this
      cases this
    have HN2 : Hid (∀ p ∈ Uq.parts 46 (Uq.front 58 (numsOf s)), Uq.nameOk p = false → Uq.hostOk (numsOf s) = false) := fun p hp h2 => host_no fun h => by
      have := h.2.2 p hp
      rw [h2] at this
      cases this
    have HF := Lib.hid (names_fine s (Uq.front 58 (numsOf s)) (fun x hx => Uq.front_mem hx) (by rw [Hlen.out] at hfl; exact hfl))
    have hfx : ∀ x ∈ Uq.front 58 (numsOf s), x < 256 := fun x hx => hlt x (Uq.front_mem hx)
    have hbx : ∀ x ∈ Uq.behind 58 (numsOf s), x < 256 := drop_lt hlt _
    have hbl : (Uq.behind 58 (numsOf s)).length ≤ 4096 := by unfold Uq.behind; rw [List.length_drop, Hlen.out]; omega
    rw [Hlen.out] at hfl
    have c58 : (58 : UInt8).toNat = 58 := rfl
    unfold CutEndB at hC
    rw [c58] at hC
    obtain ⟨N, eN⟩ : ∃ N, Uq.front 58 (numsOf s) = N := ⟨_, rfl⟩
    obtain ⟨B, eB⟩ : ∃ B, Uq.behind 58 (numsOf s) = B := ⟨_, rfl⟩
    rw [eN] at HY HN1 HN2 HF hC hfx hfl
    rw [eB] at HY HN1 hC hbx hbl
    rw [Hlen.out] at HY HN1 hC
    clear eN eB hlt c58
    have hPt := fun w h => rightPort_any (strOf B) (by rw [strOf_size]; exact hbl) w h
    rw [numsOf_strOf hbx] at hPt
    have hSp := fun w => splitB_any 46 (strOf N) w (by rw [strOf_size]; omega)
    rw [numsOf_strOf hfx] at hSp
    have c46 : (46 : UInt8).toNat = 46 := rfl
    rw [c46] at hSp
    have HP := Lib.hid hPt
    have HS := Lib.hid hSp
    have HH := Lib.hid hH
    clear hPt hSp hH hbx hbl hfx
    go_enter Tryd.func23, Tryd.ntmps23
    go_wp2_with fail
    refine hC.mono ?_
    rintro e w1 ⟨rfl, hb1⟩
    clear hC
    have HH1 := Lib.hid (HH.out.below hb1)
    by_cases hc : N.length < s.size
    · rw [decide_eq_true hc]
      have hPo := HP.out w1 HH1.out
      cases hnum : Uq.numOk B with
      | false =>
        rw [hnum] at hPo
        have HE := Lib.hid (HN1.out hc hnum)
        clear hnum
        go_wp2_with fail
        refine hPo.mono ?_
        rintro e w2 ⟨rfl, hb2⟩
        have hb02 := hb1.trans (hb2.mono hb1.size)
        clear hPo hb1 hb2
        go_wp2
        go_ret
        exact ⟨ret_bool HE.out.symm, hb02⟩
      | true =>
        rw [hnum] at hPo
        have HY' := Lib.hid (HY.out fun _ => hnum)
        clear hnum
        go_wp2_with fail
        refine hPo.mono ?_
        rintro e w2 ⟨rfl, hb2⟩
        have hb02 := hb1.trans (hb2.mono hb1.size)
        clear hPo hb1 hb2
        have hS := HS.out w2
        go_wp2_with fail
        refine hS.mono ?_
        rintro e w3 ⟨rfl, hL3, hb3⟩
        have hb03 := hb02.trans (hb3.mono hb02.size)
        clear hS hb02 hb3
        have hnp := Uq.parts_pos 46 N
        have hnb := Uq.parts_length_le 46 N
        obtain ⟨P, eP⟩ : ∃ P, Uq.parts 46 N = P := ⟨_, rfl⟩
        rw [eP] at HY' HN2 HF hL3 hnp hnb ⊢
        clear eP
        obtain ⟨n, en⟩ : ∃ n, P.length = n := ⟨_, rfl⟩
        have Hn := Lib.hid en
        rw [en] at hnp hnb ⊢
        clear en HS HP HN1 HY HH HH1 hd hlong
        go_wp2_with fail
        go_loop [26] (fun i => ∃ k : Nat, i = .int .i64 k ∧ k ≤ n ∧ ∀ j, j < k → Uq.nameOk (P.getD j []) = true) (fun i => n - (intOf i).toNat)
        case atStart => exact ⟨0, rfl, Nat.zero_le _, fun j hj => by omega⟩
        case round =>
          obtain ⟨k, rfl, hk, hno⟩ := hrel
          have Hno := Lib.hid hno
          clear hno
          by_cases hlt : k < n
          · have hcell : w3.cell? ⟨w2.heap.size, k, none⟩ = some (.string (strOf (P.getD k []))) := by rw [hL3.cell]; exact tcells_at P k (by rw [Hn.out]; exact hlt)
            have hmem := getD_part (P := P) (k := k) (by rw [Hn.out]; exact hlt)
            have hpp := rightName_any (strOf (P.getD k [])) (by rw [strOf_size]; have := (HF.out _ hmem).1; omega) w3
            rw [numsOf_strOf (HF.out _ hmem).2] at hpp
            have HB := Lib.hid (HN2.out _ hmem)
            have HN := Lib.hid (fun (h : Uq.nameOk (P.getD k []) = true) (j : Nat) (hj : j < k + 1) => show Uq.nameOk (P.getD j []) = true by
              rcases Nat.lt_or_eq_of_le (Nat.le_of_lt_succ hj) with h' | h'
              · exact Hno.out j h'
              · rw [h']; exact h)
            obtain ⟨q, eq⟩ : ∃ q, strOf (P.getD k []) = q := ⟨_, rfl⟩
            rw [eq] at hcell hpp
            clear hmem eq
            cases hq : Uq.nameOk (P.getD k []) with
            | true =>
              rw [hq] at hpp
              have HQ := Lib.hid (HN.out hq)
              clear hq
              go_wp2_with fail
              refine hpp.mono ?_
              rintro e w4 ⟨rfl, rfl⟩
              clear hpp
              go_wp2
              go_round
              case rel => exact ⟨k + 1, by go_num, by omega, HQ.out⟩
              case measure => simp [intOf]; omega
            | false =>
              rw [hq] at hpp
              have HQ := Lib.hid (HB.out hq)
              clear hq
              go_wp2_with fail
              refine hpp.mono ?_
              rintro e w4 ⟨rfl, rfl⟩
              clear hpp
              go_wp2
              go_ret
              exact ⟨ret_bool HQ.out.symm, hb03⟩
          · obtain rfl : k = n := by omega
            have hd3 : decide ((k : Int) < (k : Int)) = false := by simp
            have HE := Lib.hid (HY'.out (all_part (p := fun q => Uq.nameOk q = true) Hno.out (by rw [Hn.out]; exact Nat.le_refl _)))
            go_wp2
            go_ret
            exact ⟨ret_bool HE.out.symm, hb03⟩
    · rw [decide_eq_false hc]
      have HY' := Lib.hid (HY.out fun h => absurd h hc)
      have hS := HS.out w1
      go_wp2_with fail
      refine hS.mono ?_
      rintro e w3 ⟨rfl, hL3, hb3⟩
      have hb03 := hb1.trans (hb3.mono hb1.size)
      clear hS hb1 hb3
      have hnp := Uq.parts_pos 46 N
      have hnb := Uq.parts_length_le 46 N
      obtain ⟨P, eP⟩ : ∃ P, Uq.parts 46 N = P := ⟨_, rfl⟩
      rw [eP] at HY' HN2 HF hL3 hnp hnb ⊢
      clear eP
      obtain ⟨n, en⟩ : ∃ n, P.length = n := ⟨_, rfl⟩
      have Hn := Lib.hid en
      rw [en] at hnp hnb ⊢
      clear en HS HP HN1 HY HH HH1 hd hlong
      go_wp2_with fail
      go_loop [26] (fun i => ∃ k : Nat, i = .int .i64 k ∧ k ≤ n ∧ ∀ j, j < k → Uq.nameOk (P.getD j []) = true) (fun i => n - (intOf i).toNat)
      case atStart => exact ⟨0, rfl, Nat.zero_le _, fun j hj => by omega⟩
      case round =>
        obtain ⟨k, rfl, hk, hno⟩ := hrel
        have Hno := Lib.hid hno
        clear hno
        by_cases hlt : k < n
        · have hcell : w3.cell? ⟨w1.heap.size, k, none⟩ = some (.string (strOf (P.getD k []))) := by rw [hL3.cell]; exact tcells_at P k (by rw [Hn.out]; exact hlt)
          have hmem := getD_part (P := P) (k := k) (by rw [Hn.out]; exact hlt)
          have hpp := rightName_any (strOf (P.getD k [])) (by rw [strOf_size]; have := (HF.out _ hmem).1; omega) w3
          rw [numsOf_strOf (HF.out _ hmem).2] at hpp
          have HB := Lib.hid (HN2.out _ hmem)
          have HN := Lib.hid (fun (h : Uq.nameOk (P.getD k []) = true) (j : Nat) (hj : j < k + 1) => show Uq.nameOk (P.getD j []) = true by
            rcases Nat.lt_or_eq_of_le (Nat.le_of_lt_succ hj) with h' | h'
            · exact Hno.out j h'
            · rw [h']; exact h)
          obtain ⟨q, eq⟩ : ∃ q, strOf (P.getD k []) = q := ⟨_, rfl⟩
          rw [eq] at hcell hpp
          clear hmem eq
          cases hq : Uq.nameOk (P.getD k []) with
          | true =>
            rw [hq] at hpp
            have HQ := Lib.hid (HN.out hq)
            clear hq
            go_wp2_with fail
            refine hpp.mono ?_
            rintro e w4 ⟨rfl, rfl⟩
            clear hpp
            go_wp2
            go_round
            case rel => exact ⟨k + 1, by go_num, by omega, HQ.out⟩
            case measure => simp [intOf]; omega
          | false =>
            rw [hq] at hpp
            have HQ := Lib.hid (HB.out hq)
            clear hq
            go_wp2_with fail
            refine hpp.mono ?_
            rintro e w4 ⟨rfl, rfl⟩
            clear hpp
            go_wp2
            go_ret
            exact ⟨ret_bool HQ.out.symm, hb03⟩
        · obtain rfl : k = n := by omega
          have hd3 : decide ((k : Int) < (k : Int)) = false := by simp
          have HE := Lib.hid (HY'.out (all_part (p := fun q => Uq.nameOk q = true) Hno.out (by rw [Hn.out]; exact Nat.le_refl _)))
          go_wp2
          go_ret
          exact ⟨ret_bool HE.out.symm, hb03⟩
set_option maxHeartbeats 2000000 in
set_option maxRecDepth 100000 in
theorem refHost_any (s : ByteArray) (hs : s.size ≤ 4096) (w : World) :
    Calls Tryd.prog 25 #[.string s] w fun e w' => e = .returned (.bool (Uq.hostOk (numsOf s))) ∧ Below w.heap.size w w' := by
  have Hlen := Lib.hid (numsOf_length s)
  by_cases hlong : 253 < s.size
  · have hd : decide ((253 : Int) < (s.size : Int)) = true := decide_eq_true (by omega)
    have HE : Hid (Uq.hostOk (numsOf s) = false) := host_no fun h => by have := h.1; rw [Hlen.out] at this; omega
    go_enter Tryd.func25, Tryd.ntmps25
    go_wp2
    go_ret
    exact ⟨ret_bool HE.out.symm, Below.refl _ _⟩
  · have hd : decide ((253 : Int) < (s.size : Int)) = false := decide_eq_false (by omega)
    go_enter Tryd.func25, Tryd.ntmps25
    go_wp2_with fail
    clear hd
    go_loop [3] (fun i => ∃ k : Nat, i = .int .i64 k ∧ k ≤ s.size ∧ ∀ j, j < k → (numsOf s).getD j 0 ≠ 58) (fun i => s.size - (intOf i).toNat)
    case atStart => exact ⟨0, rfl, Nat.zero_le _, fun j hj => by omega⟩
    case round =>
      obtain ⟨k, rfl, hk, hno⟩ := hrel
      have Hno := Lib.hid hno
      clear hno
      by_cases hlt : k < s.size
      · have hX := Lib.hid (nums_at s k hlt)
        by_cases h58 : s[k].toNat = 58
        · have hd1 : ((s[k].toNat : Int) != 58) = false := by simp; omega
          have hd2 : ((s[k].toNat : Int) == 58) = true := by rw [beq_iff_eq]; omega
          have hdl : decide ((k : Int) < (s.size : Int)) = true := decide_eq_true (by omega)
          obtain ⟨e1, e2⟩ := Uq.front_at Hno.out (by rw [Hlen.out]; exact hlt) (by rw [hX.out]; exact h58)
          have hfl : (Uq.front 58 (numsOf s)).length < (numsOf s).length := by rw [e1, List.length_take, Hlen.out]; omega
          have HYes : Hid (Uq.numOk ((numsOf s).drop (k + 1)) = true → (∀ p ∈ Uq.parts 46 ((numsOf s).take k), Uq.nameOk p = true) → Uq.hostOk (numsOf s) = true) := fun h1 h2 => decide_eq_true ⟨by rw [Hlen.out]; omega, fun _ => by rw [e2]; exact h1, by rw [e1]; exact h2⟩
          have HN1 : Hid (Uq.numOk ((numsOf s).drop (k + 1)) = false → Uq.hostOk (numsOf s) = false) := fun h2 => host_no fun h => by
            have := h.2.1 hfl
            rw [e2, h2] at this
            cases this
          have HN2 : Hid (∀ p ∈ Uq.parts 46 ((numsOf s).take k), Uq.nameOk p = false → Uq.hostOk (numsOf s) = false) := fun p hp h2 => host_no fun h => by
            have := h.2.2 p (by rw [e1]; exact hp)
            rw [h2] at this
            cases this
          have HF := Lib.hid (names_fine s ((numsOf s).take k) (fun x hx => List.mem_of_mem_take hx) (by rw [List.length_take, Hlen.out]; omega))
          have hnb := Uq.parts_length_le 46 ((numsOf s).take k)
          rw [List.length_take, Hlen.out] at hnb
          have hNum := fun w => refNumber_any (s.extract (k + 1) s.size) (by rw [ByteArray.size_extract]; omega) w
          have hPts := fun w => refPartsDot_any (s.extract 0 k) w (by rw [ByteArray.size_extract]; omega)
          rw [nums_from] at hNum
          rw [nums_to] at hPts
          have c1 : (0 : Int) ≤ ↑k := by omega
          have c2 : (↑k : Int) ≤ ↑s.size := by omega
          have c3 : (0 : Int) ≤ ↑k + 1 := by omega
          have c4 : (↑k + 1 : Int) ≤ ↑s.size := by omega
          clear h58 e1 e2 hfl Hno
          cases hnum : Uq.numOk ((numsOf s).drop (k + 1)) with
          | false =>
            rw [hnum] at hNum
            have HE := Lib.hid (HN1.out hnum)
            clear hnum hPts
            go_wp2_with fail
            refine (hNum _).mono ?_
            rintro e w2 ⟨rfl, rfl⟩
            clear hNum
            go_wp2
            go_ret
            exact ⟨ret_bool HE.out.symm, Below.refl _ _⟩
          | true =>
            rw [hnum] at hNum
            have HY' := Lib.hid (HYes.out hnum)
            clear hnum
            go_wp2_with fail
            refine (hNum _).mono ?_
            rintro e w2 ⟨rfl, rfl⟩
            clear hNum
            obtain ⟨P, eP⟩ : ∃ P, Uq.parts 46 ((numsOf s).take k) = P := ⟨_, rfl⟩
            rw [eP] at HY' HN2 HF hnb
            simp only [eP] at hPts
            clear eP HN1 HYes
            have hPt := hPts w
            clear hPts
            go_wp2_with fail
            refine hPt.mono ?_
            rintro e w3 ⟨A, c, rfl, hrow, hb03⟩
            clear hPt
            obtain ⟨n, en⟩ : ∃ n, P.length = n := ⟨_, rfl⟩
            have Hn := Lib.hid en
            rw [en] at hnb ⊢
            clear en hdl
            go_wp2_with fail
            go_loop [5] (fun i => ∃ m : Nat, i = .int .i64 m ∧ m ≤ n ∧ ∀ j, j < m → Uq.nameOk (P.getD j []) = true) (fun i => n - (intOf i).toNat)
            case atStart => exact ⟨0, rfl, Nat.zero_le _, fun j hj => by omega⟩
            case round =>
              obtain ⟨m, rfl, hm, hno⟩ := hrel
              have Hno := Lib.hid hno
              clear hno
              by_cases hmn : m < n
              · obtain ⟨bk, off, rfl, hbk, hcs⟩ := hrow (by rw [tcells, List.length_map, Hn.out]; omega)
                have hcell : w3.cell? ⟨bk, off + m, none⟩ = some (.string (strOf (P.getD m []))) := hcs m _ (tcells_at P m (by rw [Hn.out]; exact hmn))
                have hmem := getD_part (P := P) (k := m) (by rw [Hn.out]; exact hmn)
                have hpp := refName_any (strOf (P.getD m [])) (by rw [strOf_size]; have := (HF.out _ hmem).1; omega) w3
                rw [numsOf_strOf (HF.out _ hmem).2] at hpp
                have HB := Lib.hid (HN2.out _ hmem)
                have HN := Lib.hid (fun (h : Uq.nameOk (P.getD m []) = true) (j : Nat) (hj : j < m + 1) => show Uq.nameOk (P.getD j []) = true by
                  rcases Nat.lt_or_eq_of_le (Nat.le_of_lt_succ hj) with h' | h'
                  · exact Hno.out j h'
                  · rw [h']; exact h)
                obtain ⟨q, eq⟩ : ∃ q, strOf (P.getD m []) = q := ⟨_, rfl⟩
                rw [eq] at hcell hpp
                clear hmem eq hcs
                cases hq : Uq.nameOk (P.getD m []) with
                | true =>
                  rw [hq] at hpp
                  have HQ := Lib.hid (HN.out hq)
                  clear hq
                  go_wp2_with fail
                  refine hpp.mono ?_
                  rintro e w4 ⟨rfl, rfl⟩
                  clear hpp
                  go_wp2
                  go_round
                  case rel => exact ⟨m + 1, by go_num, by omega, HQ.out⟩
                  case measure => simp [intOf]; omega
                | false =>
                  rw [hq] at hpp
                  have HQ := Lib.hid (HB.out hq)
                  clear hq
                  go_wp2_with fail
                  refine hpp.mono ?_
                  rintro e w4 ⟨rfl, rfl⟩
                  clear hpp
                  go_wp2
                  go_ret
                  exact ⟨ret_bool HQ.out.symm, hb03⟩
              · obtain rfl : m = n := by omega
                have hd3 : decide ((m : Int) < (m : Int)) = false := by simp
                have HE := Lib.hid (HY'.out (all_part (p := fun q => Uq.nameOk q = true) Hno.out (by rw [Hn.out]; exact Nat.le_refl _)))
                go_wp2
                go_ret
                exact ⟨ret_bool HE.out.symm, hb03⟩
        · have hd1 : ((s[k].toNat : Int) != 58) = true := by simp; omega
          have hd2 : ((s[k].toNat : Int) == 58) = false := by rw [beq_eq_false_iff_ne]; omega
          have HN : Hid (∀ j, j < k + 1 → (numsOf s).getD j 0 ≠ 58) := fun j hj => by
            rcases Nat.lt_or_eq_of_le (Nat.le_of_lt_succ hj) with h | h
            · exact Hno.out j h
            · rw [h, hX.out]; exact h58
          clear h58
          go_wp2
          go_round
          case rel => exact ⟨k + 1, by go_num, by omega, HN.out⟩
          case measure => simp [intOf]; omega
      · obtain rfl : k = s.size := by omega
        have hdl : decide ((s.size : Int) < (s.size : Int)) = false := by simp
        obtain ⟨e1, _⟩ := Uq.front_out (S := numsOf s) (b := 58) (fun j hj => Hno.out j (by rw [Hlen.out] at hj; exact hj))
        have HY' : Hid ((∀ p ∈ Uq.parts 46 (numsOf s), Uq.nameOk p = true) → Uq.hostOk (numsOf s) = true) := fun h2 => decide_eq_true ⟨by rw [Hlen.out]; omega, fun h => by rw [e1] at h; exact absurd h (Nat.lt_irrefl _), by rw [e1]; exact h2⟩
        have HN2 : Hid (∀ p ∈ Uq.parts 46 (numsOf s), Uq.nameOk p = false → Uq.hostOk (numsOf s) = false) := fun p hp h2 => host_no fun h => by
          have := h.2.2 p (by rw [e1]; exact hp)
          rw [h2] at this
          cases this
        have HF := Lib.hid (names_fine s (numsOf s) (fun x hx => hx) (by rw [Hlen.out]; exact Nat.le_refl _))
        have hnb := Uq.parts_length_le 46 (numsOf s)
        rw [Hlen.out] at hnb
        have hPt := refPartsDot_any s w hs
        obtain ⟨P, eP⟩ : ∃ P, Uq.parts 46 (numsOf s) = P := ⟨_, rfl⟩
        rw [eP] at HY' HN2 HF hnb
        simp only [eP] at hPt
        clear eP e1 Hno
        go_wp2_with fail
        refine hPt.mono ?_
        rintro e w3 ⟨A, c, rfl, hrow, hb03⟩
        clear hPt
        obtain ⟨n, en⟩ : ∃ n, P.length = n := ⟨_, rfl⟩
        have Hn := Lib.hid en
        rw [en] at hnb ⊢
        clear en hdl
        go_wp2_with fail
        go_loop [5] (fun i => ∃ m : Nat, i = .int .i64 m ∧ m ≤ n ∧ ∀ j, j < m → Uq.nameOk (P.getD j []) = true) (fun i => n - (intOf i).toNat)
        case atStart => exact ⟨0, rfl, Nat.zero_le _, fun j hj => by omega⟩
        case round =>
          obtain ⟨m, rfl, hm, hno⟩ := hrel
          have Hno := Lib.hid hno
          clear hno
          by_cases hmn : m < n
          · obtain ⟨bk, off, rfl, hbk, hcs⟩ := hrow (by rw [tcells, List.length_map, Hn.out]; omega)
            have hcell : w3.cell? ⟨bk, off + m, none⟩ = some (.string (strOf (P.getD m []))) := hcs m _ (tcells_at P m (by rw [Hn.out]; exact hmn))
            have hmem := getD_part (P := P) (k := m) (by rw [Hn.out]; exact hmn)
            have hpp := refName_any (strOf (P.getD m [])) (by rw [strOf_size]; have := (HF.out _ hmem).1; omega) w3
            rw [numsOf_strOf (HF.out _ hmem).2] at hpp
            have HB := Lib.hid (HN2.out _ hmem)
            have HN := Lib.hid (fun (h : Uq.nameOk (P.getD m []) = true) (j : Nat) (hj : j < m + 1) => show Uq.nameOk (P.getD j []) = true by
              rcases Nat.lt_or_eq_of_le (Nat.le_of_lt_succ hj) with h' | h'
              · exact Hno.out j h'
              · rw [h']; exact h)
            obtain ⟨q, eq⟩ : ∃ q, strOf (P.getD m []) = q := ⟨_, rfl⟩
            rw [eq] at hcell hpp
            clear hmem eq hcs
            cases hq : Uq.nameOk (P.getD m []) with
            | true =>
              rw [hq] at hpp
              have HQ := Lib.hid (HN.out hq)
              clear hq
              go_wp2_with fail
              refine hpp.mono ?_
              rintro e w4 ⟨rfl, rfl⟩
              clear hpp
              go_wp2
              go_round
              case rel => exact ⟨m + 1, by go_num, by omega, HQ.out⟩
              case measure => simp [intOf]; omega
            | false =>
              rw [hq] at hpp
              have HQ := Lib.hid (HB.out hq)
              clear hq
              go_wp2_with fail
              refine hpp.mono ?_
              rintro e w4 ⟨rfl, rfl⟩
              clear hpp
              go_wp2
              go_ret
              exact ⟨ret_bool HQ.out.symm, hb03⟩
          · obtain rfl : m = n := by omega
            have hd3 : decide ((m : Int) < (m : Int)) = false := by simp
            have HE := Lib.hid (HY'.out (all_part (p := fun q => Uq.nameOk q = true) Hno.out (by rw [Hn.out]; exact Nat.le_refl _)))
            go_wp2
            go_ret
            exact ⟨ret_bool HE.out.symm, hb03⟩

end Go.Proofs.YtejmkijnngkoaaaDoor
