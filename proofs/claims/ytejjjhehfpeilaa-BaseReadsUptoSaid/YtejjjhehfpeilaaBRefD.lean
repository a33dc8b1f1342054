/-
  The contract of the document's own Decode.
-/
import Derived.Test.YtejjjhehfpeilaaBRefE
namespace Go.Proofs.Ytejjjhehfpeilaa
open Go.RowKit

theorem bits6_take (x k : Nat) (hk : k < 6) : (B64.bits6 x).take (k + 1) = (B64.bits6 x).take k ++ [x / 2 ^ (5 - k) % 2] := by
  have hl : k < (B64.bits6 x).length := by rw [B64.bits6_length]; exact hk
  rw [List.take_succ_eq_append_getElem hl]
  congr 2
  simp [B64.bits6]
theorem bitsV_next (q : List Nat) (k : Nat) (hk : k < q.length) : B64.bitsV (q.take (k + 1)) = B64.bitsV (q.take k) ++ B64.bits6 (B64.val (q.getD k 0)) := by
  rw [List.take_succ_eq_append_getElem hk, B64.bitsV_append]
  simp [B64.bitsV, List.getD_eq_getElem?_getD, List.getElem?_eq_getElem hk]

/-- The six weights, as the document's Decode lays them. -/
abbrev six : List Nat := [32, 16, 8, 4, 2, 1]
theorem six_at (j : Nat) (h : j < 6) : six.getD j 0 = 2 ^ (5 - j) := by
  obtain rfl | rfl | rfl | rfl | rfl | rfl : j = 0 ∨ j = 1 ∨ j = 2 ∨ j = 3 ∨ j = 4 ∨ j = 5 := by omega
  all_goals rfl
/-- A row of bits is not the row of the weights. -/
theorem apart_six {w : World} {base n g : Nat} {v : Value} {X : List Nat} (h : w.ownsRow base 3 1 v n (i64s X)) (hL : Lies w g 3 (i64s six)) (hX : ∀ x ∈ X, x ≤ 1) (hn : 0 < n) : v.ownBlock ≠ some g := by
  intro e
  obtain ⟨b, cap, rfl⟩ := own_form h hn
  have hbg : b = g := by simpa [Value.ownBlock] using e
  subst hbg
  have hl : X.length = n := by have := h.1; rw [i64s_length] at this; omega
  rcases X with _ | ⟨x, X⟩
  · simp at hl; omega
  have h1 := h.cells (g := b) rfl 0 (.int .i64 (x : Int)) (by simp [i64s])
  rw [Addr.add_lit, Nat.zero_add, hL.cell 0] at h1
  have h2 : (Value.int .i64 ((32 : Nat) : Int)) = .int .i64 (x : Int) := Option.some.inj h1
  have h3 : ((32 : Nat) : Int) = (x : Int) := by simpa using h2
  have := hX x (by simp)
  omega

def RefD1 (S : List Nat) (w : World) (v i : Value) (wr : World) : Prop :=
  ∃ k N : Nat, k ≤ S.length ∧ N = 6 * k ∧ i = .int .i64 k ∧ wr.ownsRow w.heap.size 3 1 v N (i64s (B64.bitsV (S.take k))) ∧ (∀ j, j < k → B64.val (S.getD j 0) < 64) ∧ Below w.heap.size w wr
def RefD2 (S : List Nat) (w : World) (g k x : Nat) (v i : Value) (wr : World) : Prop :=
  ∃ j N : Nat, j ≤ 6 ∧ N = 6 * k + j ∧ i = .int .i64 j ∧ wr.ownsRow w.heap.size 3 1 v N (i64s (B64.bitsV (S.take k) ++ (B64.bits6 x).take j)) ∧ Below w.heap.size w wr ∧ Lies wr g 3 (i64s six) ∧ v.ownBlock ≠ some g
def RefD4 (L : List Nat) (w4 : World) (v i : Value) (wr : World) : Prop :=
  ∃ (I nT : Nat) (T : List Nat), I ≤ L.length ∧ i = .int .i64 I ∧ T.length = nT ∧ wr.ownsRow w4.heap.size 5 1 v nT (u8s T) ∧ (∀ x ∈ T, x < 256) ∧ T ++ B64.g8 (L.drop I) = B64.g8 L ∧ 8 * nT = I ∧ Below w4.heap.size w4 wr

set_option maxHeartbeats 2000000 in
set_option maxRecDepth 100000 in
theorem refDecode_any (s : ByteArray) (w : World) (hn : s.size ≤ 1048576) :
    Calls Try.prog 14 #[.string s] w fun e w' => DecEnd (numsOf s) w e w' := by
  have Hlen := Lib.hid (numsOf_length s)
  go_enter Try.func14, Try.ntmps14
  go_wp2_with fail
  go_loopw [4, 5] (fun v i wr => RefD1 (numsOf s) w v i wr) (fun _ i _ => s.size - (intOf i).toNat)
  case atStart => exact ⟨0, 0, Nat.zero_le _, rfl, rfl, World.ownsRow_nil _ _ _ _, (fun j hj => by omega), Below.refl _ _⟩
  case round =>
    obtain ⟨k, N, hk, hN, rfl, hown, hok, hb⟩ := hrel
    rw [Hlen.out] at hk
    have HN := Lib.hid hN
    have Hok := Lib.hid hok
    clear hN hok
    obtain ⟨wo, rfl⟩ : ∃ wo : World, wo = wr := ⟨_, rfl⟩
    by_cases hlt : k < s.size
    · have HX := Lib.hid (nums_at s k hlt)
      have hv64 := B64.val_le s[k].toNat
      have HB := Lib.hid (bitsV_next (numsOf s) k (by rw [Hlen.out]; exact hlt))
      rw [HX.out] at HB
      go_wp2_with fail
      refine (value_any s[k].toNat wo).mono ?_
      rintro e w' ⟨rfl, rfl⟩
      by_cases hbad : B64.val s[k].toNat < 64
      · have hd : (((B64.val s[k].toNat : Nat) : Int) == 64) = false := by rw [beq_eq_false_iff_ne]; omega
        obtain ⟨x, ex⟩ : ∃ x, B64.val s[k].toNat = x := ⟨_, rfl⟩
        rw [ex] at hbad hd HB hv64 ⊢
        have Hx := Lib.hid ex
        clear ex
        go_wp2_with fail
        have hob : ∀ g, some g = Value.ownBlock u4 → g < wo.heap.size := by
          intro g hg
          rcases hown.2 with ⟨rfl, _⟩ | ⟨b, cap, cur, rfl, _, hh, _⟩
          · simp [Value.ownBlock] at hg
          · simp [Value.ownBlock] at hg
            subst hg
            exact (Array.getElem?_eq_some_iff.1 hh).1
        have hown1 := hown.alloc (.cells (i64s six).toArray 3)
        have hb1 := hb.alloc hb.size (.cells (i64s six).toArray 3)
        have hL1 : Lies (wo.alloc (.cells (i64s six).toArray 3)) wo.heap.size 3 (i64s six) := Lies.made wo _ _
        have hne1 : Value.ownBlock u4 ≠ some wo.heap.size := fun e => Nat.lt_irrefl _ (hob _ e.symm)
        have Hin : Hid (RefD2 (numsOf s) w wo.heap.size k x u4 (.int .i64 0) (wo.alloc (.cells (i64s six).toArray 3))) :=
          ⟨0, N, Nat.zero_le _, by rw [HN.out]; rfl, rfl, by simpa using hown1, hb1, hL1, hne1⟩
        clear hob hown1 hb1 hL1 hne1 hown hb
        go_loopw [4, 27] (fun v i wr => RefD2 (numsOf s) w wo.heap.size k x v i wr) (fun _ i _ => 6 - (intOf i).toNat)
        case atStart => exact Hin.out
        case round =>
          clear Hin
          obtain ⟨j, M, hj, hM, rfl, hown, hb, hL, hne⟩ := hrel
          have HM := Lib.hid hM
          have hMb : M ≤ 6291462 := by omega
          clear hM
          by_cases hj6 : j < 6
          · have hd : decide ((j : Int) < 6) = true := decide_eq_true (by omega)
            have hc : wr.cell? ⟨wo.heap.size, j, none⟩ = some (.int .i64 (six.getD j 0 : Nat)) := by
              rw [hL.cell, i64s, List.getElem?_map, List.getElem?_eq_getElem (by simpa using hj6), List.getD_eq_getElem?_getD, List.getElem?_eq_getElem (by simpa using hj6)]
              rfl
            have hp := six_at j hj6
            have hp1 : 1 ≤ 2 ^ (5 - j) := Nat.two_pow_pos _
            have hp32 : 2 ^ (5 - j) ≤ 2 ^ 5 := Nat.pow_le_pow_right (by decide) (by omega)
            have HT := Lib.hid (bits6_take x j hj6)
            rw [hp] at hc
            obtain ⟨P, eP⟩ : ∃ P, 2 ^ (5 - j) = P := ⟨_, rfl⟩
            rw [eP] at hc hp1 hp32 HT
            have hP32 : P ≤ 32 := hp32
            have HD : Hid ((x : Int) / (P : Int) % 2 = ((x / P % 2 : Nat) : Int)) := by unfold Hid; simp
            have hdv : (x : Int) / (P : Int) ≤ 64 := Int.le_trans (Int.ediv_le_self _ (by omega)) (by omega)
            have hdv0 : (0 : Int) ≤ (x : Int) / (P : Int) := Int.ediv_nonneg (by omega) (by omega)
            have hPi : (0 : Int) < (P : Int) := by omega
            have hPz : ((P : Int) == 0) = false := by rw [beq_eq_false_iff_ne]; omega
            clear eP hp hp32
            go_upto_region 11 with (fail)
            repeat ((fail_if_success (with_reducible show wpList _ _ _ (⟨some 37, _, _, _, _, _⟩ :: _) _ _)); first | go_values | go_skip | go_guarded | go_step | go_upon | go_back | go_simp)
            with_reducible refine append_one rfl (.tmp 31) (.tmp 36) 32 3 (.int .i64 0) 8 rfl Try.underlying32 info3b rfl w.heap.size _ M _ wr.heap.size (.int .i64 ((x / P % 2 : Nat) : Int)) (hown.alloc _) ?c1 ?c2 ?c3 ?c4 ?c5 ?c6 ?c7 ?_
            case c1 => rw [← HD.out]; simp
            case c2 => rfl
            case c3 => rfl
            case c4 => rfl
            case c5 => omega
            case c6 => omega
            case c7 => have := hb.size; simp; omega
            intro v2 w2 hown2 hgr2
            have hb2 : Below w.heap.size w w2 := (hb.alloc hb.size _).grown hgr2 (by have := hb.size; simp; omega) (own_ge hown)
            have hL2 : Lies w2 wo.heap.size 3 (i64s six) := (hL.alloc _).grown hgr2 (fun e => hne e.symm)
            rw [i64s_snoc, List.append_assoc, ← HT.out] at hown2
            have hne2 := apart_six hown2 hL2 (fun y hy => by
              rcases List.mem_append.1 hy with hy | hy
              · exact B64.bitsV_le _ y hy
              · have hy := List.mem_of_mem_take hy
                simp only [B64.bits6, List.mem_map] at hy
                obtain ⟨t, _, rfl⟩ := hy
                omega) (Nat.succ_pos _)
            clear hgr2 hown hb hc hdv hdv0 hL hne
            go_frame
            go_wp2
            go_roundw
            case rel => exact ⟨j + 1, M + 1, by omega, by rw [HM.out]; rfl, by go_num, hown2, hb2, hL2, hne2⟩
            case measure => simp [intOf]; omega
          · obtain rfl : j = 6 := by omega
            have hd : decide (((6 : Nat) : Int) < 6) = false := by decide
            rw [show (B64.bits6 x).take 6 = B64.bits6 x from List.take_of_length_le (by rw [B64.bits6_length]; exact Nat.le_refl _), ← HB.out] at hown
            clear hL hne
            go_wp2
            go_roundw
            case rel =>
              refine ⟨k + 1, M, by rw [Hlen.out]; omega, by have := HM.out; omega, by go_num, hown, fun j hj => ?_, hb⟩
              rcases Nat.lt_or_eq_of_le (Nat.le_of_lt_succ hj) with h | h
              · exact Hok.out j h
              · rw [h, HX.out, Hx.out]; exact hbad
            case measure => simp [intOf]; omega
      · have hd : (((B64.val s[k].toNat : Nat) : Int) == 64) = true := by rw [beq_iff_eq]; omega
        have Hbad := Lib.hid hbad
        clear hbad
        go_wp2
        go_ret2
        refine .inr ⟨B64.refDec_bad (c := s[k].toNat) ?_ Hbad.out, rfl, hb⟩
        rw [← HX.out, List.getD_eq_getElem?_getD, List.getElem?_eq_getElem (by rw [Hlen.out]; exact hlt)]
        exact List.getElem_mem _
    · obtain rfl : k = s.size := by omega
      have hd : decide ((s.size : Int) < (s.size : Int)) = false := by simp
      rw [List.take_of_length_le (by rw [Hlen.out]; exact Nat.le_refl _)] at hown
      obtain ⟨A1, cap1, rfl⟩ := own_slice hown
      have hNb : N ≤ 6291456 := by have := HN.out; omega
      have HL : Hid ((B64.bitsV (numsOf s)).length = N) := by unfold Hid; rw [B64.bitsV_length, Hlen.out, HN.out]
      have Hle := Lib.hid (B64.bitsV_le (numsOf s))
      obtain ⟨L, eL⟩ : ∃ L, B64.bitsV (numsOf s) = L := ⟨_, rfl⟩
      rw [eL] at hown HL Hle
      have HeL := Lib.hid eL
      clear eL
      have HC := Lib.hid (row_cells hown)
      clear hown
      go_wp2_with fail
      go_loopw [9, 10] (fun v i wr => RefD4 L wo v i wr) (fun _ i _ => N - (intOf i).toNat)
      case atStart => exact ⟨0, 0, [], Nat.zero_le _, rfl, rfl, World.ownsRow_nil _ _ _ _, (fun x hx => by cases hx), rfl, rfl, Below.refl _ _⟩
      case round =>
        obtain ⟨I, nT, T, hI, rfl, hnT, hown, hT, hE, hI8, hb4⟩ := hrel
        rw [HL.out] at hI
        have HI8 := Lib.hid hI8
        have HnT := Lib.hid hnT
        have HT := Lib.hid hT
        have HE2 := Lib.hid hE
        have hnTb : nT ≤ 786432 := by omega
        clear hI8 hnT hT hE
        obtain ⟨wq, rfl⟩ : ∃ wq : World, wq = wr := ⟨_, rfl⟩
        by_cases hIM : I + 8 ≤ N
        · obtain ⟨g, hA1, hcell⟩ := HC.out (by omega)
          subst hA1
          have HC2 : Hid (∀ j, j < N → wq.cell? ⟨g, j, none⟩ = some (.int .i64 (L.getD j 0 : Nat))) := fun j hj => by
            have h0 := hcell j (by rw [HL.out]; exact hj)
            exact (hb4.cell (p := ⟨g, j, none⟩) (block_lt_of_cell h0)).trans h0
          have hbits : ∀ j, L.getD j 0 ≤ 1 := fun j => by
            rw [List.getD_eq_getElem?_getD]
            cases e : L[j]? with
            | none => simp
            | some x => exact Hle.out x (List.mem_of_getElem? e)
          have Hbits := Lib.hid hbits
          clear hcell hbits
          have hd8 : decide ((I : Int) + 8 ≤ (N : Int)) = true := decide_eq_true (by omega)
          go_wp2_with fail
          go_loop [11, 12] (fun n i => ∃ j m : Nat, j ≤ 8 ∧ i = .int .i64 j ∧ n = .int .i64 m ∧ m = B64.num ((L.drop I).take j) ∧ m < 2 ^ j) (fun _ i => 8 - (intOf i).toNat)
          case atStart => exact ⟨0, 0, Nat.zero_le _, rfl, rfl, by rw [List.take_zero]; rfl, by decide⟩
          case round =>
            obtain ⟨j, m, hj, rfl, rfl, hm, hm2⟩ := hrel
            have Hm := Lib.hid hm
            clear hm
            have hm64 : m ≤ 256 := Nat.le_of_lt (Nat.lt_of_lt_of_le hm2 (Nat.pow_le_pow_right (by decide) hj))
            by_cases hj6 : j < 8
            · have hd : decide ((j : Int) < 8) = true := decide_eq_true (by omega)
              have hc := HC2.out (I + j) (by omega)
              have hbt := Hbits.out (I + j)
              have HNX := Lib.hid (num_next L I j (by rw [HL.out]; omega))
              obtain ⟨x, ex⟩ : ∃ x, L.getD (I + j) 0 = x := ⟨_, rfl⟩
              rw [ex] at hc hbt HNX
              have hij : (I : Int) + (j : Int) < (N : Int) := by omega
              have hm2' := Lib.hid hm2
              clear ex hm2
              go_wp2
              go_round
              case rel =>
                refine ⟨j + 1, m * 2 + x, by omega, by go_num, by go_num, ?_, ?_⟩
                · rw [HNX.out, Hm.out]
                · have := hm2'.out; rw [Nat.pow_succ]; omega
              case measure => simp [intOf]; omega
            · obtain rfl : j = 8 := by omega
              have hd : decide (((8 : Nat) : Int) < 8) = false := by decide
              have hm256 : m < 256 := hm2
              have HST : Hid (T ++ B64.g8 (L.drop I) = (T ++ [m]) ++ B64.g8 (L.drop (I + 8))) := by
                unfold Hid
                rw [B64.g8_step (L.drop I) (by rw [List.length_drop, HL.out]; omega), ← Hm.out, List.drop_drop, List.append_assoc, Nat.mod_eq_of_lt hm256]
                rfl
              clear hm2
              go_upto_region 22 with (fail)
              repeat ((fail_if_success (with_reducible show wpList _ _ _ (⟨some 63, _, _, _, _, _⟩ :: _) _ _)); first | go_values | go_skip | go_guarded | go_step | go_upon | go_back | go_simp)
              with_reducible refine append_one rfl (.tmp 59) (.tmp 62) 22 5 (.int .u8 0) 1 rfl Try.underlying22 info5b rfl wo.heap.size _ nT _ wq.heap.size (.int .u8 (m : Int)) (hown.alloc _) ?d1 ?d2 ?d3 ?d4 ?d5 ?d6 ?d7 ?_
              case d1 => simp
              case d2 => rfl
              case d3 => rfl
              case d4 => rfl
              case d5 => omega
              case d6 => omega
              case d7 => have := hb4.size; simp; omega
              intro v2 w2 hown2 hgr2
              have hb2 : Below wo.heap.size wo w2 := (hb4.alloc hb4.size _).grown hgr2 (by have := hb4.size; simp; omega) (own_ge hown)
              rw [u8s_snoc] at hown2
              clear hgr2 hown hb4
              go_frame
              go_wp2
              go_roundw
              case rel =>
                refine ⟨I + 8, nT + 1, T ++ [m], by rw [HL.out]; omega, by go_num, by rw [List.length_append, HnT.out]; rfl, hown2, fun x hx => ?_, ?_, by have := HI8.out; omega, hb2⟩
                · rcases List.mem_append.1 hx with hx | hx
                  · exact HT.out x hx
                  · rw [List.mem_singleton] at hx; rw [hx]; exact hm256
                · rw [← HST.out, HE2.out]
              case measure => simp [intOf]; omega
        · have hd : decide ((I : Int) + 8 ≤ (N : Int)) = false := decide_eq_false (by omega)
          have hTe : T = B64.g8 (B64.bitsV (numsOf s)) := by
            have := HE2.out
            rw [B64.g8_end (L.drop I) (by rw [List.length_drop, HL.out]; omega), List.append_nil] at this
            rw [this, HeL.out]
          obtain ⟨A2, cap2, rfl⟩ := own_slice hown
          obtain ⟨hl2, ha2⟩ := own_arg hown HT.out
          have hbF : Below w.heap.size w wq := hb.trans (hb4.mono hb.size)
          have hRE := refEncode_any T A2 cap2 wq ha2 (by rw [hl2]; omega)
          rw [hl2] at hRE
          have Hl2 := Lib.hid hl2
          have HTe := Lib.hid hTe
          clear hl2 hTe hown hb4
          go_wp2_with fail
          refine hRE.mono ?_
          rintro e w5 ⟨rfl, hb5⟩
          have hb05 : Below w.heap.size w w5 := hbF.trans (hb5.mono hbF.size)
          have ha5 := ha2.below hb5 (Nat.le_refl _)
          clear hRE hbF hb5 ha2
          have hcmp : ((strOf (B64.enc T)).toList == s.toList) = decide (B64.enc T = numsOf s) := by
            have := str_beq (B64.enc_lt T) (numsOf_lt s)
            rwa [strOf_numsOf] at this
          by_cases hyes : B64.enc T = numsOf s
          · rw [decide_eq_true hyes] at hcmp
            have Hyes := Lib.hid hyes
            clear hyes
            go_wp2
            go_ret2
            have hI := B64.refDec_yes (s := numsOf s) (by rw [← HTe.out]; exact Hyes.out)
            rw [← HTe.out] at hI
            exact .inl ⟨T, A2, cap2, hI, by rw [Hl2.out]; rfl, ha5, hb05⟩
          · rw [decide_eq_false hyes] at hcmp
            have Hno := Lib.hid hyes
            clear hyes
            go_wp2
            go_ret2
            exact .inr ⟨B64.refDec_no (s := numsOf s) (by rw [← HTe.out]; exact Hno.out), rfl, hb05⟩
end Go.Proofs.Ytejjjhehfpeilaa
