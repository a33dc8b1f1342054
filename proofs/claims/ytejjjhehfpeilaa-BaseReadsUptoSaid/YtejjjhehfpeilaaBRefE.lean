/-
  The contract of the document's own Encode.
-/
import Derived.Test.YtejjjhehfpeilaaBRefV
namespace Go.Proofs.Ytejjjhehfpeilaa
open Go.RowKit

/-- Numbers as cells. -/
def i64s (l : List Nat) : List Value := l.map fun (x : Nat) => .int .i64 (x : Int)
theorem i64s_length (l : List Nat) : (i64s l).length = l.length := by simp [i64s]
theorem i64s_snoc (l : List Nat) (x : Nat) : i64s l ++ [.int .i64 (x : Int)] = i64s (l ++ [x]) := by simp [i64s]
theorem u8s_snoc (l : List Nat) (x : Nat) : u8s l ++ [.int .u8 (x : Int)] = u8s (l ++ [x]) := by simp [u8s]
theorem val_i64 {a b : Int} (h : a = b) : Value.int .i64 a = .int .i64 b := by rw [h]

theorem bits8_take (x k : Nat) (hk : k < 8) : (B64.bits8 x).take (k + 1) = (B64.bits8 x).take k ++ [x / 2 ^ (7 - k) % 2] := by
  have hl : k < (B64.bits8 x).length := by rw [B64.bits8_length]; exact hk
  rw [List.take_succ_eq_append_getElem hl]
  congr 2
  simp [B64.bits8]
theorem bitsB_next (q : List Nat) (k : Nat) (hk : k < q.length) : B64.bitsB (q.take (k + 1)) = B64.bitsB (q.take k) ++ B64.bits8 (q.getD k 0) := by
  rw [List.take_succ_eq_append_getElem hk, B64.bitsB, B64.bitsB, List.flatMap_append]
  simp [List.getD_eq_getElem?_getD, List.getElem?_eq_getElem hk]

theorem bit_int (x m : Nat) : (x : Int) / 2 ^ m % 2 = ((x / 2 ^ m % 2 : Nat) : Int) := by simp

/-- What holds at each round of the loops of the document's Encode. -/
def RefE1 (q : List Nat) (w : World) (v i : Value) (wr : World) : Prop :=
  ∃ k N : Nat, k ≤ q.length ∧ N = 8 * k ∧ i = .int .i64 k ∧ wr.ownsRow w.heap.size 3 1 v N (i64s (B64.bitsB (q.take k))) ∧ Below w.heap.size w wr
def RefE2 (q : List Nat) (w : World) (k : Nat) (v i : Value) (wr : World) : Prop :=
  ∃ j N : Nat, j ≤ 8 ∧ N = 8 * k + j ∧ i = .int .i64 (7 - (j : Int)) ∧ wr.ownsRow w.heap.size 3 1 v N (i64s (B64.bitsB (q.take k) ++ (B64.bits8 (q.getD k 0)).take j)) ∧ Below w.heap.size w wr

def RefE3 (q : List Nat) (w : World) (N : Nat) (v : Value) (wr : World) : Prop :=
  ∃ (j M : Nat) (A : Option Addr) (cap : Nat), j ≤ B64.padN N ∧ M = N + j ∧ v = .slice A M cap ∧ wr.ownsRow w.heap.size 3 1 (.slice A M cap) M (i64s (B64.bitsB q ++ List.replicate j 0)) ∧ Below w.heap.size w wr
theorem pad_test (N j : Nat) (_h : j ≤ B64.padN N) : (j = B64.padN N → (N + j) % 6 = 0) ∧ (j < B64.padN N → (N + j) % 6 ≠ 0) := by
  unfold B64.padN at *
  constructor <;> intro h <;> omega

def RefE4 (q L : List Nat) (w4 : World) (v i : Value) (wr : World) : Prop :=
  ∃ (I nT : Nat) (T : List Nat), I ≤ L.length ∧ I % 6 = 0 ∧ i = .int .i64 I ∧ T.length = nT ∧ wr.ownsRow w4.heap.size 5 1 v nT (u8s T) ∧ (∀ x ∈ T, x < 256) ∧ T ++ B64.g6 (L.drop I) = B64.enc q ∧ Below w4.heap.size w4 wr
theorem row_cells {w : World} {base M cap : Nat} {A : Option Addr} {L : List Nat} (h : w.ownsRow base 3 1 (.slice A M cap) M (i64s L)) : 0 < M → ∃ g, A = some ⟨g, 0, none⟩ ∧ ∀ j, j < L.length → w.cell? ⟨g, j, none⟩ = some (.int .i64 (L.getD j 0 : Nat)) := by
  intro hM
  obtain ⟨g, cap', e⟩ := own_form h hM
  have hA : A = some ⟨g, 0, none⟩ := by simpa using congrArg (fun v => match v with | Value.slice a _ _ => a | _ => none) e
  subst hA
  refine ⟨g, rfl, fun j hj => ?_⟩
  have hc := h.cells (g := g) rfl j (.int .i64 (L.getD j 0 : Nat)) (by simp [i64s, List.getElem?_eq_getElem hj, List.getD_eq_getElem?_getD])
  rw [Addr.add_lit, Nat.zero_add] at hc
  exact hc
theorem num_next (L : List Nat) (I j : Nat) (h : I + j < L.length) : B64.num ((L.drop I).take (j + 1)) = B64.num ((L.drop I).take j) * 2 + L.getD (I + j) 0 := by
  have hl : j < (L.drop I).length := by rw [List.length_drop]; omega
  rw [List.take_succ_eq_append_getElem hl, B64.num_snoc]
  simp [List.getD_eq_getElem?_getD, List.getElem?_eq_getElem h]

set_option maxHeartbeats 2000000 in
set_option maxRecDepth 100000 in
theorem refEncode_any (q : List Nat) (A : Option Addr) (c : Nat) (w : World) (hq : ArgIs w A c q) (hn : q.length ≤ 1048576) :
    Calls Try.prog 12 #[.slice A q.length c] w fun e w' => e = .returned (.string (strOf (B64.enc q))) ∧ Below w.heap.size w w' := by
  obtain ⟨l, hl⟩ : ∃ l, q.length = l := ⟨_, rfl⟩
  rw [hl] at hn ⊢
  have Hl := Lib.hid hl
  clear hl
  go_enter Try.func12, Try.ntmps12
  go_wp2_with fail
  go_loopw [3, 4] (fun v i wr => RefE1 q w v i wr) (fun _ i _ => l - (intOf i).toNat)
  case atStart => exact ⟨0, 0, Nat.zero_le _, rfl, rfl, World.ownsRow_nil _ _ _ _, Below.refl _ _⟩
  case round =>
    obtain ⟨k, N, hk, hN, rfl, hown, hb⟩ := hrel
    rw [Hl.out] at hk
    have HN := Lib.hid hN
    clear hN
    obtain ⟨wo, rfl⟩ : ∃ wo : World, wo = wr := ⟨_, rfl⟩
    by_cases hlt : k < l
    · have hx : q.getD k 0 < 256 := B64.getD_lt hq.2.2.1 k
      obtain ⟨b, off, rfl, hbw, hby⟩ := hq.2.2.2 (by rw [Hl.out]; omega)
      have hc0 : w.cell? ⟨b, off + k, none⟩ = some (.int .u8 (q.getD k 0 : Nat)) := hby.get (by rw [Hl.out]; exact hlt)
      have HB := Lib.hid (bitsB_next q k (by rw [Hl.out]; exact hlt))
      clear hby
      go_wp2_with fail
      go_loopw [3, 5] (fun v i wr => RefE2 q w k v i wr) (fun _ i _ => (intOf i + 1).toNat)
      case atStart => exact ⟨0, N, Nat.zero_le _, by rw [HN.out]; rfl, rfl, by simpa using hown, hb⟩
      case round =>
        clear hown hb
        obtain ⟨j, M, hj, hM, rfl, hown, hb⟩ := hrel
        have HM := Lib.hid hM
        have hMb : M ≤ 8388616 := by omega
        clear hM
        have hc : wr.cell? ⟨b, off + k, none⟩ = some (.int .u8 (q.getD k 0 : Nat)) := (hb.cell (p := ⟨b, off + k, none⟩) hbw).trans hc0
        by_cases hj8 : j < 8
        · have HT := Lib.hid (bits8_take (q.getD k 0) j hj8)
          obtain ⟨x, ex⟩ : ∃ x, q.getD k 0 = x := ⟨_, rfl⟩
          rw [ex] at hc HT hx hown
          have Hx := Lib.hid ex
          have HD := Lib.hid (bit_int x (7 - j))
          have hdv : (x : Int) / 2 ^ (7 - j) ≤ 255 := Int.le_trans (Int.ediv_le_self _ (by omega)) (by omega)
          have hdv0 : (0 : Int) ≤ (x : Int) / 2 ^ (7 - j) := Int.ediv_nonneg (by omega) (Int.le_of_lt (Int.pow_pos (by omega)))
          have hd : decide ((0 : Int) ≤ 7 - (j : Int)) = true := decide_eq_true (by omega)
          have h7 : (0 : Int) ≤ 7 - (j : Int) := by omega
          have h7b : 7 - (j : Int) ≤ 7 := by omega
          clear ex
          go_upto_region 8 with (fail)
          repeat ((fail_if_success (with_reducible show wpList _ _ _ (⟨some 32, _, _, _, _, _⟩ :: _) _ _)); first | go_values | go_skip | go_guarded | go_step | go_upon | go_back | go_simp)
          with_reducible refine append_one rfl (.tmp 21) (.tmp 31) 32 3 (.int .i64 0) 8 rfl Try.underlying32 info3b rfl w.heap.size _ M _ wr.heap.size (.int .i64 ((x / 2 ^ (7 - j) % 2 : Nat) : Int)) (hown.alloc _) ?c1 ?c2 ?c3 ?c4 ?c5 ?c6 ?c7 ?_
          case c1 => rw [← HD.out]; simp
          case c2 => rfl
          case c3 => rfl
          case c4 => rfl
          case c5 => omega
          case c6 => omega
          case c7 => have := hb.size; simp; omega
          intro v2 w2 hown2 hgr2
          have hb2 : Below w.heap.size w w2 := (hb.alloc hb.size _).grown hgr2 (by have := hb.size; simp; omega) (own_ge hown)
          rw [i64s_snoc, List.append_assoc, ← HT.out] at hown2
          clear hgr2 hown hb hc hc0 hdv hdv0
          go_frame
          go_wp2
          go_roundw
          case rel => exact ⟨j + 1, M + 1, by omega, by rw [HM.out]; rfl, by go_num, by rw [Hx.out]; exact hown2, hb2⟩
          case measure => simp [intOf]; omega
        · obtain rfl : j = 8 := by omega
          have hd : decide ((0 : Int) ≤ 7 - ((8 : Nat) : Int)) = false := by decide
          rw [show (B64.bits8 (q.getD k 0)).take 8 = B64.bits8 (q.getD k 0) from List.take_of_length_le (by rw [B64.bits8_length]; exact Nat.le_refl _), ← HB.out] at hown
          clear hc hc0
          go_wp2
          go_roundw
          case rel => exact ⟨k + 1, M, by rw [Hl.out]; omega, by have := HM.out; omega, by go_num, hown, hb⟩
          case measure => simp [intOf]; omega
    · obtain rfl : k = l := by omega
      have hd : decide ((k : Int) < (k : Int)) = false := by simp
      rw [List.take_of_length_le (by rw [Hl.out]; exact Nat.le_refl _)] at hown
      obtain ⟨A0, cap0, rfl⟩ := own_slice hown
      have hNb : N ≤ 8388608 := by have := HN.out; omega
      go_wp2_with fail
      go_loopw [3] (fun v wr => RefE3 q w N v wr) (fun v _ => N + B64.padN N - lenV v)
      case atStart => exact ⟨0, N, A0, cap0, Nat.zero_le _, rfl, rfl, by simpa using hown, hb⟩
      case round =>
        clear hown hb
        obtain ⟨j, M, A1, cap1, hj, hM, rfl, hown, hb⟩ := hrel
        have HM := Lib.hid hM
        have hp5 := B64.padN_lt N
        have hMb : M ≤ 8388616 := by omega
        have hz := pad_test N j hj
        rw [← hM] at hz
        clear hM
        by_cases hj8 : j < B64.padN N
        · have hd : (((M : Int) % 6) != 0) = true := by rw [bne_iff_ne]; have := hz.2 hj8; omega
          clear hz
          go_upto_region 10 with (fail)
          repeat ((fail_if_success (with_reducible show wpList _ _ _ (⟨some 39, _, _, _, _, _⟩ :: _) _ _)); first | go_values | go_skip | go_guarded | go_step | go_upon | go_back | go_simp)
          with_reducible refine append_one rfl (.tmp 37) (.tmp 38) 32 3 (.int .i64 0) 8 rfl Try.underlying32 info3b rfl w.heap.size _ M _ wr.heap.size (.int .i64 ((0 : Nat) : Int)) (hown.alloc _) ?c1 ?c2 ?c3 ?c4 ?c5 ?c6 ?c7 ?_
          case c1 => simp
          case c2 => rfl
          case c3 => rfl
          case c4 => rfl
          case c5 => omega
          case c6 => omega
          case c7 => have := hb.size; simp; omega
          intro v2 w2 hown2 hgr2
          have hb2 : Below w.heap.size w w2 := (hb.alloc hb.size _).grown hgr2 (by have := hb.size; simp; omega) (own_ge hown)
          rw [i64s_snoc, List.append_assoc, ← List.replicate_succ'] at hown2
          obtain ⟨A2, cap2, rfl⟩ := own_slice hown2
          clear hgr2 hown hb
          go_frame
          go_wp2
          go_roundw
          case rel => exact ⟨j + 1, M + 1, A2, cap2, by omega, by rw [HM.out]; rfl, rfl, hown2, hb2⟩
          case measure => simp [lenV]; have := HM.out; omega
        · obtain rfl : j = B64.padN N := by omega
          have h6 := hz.1 rfl
          have hd : (((M : Int) % 6) != 0) = false := by rw [bne_eq_false_iff_eq]; omega
          clear hz
          have hlen : (B64.bitsB q).length = N := by rw [B64.bitsB_length, Hl.out, HN.out]
          have hpad : B64.bitsB q ++ List.replicate (B64.padN N) 0 = B64.pad6 (B64.bitsB q) := by rw [B64.pad6, hlen]
          rw [hpad] at hown
          have HL : Hid ((B64.pad6 (B64.bitsB q)).length = M) := by unfold Hid; rw [B64.pad6_length, hlen, HM.out]
          have Hle := Lib.hid (B64.pad6_le (B64.bitsB_le q))
          have HE := Lib.hid (B64.refEnc_eq q hq.2.2.1)
          obtain ⟨L, eL⟩ : ∃ L, B64.pad6 (B64.bitsB q) = L := ⟨_, rfl⟩
          rw [eL] at hown HL Hle HE
          clear eL hpad hlen
          go_wp2_with fail
          refine (signs_any wr).mono ?_
          rintro e w' ⟨⟨S, hS, rfl⟩, rfl⟩
          go_wp2_with fail
          obtain ⟨w4, rfl⟩ : ∃ w4 : World, w4 = wr := ⟨_, rfl⟩
          have HC := Lib.hid (row_cells hown)
          clear hown
          go_loopw [7, 8] (fun v i wr => RefE4 q L w4 v i wr) (fun _ i _ => M - (intOf i).toNat)
          case atStart => exact ⟨0, 0, [], Nat.zero_le _, rfl, rfl, rfl, World.ownsRow_nil _ _ _ _, (fun x hx => by cases hx), HE.out, Below.refl _ _⟩
          case round =>
            obtain ⟨I, nT, T, hI, hI6, rfl, hnT, hown, hT, hE, hb4⟩ := hrel
            rw [HL.out] at hI
            have HI6 := Lib.hid hI6
            have HnT := Lib.hid hnT
            have HT := Lib.hid hT
            have HE2 := Lib.hid hE
            have hnTb : nT ≤ 1398104 := by
              have := congrArg List.length hE
              rw [List.length_append, hnT, B64.enc_length, Hl.out] at this
              unfold B64.sf at this
              omega
            clear hI6 hnT hT hE
            obtain ⟨wo, rfl⟩ : ∃ wo : World, wo = wr := ⟨_, rfl⟩
            by_cases hIM : I < M
            · have h6M : I + 6 ≤ M := by have := HI6.out; omega
              obtain ⟨g, hA1, hcell⟩ := HC.out (by omega)
              subst hA1
              have HC2 : Hid (∀ j, j < M → wo.cell? ⟨g, j, none⟩ = some (.int .i64 (L.getD j 0 : Nat))) := fun j hj => by
                have h0 := hcell j (by rw [HL.out]; exact hj)
                exact (hb4.cell (p := ⟨g, j, none⟩) (block_lt_of_cell h0)).trans h0
              have hbits : ∀ j, L.getD j 0 ≤ 1 := fun j => by
                rw [List.getD_eq_getElem?_getD]
                cases e : L[j]? with
                | none => simp
                | some x => exact Hle.out x (List.mem_of_getElem? e)
              have Hbits := Lib.hid hbits
              clear hcell hbits
              go_wp2_with fail
              go_loop [9, 10] (fun n i => ∃ j m : Nat, j ≤ 6 ∧ i = .int .i64 j ∧ n = .int .i64 m ∧ m = B64.num ((L.drop I).take j) ∧ m < 2 ^ j) (fun _ i => 6 - (intOf i).toNat)
              case atStart => exact ⟨0, 0, Nat.zero_le _, rfl, rfl, by rw [List.take_zero]; rfl, by decide⟩
              case round =>
                obtain ⟨j, m, hj, rfl, rfl, hm, hm2⟩ := hrel
                have Hm := Lib.hid hm
                clear hm
                have hm64 : m ≤ 64 := Nat.le_of_lt (Nat.lt_of_lt_of_le hm2 (Nat.pow_le_pow_right (by decide) hj))
                by_cases hj6 : j < 6
                · have hd : decide ((j : Int) < 6) = true := decide_eq_true (by omega)
                  have hc := HC2.out (I + j) (by omega)
                  have hbt := Hbits.out (I + j)
                  have HNX := Lib.hid (num_next L I j (by rw [HL.out]; omega))
                  obtain ⟨x, ex⟩ : ∃ x, L.getD (I + j) 0 = x := ⟨_, rfl⟩
                  rw [ex] at hc hbt HNX
                  have hij : (I : Int) + (j : Int) < (M : Int) := by omega
                  have hm2' := Lib.hid hm2
                  clear ex hm2
                  go_wp2
                  go_round
                  case rel =>
                    refine ⟨j + 1, m * 2 + x, by omega, by go_num, by go_num, ?_, ?_⟩
                    · rw [HNX.out, Hm.out]
                    · have := hm2'.out; rw [Nat.pow_succ]; omega
                  case measure => simp [intOf]; omega
                · obtain rfl : j = 6 := by omega
                  have hd : decide (((6 : Nat) : Int) < 6) = false := by decide
                  have hm64' : m < 64 := hm2
                  have hix := hS.run m hm64'
                  have hsl := B64.sign_lt m
                  have HST : Hid (T ++ B64.g6 (L.drop I) = (T ++ [B64.sign m]) ++ B64.g6 (L.drop (I + 6))) := by
                    unfold Hid
                    rw [B64.g6_step (L.drop I) (by rw [List.length_drop, HL.out]; omega), ← Hm.out, List.drop_drop, List.append_assoc]
                    rfl
                  clear hm2
                  go_upto_region 21 with (fail)
                  repeat ((fail_if_success (with_reducible show wpList _ _ _ (⟨some 65, _, _, _, _, _⟩ :: _) _ _)); first | go_values | go_skip | go_guarded | go_step | go_upon | go_back | go_simp)
                  with_reducible refine append_one rfl (.tmp 60) (.tmp 64) 22 5 (.int .u8 0) 1 rfl Try.underlying22 info5b rfl w4.heap.size _ nT _ wo.heap.size (.int .u8 (B64.sign m : Nat)) (hown.alloc _) ?d1 ?d2 ?d3 ?d4 ?d5 ?d6 ?d7 ?_
                  case d1 => simp
                  case d2 => rfl
                  case d3 => rfl
                  case d4 => rfl
                  case d5 => omega
                  case d6 => omega
                  case d7 => have := hb4.size; simp; omega
                  intro v2 w2 hown2 hgr2
                  have hb2 : Below w4.heap.size w4 w2 := (hb4.alloc hb4.size _).grown hgr2 (by have := hb4.size; simp; omega) (own_ge hown)
                  rw [u8s_snoc] at hown2
                  clear hgr2 hown hb4 hix
                  go_frame
                  go_wp2
                  go_roundw
                  case rel =>
                    refine ⟨I + 6, nT + 1, T ++ [B64.sign m], by rw [HL.out]; omega, by have := HI6.out; omega, by go_num, by rw [List.length_append, HnT.out]; rfl, hown2, fun x hx => ?_, ?_, hb2⟩
                    · rcases List.mem_append.1 hx with hx | hx
                      · exact HT.out x hx
                      · rw [List.mem_singleton] at hx; rw [hx]; exact hsl
                    · rw [← HST.out, HE2.out]
                  case measure => simp [intOf]; omega
            · obtain rfl : I = M := by omega
              have hd : decide ((I : Int) < (I : Int)) = false := by simp
              have hTe : T = B64.enc q := by
                have := HE2.out
                rw [List.drop_of_length_le (by rw [HL.out]; exact Nat.le_refl _), B64.g6_end [] (by decide), List.append_nil] at this
                exact this
              obtain ⟨A2, cap2, rfl⟩ := own_slice hown
              obtain ⟨hl2, ha2⟩ := own_arg hown HT.out
              have hconv := conv_str ha2
              rw [hl2, hTe] at hconv
              have hbF : Below w.heap.size w wo := hb.trans (hb4.mono hb.size)
              clear hTe hl2 ha2 hown hb4
              go_wp2
              go_ret
              exact ⟨rfl, hbF⟩
end Go.Proofs.Ytejjjhehfpeilaa
