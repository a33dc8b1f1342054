/-
  QR6: RefMac, side by side.
-/
import Derived.Test.YthklgpflaghojaaGreatDoorQR5

/-
  The contract of the document's own Mac.
-/
namespace Go.Proofs.YthklgpflaghojaaGreatDoor
open Go.RowKit

theorem apart_of {w : World} {B C : Nat} {e : TypeId} {v6 v7 : Value} {n m : Nat} {xs ys : List Value} {x y : Value} (h6 : w.ownsRow B e 1 v6 n xs) (h7 : w.ownsRow C e 1 v7 m ys)
    (hx : xs[0]? = some x) (hy : ys[0]? = some y) (hne : x ≠ y) : v7.ownBlock ≠ v6.ownBlock := by
  intro eq
  have hm : 0 < m := by
    have h1 := h7.1
    have h2 := (List.getElem?_eq_some_iff.1 hy).1
    omega
  obtain ⟨g, cap, rfl⟩ := own_form h7 hm
  have e7 : (Value.slice (some ⟨g, 0, none⟩) m cap).ownBlock = some g := rfl
  have c7 := h7.cells e7 0 y hy
  have c6 := h6.cells (eq.symm.trans e7) 0 x hx
  rw [c7] at c6
  exact hne (by injection c6 with h; exact h.symm)
theorem mask_next (K : List Nat) (m j : Nat) (hj : j < K.length) : (Sha.mask K m).take (j + 1) = (Sha.mask K m).take j ++ [K.getD j 0 ^^^ m] := by
  rw [take_next _ j (by rw [Sha.mask_length]; exact hj)]
  congr 2
  simp [Sha.mask, List.getD_eq_getElem?_getD, List.getElem?_eq_getElem hj]
theorem mask_head (K : List Nat) (m j : Nat) (hK : 0 < K.length) (hj : 0 < j) : (u8s ((Sha.mask K m).take j))[0]? = some (.int .u8 ((K.getD 0 0 ^^^ m : Nat) : Int)) := by
  obtain ⟨i, rfl⟩ : ∃ i, j = i + 1 := ⟨j - 1, by omega⟩
  cases K with
  | nil => simp at hK
  | cons x l => simp [Sha.mask, u8s]
theorem xor_unlike (x : Nat) : (Value.int .u8 ((x ^^^ 54 : Nat) : Int)) ≠ .int .u8 ((x ^^^ 92 : Nat) : Int) := by
  intro h
  have h1 : ((x ^^^ 54 : Nat) : Int) = ((x ^^^ 92 : Nat) : Int) := by injection h
  have h2 : x ^^^ 54 = x ^^^ 92 := by omega
  have h3 := congrArg (x ^^^ ·) h2
  simp only [← Nat.xor_assoc, Nat.xor_self, Nat.zero_xor] at h3
  omega
theorem nil_own : (Value.slice none 0 0).ownBlock = none := rfl

set_option maxHeartbeats 1000000 in
set_option maxRecDepth 100000 in
theorem refMac_any (k q : List Nat) (A A' : Option Addr) (c c' : Nat) (w : World) (hk : ArgIs w A c k) (hq : ArgIs w A' c' q) (hn : k.length ≤ 140737488354000) (hn' : q.length ≤ 140737488353000) :
    Calls Tryz.prog 50 #[.slice A k.length c, .slice A' q.length c'] w fun e w' => e = .returned (.agg (u8s (Sha.mac k q)).toArray) ∧ Below w.heap.size w w' := by
  have hz := zero25
  obtain ⟨l, hl⟩ : ∃ l, q.length = l := ⟨_, rfl⟩
  obtain ⟨m, hm⟩ : ∃ m, k.length = m := ⟨_, rfl⟩
  rw [hl] at hn' ⊢
  rw [hm] at hn ⊢
  have Hl := Lib.hid hl
  have Hm := Lib.hid hm
  clear hl hm
  go_enter Tryz.func50, Tryz.ntmps50
  go_upto_region 1 with (fail)
  generalize hw1 : World.alloc _ _ = w1
  have h01 : Lies w1 w.heap.size 71 (z8 32) := by rw [← hw1]; exact Lies.made w _ (z8 32)
  have hb1 : Below w.heap.size w w1 := by rw [← hw1]; exact (Below.refl _ _).alloc (Nat.le_refl _) _
  have hk1 := hk.below hb1 (Nat.le_refl _)
  have hq1 := hq.below hb1 (Nat.le_refl _)
  have Hklt := Lib.hid hk.2.2.1
  clear hw1 hz hk hq
  have hempty : (w1.alloc (.cells #[] 5)).ownsRow w1.heap.size 5 1 (.slice (some ⟨w1.heap.size, 0, none⟩) 0 0) 0 [] := ⟨rfl, .inr ⟨w1.heap.size, 0, #[], rfl, Nat.le_refl _, heap_alloc_new _ _, Nat.le_refl _, by decide, rfl, rfl⟩⟩
  repeat ((fail_if_success (with_reducible show wpList _ _ _ (⟨some 12, _, _, _, _, _⟩ :: _) _ _)); first | go_values | go_skip | go_guarded | go_step | go_upon | go_back | go_simp)
  with_reducible refine append_arg rfl (.tmp 10) (.tmp 11) rfl w1.heap.size (.slice (some ⟨w1.heap.size, 0, none⟩) 0 0) 0 [] A c k hempty (hk1.alloc _) ?s1 ?s2 ?s3 ?s4 ?_
  case s1 => rfl
  case s2 => rw [Hm.out]; rfl
  case s3 => rw [Hm.out]; omega
  case s4 => simp
  intro v1 wa hown1 hgr1
  rw [List.nil_append, Nat.zero_add, Hm.out] at hown1
  have hba : Below w1.heap.size w1 wa := ((Below.refl _ _).alloc (Nat.le_refl _) _).grown hgr1 (by simp) (own_u8_ge hempty)
  clear hempty hgr1 hk1
  obtain ⟨Aa, ca, rfl⟩ := own_slice hown1
  by_cases hc64 : 64 < m
  · have hd : decide ((64 : Int) < (m : Int)) = true := by simp; omega
    obtain ⟨_, harga⟩ := own_arg hown1 Hklt.out
    have hS := refSum_any k Aa ca wa harga (by rw [Hm.out]; exact hn)
    rw [Hm.out] at hS
    have HS := Lib.hid hS
    clear hS
    go_frame
    go_wp2_with fail
    clear hd
    refine HS.out.mono ?_
    rintro e wb ⟨rfl, hbb⟩
    go_wp2_with fail
    refine (refBytes_any (Sha.sum k) wb (Sha.sum_length k) (Sha.sum_lt k)).mono ?_
    rintro e wc ⟨v5, rfl, hown5, hbc5⟩
    have hbab : Below w1.heap.size w1 wb := hba.trans (hbb.mono hba.size)
    have hbc : Below w1.heap.size w1 wc := hbab.trans (hbc5.mono hbab.size)
    obtain ⟨n0, hn0e⟩ : ∃ n0, n0 = 32 := ⟨_, rfl⟩
    have hn0 : n0 ≤ 64 := by omega
    have HK : Hid (Sha.keyG k = Sha.sum k ++ List.replicate (64 - n0) 0) := by
      unfold Hid Sha.keyG
      have h64 : 64 < k.length := by rw [Hm.out]; exact hc64
      rw [if_pos h64, Sha.sum_length, hn0e]
    have HK0l : Hid ((Sha.sum k).length = n0) := by unfold Hid; rw [Sha.sum_length, hn0e]
    obtain ⟨K0, hK0⟩ : ∃ K0, Sha.sum k = K0 := ⟨_, rfl⟩
    rw [hK0] at hown5 HK HK0l
    rw [← hn0e] at hown5
    have hown5 := own_base hown5 hbab.size
    obtain ⟨A5, c5, rfl⟩ := own_slice hown5
    clear hown1 hba harga HS hbb hbc5 hbab hn0e hK0
    go_wp2_with fail
    go_loopw [5] (fun v wr => ∃ (N : Nat) (A : Option Addr) (c : Nat), n0 ≤ N ∧ N ≤ 64 ∧ v = .slice A N c ∧ wr.ownsRow w1.heap.size 5 1 (.slice A N c) N (u8s (K0 ++ List.replicate (N - n0) 0)) ∧ Below w1.heap.size w1 wr) (fun v _ => 64 - lenV v)
    case atStart => exact ⟨n0, A5, c5, Nat.le_refl _, hn0, rfl, by simpa using hown5, hbc⟩
    case round =>
      clear hown5 hbc
      obtain ⟨N, A6, c6, hN1, hN2, rfl, hown, hb⟩ := hrel
      by_cases hlt : N < 64
      · have hd : decide ((N : Int) < 64) = true := by simp; omega
        go_upto_region 5 with (fail)
        repeat ((fail_if_success (with_reducible show wpList _ _ _ (⟨some 24, _, _, _, _, _⟩ :: _) _ _)); first | go_values | go_skip | go_guarded | go_step | go_upon | go_back | go_simp)
        with_reducible refine append_arg rfl (.tmp 22) (.tmp 23) rfl w1.heap.size (.slice A6 N c6) N _ (some ⟨wr.heap.size, 0, none⟩) 1 [0] (hown.alloc _) (arg_new rfl 5 (0, 0) [0] 1 (by decide) (by decide) (by decide)) ?s1 ?s2 ?s3 ?s4 ?_
        case s1 => rfl
        case s2 => rfl
        case s3 => simp; omega
        case s4 => have := hb.size; simp; omega
        intro v2 w2 hown2 hgr2
        have hb2 : Below w1.heap.size w1 w2 := (hb.alloc hb.size _).grown hgr2 (by have := hb.size; simp; omega) (own_u8_ge hown)
        rw [← u8s_append, List.append_assoc, ← List.replicate_succ', show N - n0 + 1 = N + 1 - n0 from by omega] at hown2
        obtain ⟨A7, c7, rfl⟩ := own_slice hown2
        clear hgr2 hown hb hd
        go_frame
        go_wp2
        go_roundw
        case rel => exact ⟨N + 1, A7, c7, by omega, by omega, rfl, hown2, hb2⟩
        case measure => simp [lenV]; omega
      · obtain rfl : N = 64 := by omega
        have hd : decide (((64 : Nat) : Int) < 64) = false := by decide
        have HKlen := Lib.hid (Sha.keyG_length k)
        have HKlt := Lib.hid (Sha.keyG_lt k Hklt.out)
        rw [← HK.out] at hown
        obtain ⟨K, hKe⟩ : ∃ K, Sha.keyG k = K := ⟨_, rfl⟩
        rw [hKe] at hown HKlen HKlt
        have HKe := Lib.hid hKe
        obtain ⟨_, harg⟩ := own_arg hown HKlt.out
        obtain ⟨g5, off5, rfl, hg5, hby5⟩ := harg.2.2.2 (by rw [HKlen.out]; decide)
        have hc6 : 64 ≤ c6 := by have := harg.1; rw [HKlen.out] at this; exact this
        obtain ⟨wo, rfl⟩ : ∃ wo : World, wo = wr := ⟨_, rfl⟩
        clear hKe harg hown hlt
        have hbo := hb
        clear hb
        go_wp2_with fail
        clear hd
        go_loopw [6, 7, 8] (fun v6 v7 i wr => ∃ j : Nat, j ≤ 64 ∧ i = .int .i64 j ∧ wr.ownsRow wo.heap.size 5 1 v6 j (u8s ((Sha.mask K 54).take j)) ∧ wr.ownsRow wo.heap.size 5 1 v7 j (u8s ((Sha.mask K 92).take j)) ∧
            (v7 = .slice none 0 0 ∨ (0 < j ∧ v7.ownBlock ≠ v6.ownBlock)) ∧ Below wo.heap.size wo wr) (fun _ _ i _ => 64 - (intOf i).toNat)
        case atStart => exact ⟨0, Nat.zero_le _, rfl, World.ownsRow_nil _ _ _ _, World.ownsRow_nil _ _ _ _, .inl rfl, Below.refl _ _⟩
        case round =>
          obtain ⟨j, hj, rfl, h6, h7, hap, hb⟩ := hrel
          have hap1 := hap.elim (fun e => Or.inl (e ▸ nil_own)) (fun e => Or.inr e.2)
          by_cases hlt : j < 64
          · have hd : decide ((j : Int) < 64) = true := by simp; omega
            have hjK : j < K.length := by rw [HKlen.out]; exact hlt
            have HT54 := Lib.hid (mask_next K 54 j hjK)
            have HT92 := Lib.hid (mask_next K 92 j hjK)
            have hx := getD_lt256 K j HKlt.out hjK
            have hc := (hby5.below hb hg5).get hjK
            have Hc2 : ∀ w2, Below wo.heap.size wo w2 → w2.cell? ⟨g5, off5 + j, none⟩ = some (.int .u8 (K.getD j 0 : Nat)) := fun w2 hb2 => (hby5.below hb2 hg5).get hjK
            obtain ⟨x, ex⟩ : ∃ x, K.getD j 0 = x := ⟨_, rfl⟩
            rw [ex] at hx hc HT54 HT92
            simp only [ex] at Hc2
            have HC2 := Lib.hid Hc2
            clear ex hjK Hc2
            have q54 : bits .xor .u8 (x : Int) 54 = ((x ^^^ 54 : Nat) : Int) := u8_xor_nat x 54 hx (by decide)
            have q92 : bits .xor .u8 (x : Int) 92 = ((x ^^^ 92 : Nat) : Int) := u8_xor_nat x 92 hx (by decide)
            have l54 : x ^^^ 54 < 256 := Nat.xor_lt_two_pow (n := 8) hx (by decide)
            have l92 : x ^^^ 92 < 256 := Nat.xor_lt_two_pow (n := 8) hx (by decide)
            have f1 : (j : Int) < 64 := by omega
            go_upto_region 11 with (fail)
            repeat ((fail_if_success (with_reducible show wpList _ _ _ (⟨some 36, _, _, _, _, _⟩ :: _) _ _)); first | go_values | go_skip | go_guarded | go_step | go_upon | go_back | go_simp)
            with_reducible refine append_arg rfl (.tmp 29) (.tmp 35) rfl wo.heap.size _ j _ (some ⟨wr.heap.size, 0, none⟩) 1 [x ^^^ 54] (h6.alloc _) (arg_new rfl 5 (0, 0) [x ^^^ 54] 1 (by simpa using l54) (by simp) (by decide)) ?s1 ?s2 ?s3 ?s4 ?_
            case s1 => rfl
            case s2 => rfl
            case s3 => simp; omega
            case s4 => have := hb.size; simp; omega
            intro v6 w2 h6b hgr2
            have hb2 : Below wo.heap.size wo w2 := (hb.alloc hb.size _).grown hgr2 (by have := hb.size; simp; omega) (own_u8_ge h6)
            have h7b := (h7.alloc _).kept hgr2 hap1
            rw [← u8s_append, ← HT54.out] at h6b
            have hap2 := hap.elim (fun e => by
                obtain ⟨g, cap, rfl⟩ := own_form h6b (by simp)
                rw [e]; exact (nofun : (none : Option Nat) ≠ some g)) (fun e => apart_of h6b h7b (mask_head K 54 (j + 1) (by rw [HKlen.out]; decide) (by omega)) (mask_head K 92 j (by rw [HKlen.out]; decide) e.1) (xor_unlike _))
            have hc2 := HC2.out w2 hb2
            clear hgr2 h6 h7 hb hd hc hap hap1
            go_frame
            go_upto_region 12 with (fail)
            repeat ((fail_if_success (with_reducible show wpList _ _ _ (⟨some 44, _, _, _, _, _⟩ :: _) _ _)); first | go_values | go_skip | go_guarded | go_step | go_upon | go_back | go_simp)
            with_reducible refine append_arg rfl (.tmp 37) (.tmp 43) rfl wo.heap.size _ j _ (some ⟨w2.heap.size, 0, none⟩) 1 [x ^^^ 92] (h7b.alloc _) (arg_new rfl 5 (0, 0) [x ^^^ 92] 1 (by simpa using l92) (by simp) (by decide)) ?s1 ?s2 ?s3 ?s4 ?_
            case s1 => rfl
            case s2 => rfl
            case s3 => simp; omega
            case s4 => have := hb2.size; simp; omega
            intro v7 w3 h7c hgr3
            have hb3 : Below wo.heap.size wo w3 := (hb2.alloc hb2.size _).grown hgr3 (by have := hb2.size; simp; omega) (own_u8_ge h7b)
            have h6c := (h6b.alloc _).kept hgr3 (.inr hap2.symm)
            rw [← u8s_append, ← HT92.out] at h7c
            have hap3 := apart_of h6c h7c (mask_head K 54 (j + 1) (by rw [HKlen.out]; decide) (by omega)) (mask_head K 92 (j + 1) (by rw [HKlen.out]; decide) (by omega)) (xor_unlike _)
            clear hgr3 h6b h7b hb2 hap2 hc2
            go_frame
            go_wp2
            go_roundw
            case rel => exact ⟨j + 1, by omega, by go_num, h6c, h7c, .inr ⟨by omega, hap3⟩, hb3⟩
            case measure => simp [intOf]; omega
          · obtain rfl : j = 64 := by omega
            have hd : decide (((64 : Nat) : Int) < 64) = false := by decide
            rw [List.take_of_length_le (by rw [Sha.mask_length, HKlen.out]; exact Nat.le_refl _)] at h6 h7
            have hb1r : Below w1.heap.size w1 wr := hbo.trans (hb.mono hbo.size)
            have hqr := hq1.below hb1r (Nat.le_refl _)
            go_upto_region 13 with (fail)
            repeat ((fail_if_success (with_reducible show wpList _ _ _ (⟨some 47, _, _, _, _, _⟩ :: _) _ _)); first | go_values | go_skip | go_guarded | go_step | go_upon | go_back | go_simp)
            with_reducible refine append_arg rfl (.tmp 45) (.tmp 46) rfl wo.heap.size _ 64 _ A' c' q h6 hqr ?s1 ?s2 ?s3 ?s4 ?_
            case s1 => rfl
            case s2 => rw [Hl.out]; rfl
            case s3 => rw [Hl.out]; omega
            case s4 => exact hb.size
            intro v8 w4 h8 hgr4
            have hb4 : Below wo.heap.size wo w4 := hb.grown hgr4 hb.size (own_u8_ge h6)
            have h7b := h7.kept hgr4 hap1
            rw [← u8s_append, Hl.out] at h8
            have HIlt : Hid (∀ y ∈ Sha.mask K 54 ++ q, y < 256) := fun y hy => (List.mem_append.1 hy).elim (Sha.mask_lt K 54 HKlt.out (by decide) y) (hqr.2.2.1 y)
            obtain ⟨I, hI⟩ : ∃ I, Sha.mask K 54 ++ q = I := ⟨_, rfl⟩
            rw [hI] at h8 HIlt
            have HI := Lib.hid hI
            obtain ⟨A8, c8, rfl⟩ := own_slice h8
            obtain ⟨hIl, harg8⟩ := own_arg h8 HIlt.out
            have hS := refSum_any I A8 c8 w4 harg8 (by omega)
            rw [hIl] at hS
            have HS := Lib.hid hS
            clear hS hI hgr4 h6 h7 hap hap1 hb hqr hb1r harg8 h8 hIl
            go_frame
            go_wp2_with fail
            refine HS.out.mono ?_
            rintro e w5 ⟨rfl, hb5⟩
            have h7c := own_below h7b hb5
            have hbo5 : Below wo.heap.size wo w5 := hb4.trans (hb5.mono hb4.size)
            clear HS h7b hb4 hb5 hd
            go_wp2_with fail
            refine (refBytes_any (Sha.sum I) w5 (Sha.sum_length I) (Sha.sum_lt I)).mono ?_
            rintro e w6 ⟨v9, rfl, h9, hb6⟩
            have h7d := own_below h7c hb6
            have hbo6 : Below wo.heap.size wo w6 := hbo5.trans (hb6.mono hbo5.size)
            obtain ⟨A9, c9, rfl⟩ := own_slice h9
            obtain ⟨_, harg9⟩ := own_arg h9 (Sha.sum_lt I)
            clear h7c hb6 hbo5 h9
            go_upto_region 15 with (fail)
            repeat ((fail_if_success (with_reducible show wpList _ _ _ (⟨some 53, _, _, _, _, _⟩ :: _) _ _)); first | go_values | go_skip | go_guarded | go_step | go_upon | go_back | go_simp)
            with_reducible refine append_arg rfl (.tmp 51) (.tmp 52) rfl wo.heap.size _ 64 _ A9 c9 (Sha.sum I) h7d harg9 ?s1 ?s2 ?s3 ?s4 ?_
            case s1 => rfl
            case s2 => rw [Sha.sum_length]; rfl
            case s3 => rw [Sha.sum_length]; decide
            case s4 => exact hbo6.size
            intro v10 w7 h10 hgr7
            have hb7 : Below wo.heap.size wo w7 := hbo6.grown hgr7 hbo6.size (own_u8_ge h7d)
            rw [← u8s_append, Sha.sum_length] at h10
            have HOlt : Hid (∀ y ∈ Sha.mask K 92 ++ Sha.sum I, y < 256) := fun y hy => (List.mem_append.1 hy).elim (Sha.mask_lt K 92 HKlt.out (by decide) y) (Sha.sum_lt I y)
            obtain ⟨O, hO⟩ : ∃ O, Sha.mask K 92 ++ Sha.sum I = O := ⟨_, rfl⟩
            rw [hO] at h10 HOlt
            have HO := Lib.hid hO
            obtain ⟨A10, c10, rfl⟩ := own_slice h10
            obtain ⟨hOl, harg10⟩ := own_arg h10 HOlt.out
            have hS := refSum_any O A10 c10 w7 harg10 (by omega)
            rw [hOl] at hS
            have HS := Lib.hid hS
            clear hS hO hgr7 h7d hbo6 harg9 harg10 h10 hOl
            go_frame
            go_wp2_with fail
            refine HS.out.mono ?_
            rintro e w8 ⟨rfl, hb8⟩
            have hbo8 : Below wo.heap.size wo w8 := hb7.trans (hb8.mono hb7.size)
            have hb18 : Below w1.heap.size w1 w8 := hbo.trans (hbo8.mono hbo.size)
            have h08 := h01.below hb18 h01.lt
            have Hl32 : Hid ((u8s (Sha.sum O)).length = 32) := by unfold Hid; rw [u8s_length, Sha.sum_length]
            have Hone : Hid ((u8s (Sha.sum O)).all (·.oneCell') = true) := List.all_eq_true.2 (u8s_one _)
            have Hfin : Hid (Sha.mac k q = Sha.sum O) := by unfold Hid Sha.mac; rw [HKe.out, HI.out, HO.out]
            obtain ⟨D, hDe⟩ : ∃ D, u8s (Sha.sum O) = D := ⟨_, rfl⟩
            rw [hDe] at Hl32 Hone ⊢
            have HDe := Lib.hid hDe
            clear hDe HS hb7 hb8 hbo8
            repeat ((fail_if_success (with_reducible show wpList _ _ _ (⟨none, _, _, _, _, _⟩ :: _) _ _)); first | go_values | go_skip | go_guarded | go_step | go_upon | go_back | go_simp)
            with_reducible refine store_lies rfl 71 (.tmp 4) (.tmp 55) rfl w.heap.size D 71 (z8 32) h08 ?sx ?sy ?si ?sl ?s1 ?_
            case sx => rfl
            case sy => rfl
            case si => (rw [z8_length]; exact info25)
            case sl => rw [Hl32.out, z8_length]
            case s1 => exact Hone.out
            go_wp2
            refine bodyPost_ret (results_one Tryz.results50 _ _ w.heap.size 71 D _ rfl h08.row Tryz.underlying71 rfl (by rw [Hl32.out]; exact info25)) rfl ⟨?_, below_row (hb1.trans (hb18.mono hb1.size)) (Nat.le_refl _)⟩
            rw [Hfin.out, HDe.out]
  · have hd : decide ((64 : Int) < (m : Int)) = false := by simp; omega
    obtain ⟨n0, rfl⟩ : ∃ n0, n0 = m := ⟨_, rfl⟩
    obtain ⟨K0, rfl⟩ : ∃ K0, K0 = k := ⟨_, rfl⟩
    obtain ⟨wc, rfl⟩ : ∃ wc : World, wc = wa := ⟨_, rfl⟩
    have hn0 : n0 ≤ 64 := by omega
    have HK : Hid (Sha.keyG K0 = K0 ++ List.replicate (64 - n0) 0) := by
      unfold Hid Sha.keyG
      have h64 : ¬ 64 < K0.length := by rw [Hm.out]; exact hc64
      rw [if_neg h64, Hm.out]
    have HK0l : Hid (K0.length = n0) := Hm
    have hown5 := hown1
    have hbc := hba
    obtain ⟨A5, rfl⟩ : ∃ A5, A5 = Aa := ⟨_, rfl⟩
    obtain ⟨c5, rfl⟩ : ∃ c5, c5 = ca := ⟨_, rfl⟩
    clear hown1 hba
    go_frame
    go_wp2_with fail
    clear hd
    go_loopw [5] (fun v wr => ∃ (N : Nat) (A : Option Addr) (c : Nat), n0 ≤ N ∧ N ≤ 64 ∧ v = .slice A N c ∧ wr.ownsRow w1.heap.size 5 1 (.slice A N c) N (u8s (K0 ++ List.replicate (N - n0) 0)) ∧ Below w1.heap.size w1 wr) (fun v _ => 64 - lenV v)
    case atStart => exact ⟨n0, A5, c5, Nat.le_refl _, hn0, rfl, by simpa using hown5, hbc⟩
    case round =>
      clear hown5 hbc
      obtain ⟨N, A6, c6, hN1, hN2, rfl, hown, hb⟩ := hrel
      by_cases hlt : N < 64
      · have hd : decide ((N : Int) < 64) = true := by simp; omega
        go_upto_region 5 with (fail)
        repeat ((fail_if_success (with_reducible show wpList _ _ _ (⟨some 24, _, _, _, _, _⟩ :: _) _ _)); first | go_values | go_skip | go_guarded | go_step | go_upon | go_back | go_simp)
        with_reducible refine append_arg rfl (.tmp 22) (.tmp 23) rfl w1.heap.size (.slice A6 N c6) N _ (some ⟨wr.heap.size, 0, none⟩) 1 [0] (hown.alloc _) (arg_new rfl 5 (0, 0) [0] 1 (by decide) (by decide) (by decide)) ?s1 ?s2 ?s3 ?s4 ?_
        case s1 => rfl
        case s2 => rfl
        case s3 => simp; omega
        case s4 => have := hb.size; simp; omega
        intro v2 w2 hown2 hgr2
        have hb2 : Below w1.heap.size w1 w2 := (hb.alloc hb.size _).grown hgr2 (by have := hb.size; simp; omega) (own_u8_ge hown)
        rw [← u8s_append, List.append_assoc, ← List.replicate_succ', show N - n0 + 1 = N + 1 - n0 from by omega] at hown2
        obtain ⟨A7, c7, rfl⟩ := own_slice hown2
        clear hgr2 hown hb hd
        go_frame
        go_wp2
        go_roundw
        case rel => exact ⟨N + 1, A7, c7, by omega, by omega, rfl, hown2, hb2⟩
        case measure => simp [lenV]; omega
      · obtain rfl : N = 64 := by omega
        have hd : decide (((64 : Nat) : Int) < 64) = false := by decide
        have HKlen := Lib.hid (Sha.keyG_length K0)
        have HKlt := Lib.hid (Sha.keyG_lt K0 Hklt.out)
        rw [← HK.out] at hown
        obtain ⟨K, hKe⟩ : ∃ K, Sha.keyG K0 = K := ⟨_, rfl⟩
        rw [hKe] at hown HKlen HKlt
        have HKe := Lib.hid hKe
        obtain ⟨_, harg⟩ := own_arg hown HKlt.out
        obtain ⟨g5, off5, rfl, hg5, hby5⟩ := harg.2.2.2 (by rw [HKlen.out]; decide)
        have hc6 : 64 ≤ c6 := by have := harg.1; rw [HKlen.out] at this; exact this
        obtain ⟨wo, rfl⟩ : ∃ wo : World, wo = wr := ⟨_, rfl⟩
        clear hKe harg hown hlt
        have hbo := hb
        clear hb
        go_wp2_with fail
        clear hd
        go_loopw [6, 7, 8] (fun v6 v7 i wr => ∃ j : Nat, j ≤ 64 ∧ i = .int .i64 j ∧ wr.ownsRow wo.heap.size 5 1 v6 j (u8s ((Sha.mask K 54).take j)) ∧ wr.ownsRow wo.heap.size 5 1 v7 j (u8s ((Sha.mask K 92).take j)) ∧
            (v7 = .slice none 0 0 ∨ (0 < j ∧ v7.ownBlock ≠ v6.ownBlock)) ∧ Below wo.heap.size wo wr) (fun _ _ i _ => 64 - (intOf i).toNat)
        case atStart => exact ⟨0, Nat.zero_le _, rfl, World.ownsRow_nil _ _ _ _, World.ownsRow_nil _ _ _ _, .inl rfl, Below.refl _ _⟩
        case round =>
          obtain ⟨j, hj, rfl, h6, h7, hap, hb⟩ := hrel
          have hap1 := hap.elim (fun e => Or.inl (e ▸ nil_own)) (fun e => Or.inr e.2)
          by_cases hlt : j < 64
          · have hd : decide ((j : Int) < 64) = true := by simp; omega
            have hjK : j < K.length := by rw [HKlen.out]; exact hlt
            have HT54 := Lib.hid (mask_next K 54 j hjK)
            have HT92 := Lib.hid (mask_next K 92 j hjK)
            have hx := getD_lt256 K j HKlt.out hjK
            have hc := (hby5.below hb hg5).get hjK
            have Hc2 : ∀ w2, Below wo.heap.size wo w2 → w2.cell? ⟨g5, off5 + j, none⟩ = some (.int .u8 (K.getD j 0 : Nat)) := fun w2 hb2 => (hby5.below hb2 hg5).get hjK
            obtain ⟨x, ex⟩ : ∃ x, K.getD j 0 = x := ⟨_, rfl⟩
            rw [ex] at hx hc HT54 HT92
            simp only [ex] at Hc2
            have HC2 := Lib.hid Hc2
            clear ex hjK Hc2
            have q54 : bits .xor .u8 (x : Int) 54 = ((x ^^^ 54 : Nat) : Int) := u8_xor_nat x 54 hx (by decide)
            have q92 : bits .xor .u8 (x : Int) 92 = ((x ^^^ 92 : Nat) : Int) := u8_xor_nat x 92 hx (by decide)
            have l54 : x ^^^ 54 < 256 := Nat.xor_lt_two_pow (n := 8) hx (by decide)
            have l92 : x ^^^ 92 < 256 := Nat.xor_lt_two_pow (n := 8) hx (by decide)
            have f1 : (j : Int) < 64 := by omega
            go_upto_region 11 with (fail)
            repeat ((fail_if_success (with_reducible show wpList _ _ _ (⟨some 36, _, _, _, _, _⟩ :: _) _ _)); first | go_values | go_skip | go_guarded | go_step | go_upon | go_back | go_simp)
            with_reducible refine append_arg rfl (.tmp 29) (.tmp 35) rfl wo.heap.size _ j _ (some ⟨wr.heap.size, 0, none⟩) 1 [x ^^^ 54] (h6.alloc _) (arg_new rfl 5 (0, 0) [x ^^^ 54] 1 (by simpa using l54) (by simp) (by decide)) ?s1 ?s2 ?s3 ?s4 ?_
            case s1 => rfl
            case s2 => rfl
            case s3 => simp; omega
            case s4 => have := hb.size; simp; omega
            intro v6 w2 h6b hgr2
            have hb2 : Below wo.heap.size wo w2 := (hb.alloc hb.size _).grown hgr2 (by have := hb.size; simp; omega) (own_u8_ge h6)
            have h7b := (h7.alloc _).kept hgr2 hap1
            rw [← u8s_append, ← HT54.out] at h6b
            have hap2 := hap.elim (fun e => by
                obtain ⟨g, cap, rfl⟩ := own_form h6b (by simp)
                rw [e]; exact (nofun : (none : Option Nat) ≠ some g)) (fun e => apart_of h6b h7b (mask_head K 54 (j + 1) (by rw [HKlen.out]; decide) (by omega)) (mask_head K 92 j (by rw [HKlen.out]; decide) e.1) (xor_unlike _))
            have hc2 := HC2.out w2 hb2
            clear hgr2 h6 h7 hb hd hc hap hap1
            go_frame
            go_upto_region 12 with (fail)
            repeat ((fail_if_success (with_reducible show wpList _ _ _ (⟨some 44, _, _, _, _, _⟩ :: _) _ _)); first | go_values | go_skip | go_guarded | go_step | go_upon | go_back | go_simp)
            with_reducible refine append_arg rfl (.tmp 37) (.tmp 43) rfl wo.heap.size _ j _ (some ⟨w2.heap.size, 0, none⟩) 1 [x ^^^ 92] (h7b.alloc _) (arg_new rfl 5 (0, 0) [x ^^^ 92] 1 (by simpa using l92) (by simp) (by decide)) ?s1 ?s2 ?s3 ?s4 ?_
            case s1 => rfl
            case s2 => rfl
            case s3 => simp; omega
            case s4 => have := hb2.size; simp; omega
            intro v7 w3 h7c hgr3
            have hb3 : Below wo.heap.size wo w3 := (hb2.alloc hb2.size _).grown hgr3 (by have := hb2.size; simp; omega) (own_u8_ge h7b)
            have h6c := (h6b.alloc _).kept hgr3 (.inr hap2.symm)
            rw [← u8s_append, ← HT92.out] at h7c
            have hap3 := apart_of h6c h7c (mask_head K 54 (j + 1) (by rw [HKlen.out]; decide) (by omega)) (mask_head K 92 (j + 1) (by rw [HKlen.out]; decide) (by omega)) (xor_unlike _)
            clear hgr3 h6b h7b hb2 hap2 hc2
            go_frame
            go_wp2
            go_roundw
            case rel => exact ⟨j + 1, by omega, by go_num, h6c, h7c, .inr ⟨by omega, hap3⟩, hb3⟩
            case measure => simp [intOf]; omega
          · obtain rfl : j = 64 := by omega
            have hd : decide (((64 : Nat) : Int) < 64) = false := by decide
            rw [List.take_of_length_le (by rw [Sha.mask_length, HKlen.out]; exact Nat.le_refl _)] at h6 h7
            have hb1r : Below w1.heap.size w1 wr := hbo.trans (hb.mono hbo.size)
            have hqr := hq1.below hb1r (Nat.le_refl _)
            go_upto_region 13 with (fail)
            repeat ((fail_if_success (with_reducible show wpList _ _ _ (⟨some 47, _, _, _, _, _⟩ :: _) _ _)); first | go_values | go_skip | go_guarded | go_step | go_upon | go_back | go_simp)
            with_reducible refine append_arg rfl (.tmp 45) (.tmp 46) rfl wo.heap.size _ 64 _ A' c' q h6 hqr ?s1 ?s2 ?s3 ?s4 ?_
            case s1 => rfl
            case s2 => rw [Hl.out]; rfl
            case s3 => rw [Hl.out]; omega
            case s4 => exact hb.size
            intro v8 w4 h8 hgr4
            have hb4 : Below wo.heap.size wo w4 := hb.grown hgr4 hb.size (own_u8_ge h6)
            have h7b := h7.kept hgr4 hap1
            rw [← u8s_append, Hl.out] at h8
            have HIlt : Hid (∀ y ∈ Sha.mask K 54 ++ q, y < 256) := fun y hy => (List.mem_append.1 hy).elim (Sha.mask_lt K 54 HKlt.out (by decide) y) (hqr.2.2.1 y)
            obtain ⟨I, hI⟩ : ∃ I, Sha.mask K 54 ++ q = I := ⟨_, rfl⟩
            rw [hI] at h8 HIlt
            have HI := Lib.hid hI
            obtain ⟨A8, c8, rfl⟩ := own_slice h8
            obtain ⟨hIl, harg8⟩ := own_arg h8 HIlt.out
            have hS := refSum_any I A8 c8 w4 harg8 (by omega)
            rw [hIl] at hS
            have HS := Lib.hid hS
            clear hS hI hgr4 h6 h7 hap hap1 hb hqr hb1r harg8 h8 hIl
            go_frame
            go_wp2_with fail
            refine HS.out.mono ?_
            rintro e w5 ⟨rfl, hb5⟩
            have h7c := own_below h7b hb5
            have hbo5 : Below wo.heap.size wo w5 := hb4.trans (hb5.mono hb4.size)
            clear HS h7b hb4 hb5 hd
            go_wp2_with fail
            refine (refBytes_any (Sha.sum I) w5 (Sha.sum_length I) (Sha.sum_lt I)).mono ?_
            rintro e w6 ⟨v9, rfl, h9, hb6⟩
            have h7d := own_below h7c hb6
            have hbo6 : Below wo.heap.size wo w6 := hbo5.trans (hb6.mono hbo5.size)
            obtain ⟨A9, c9, rfl⟩ := own_slice h9
            obtain ⟨_, harg9⟩ := own_arg h9 (Sha.sum_lt I)
            clear h7c hb6 hbo5 h9
            go_upto_region 15 with (fail)
            repeat ((fail_if_success (with_reducible show wpList _ _ _ (⟨some 53, _, _, _, _, _⟩ :: _) _ _)); first | go_values | go_skip | go_guarded | go_step | go_upon | go_back | go_simp)
            with_reducible refine append_arg rfl (.tmp 51) (.tmp 52) rfl wo.heap.size _ 64 _ A9 c9 (Sha.sum I) h7d harg9 ?s1 ?s2 ?s3 ?s4 ?_
            case s1 => rfl
            case s2 => rw [Sha.sum_length]; rfl
            case s3 => rw [Sha.sum_length]; decide
            case s4 => exact hbo6.size
            intro v10 w7 h10 hgr7
            have hb7 : Below wo.heap.size wo w7 := hbo6.grown hgr7 hbo6.size (own_u8_ge h7d)
            rw [← u8s_append, Sha.sum_length] at h10
            have HOlt : Hid (∀ y ∈ Sha.mask K 92 ++ Sha.sum I, y < 256) := fun y hy => (List.mem_append.1 hy).elim (Sha.mask_lt K 92 HKlt.out (by decide) y) (Sha.sum_lt I y)
            obtain ⟨O, hO⟩ : ∃ O, Sha.mask K 92 ++ Sha.sum I = O := ⟨_, rfl⟩
            rw [hO] at h10 HOlt
            have HO := Lib.hid hO
            obtain ⟨A10, c10, rfl⟩ := own_slice h10
            obtain ⟨hOl, harg10⟩ := own_arg h10 HOlt.out
            have hS := refSum_any O A10 c10 w7 harg10 (by omega)
            rw [hOl] at hS
            have HS := Lib.hid hS
            clear hS hO hgr7 h7d hbo6 harg9 harg10 h10 hOl
            go_frame
            go_wp2_with fail
            refine HS.out.mono ?_
            rintro e w8 ⟨rfl, hb8⟩
            have hbo8 : Below wo.heap.size wo w8 := hb7.trans (hb8.mono hb7.size)
            have hb18 : Below w1.heap.size w1 w8 := hbo.trans (hbo8.mono hbo.size)
            have h08 := h01.below hb18 h01.lt
            have Hl32 : Hid ((u8s (Sha.sum O)).length = 32) := by unfold Hid; rw [u8s_length, Sha.sum_length]
            have Hone : Hid ((u8s (Sha.sum O)).all (·.oneCell') = true) := List.all_eq_true.2 (u8s_one _)
            have Hfin : Hid (Sha.mac K0 q = Sha.sum O) := by unfold Hid Sha.mac; rw [HKe.out, HI.out, HO.out]
            obtain ⟨D, hDe⟩ : ∃ D, u8s (Sha.sum O) = D := ⟨_, rfl⟩
            rw [hDe] at Hl32 Hone ⊢
            have HDe := Lib.hid hDe
            clear hDe HS hb7 hb8 hbo8
            repeat ((fail_if_success (with_reducible show wpList _ _ _ (⟨none, _, _, _, _, _⟩ :: _) _ _)); first | go_values | go_skip | go_guarded | go_step | go_upon | go_back | go_simp)
            with_reducible refine store_lies rfl 71 (.tmp 4) (.tmp 55) rfl w.heap.size D 71 (z8 32) h08 ?sx ?sy ?si ?sl ?s1 ?_
            case sx => rfl
            case sy => rfl
            case si => (rw [z8_length]; exact info25)
            case sl => rw [Hl32.out, z8_length]
            case s1 => exact Hone.out
            go_wp2
            refine bodyPost_ret (results_one Tryz.results50 _ _ w.heap.size 71 D _ rfl h08.row Tryz.underlying71 rfl (by rw [Hl32.out]; exact info25)) rfl ⟨?_, below_row (hb1.trans (hb18.mono hb1.size)) (Nat.le_refl _)⟩
            rw [Hfin.out, HDe.out]
end Go.Proofs.YthklgpflaghojaaGreatDoor
