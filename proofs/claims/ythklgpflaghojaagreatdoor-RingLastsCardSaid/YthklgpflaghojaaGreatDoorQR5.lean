/-
  QR5: Padded RefSum Eq RefBytes, side by side.
-/
import Derived.Test.YthklgpflaghojaaGreatDoorQR4
import Derived.Test.YthklgpflaghojaaGreatDoorQR3
import Derived.Laws.AppendOwnNone
import Derived.Test.YthklgpflaghojaaGreatDoorQM
import Derived.Test.YthklgpflaghojaaGreatDoorQR2
import Derived.Laws.StructEq

/-
  The contract of the document's own Padded.
-/
namespace Go.Proofs.YthklgpflaghojaaGreatDoor
open Go.RowKit
theorem own_u8_ge {w : World} {base : Nat} {e : TypeId} {size n : Nat} {v : Value} {xs : List Value} (h : w.ownsRow base e size v n xs) : ∀ b, v.ownBlock = some b → base ≤ b := by
  rcases h.2 with ⟨rfl, _⟩ | ⟨g, cap, cur, rfl, hg, _⟩
  · intro b hb; simp [Value.ownBlock] at hb
  · intro b hb; simp [Value.ownBlock] at hb; omega

theorem zeros_test (l k : Nat) (_hk : k ≤ Sha.zeros l) : (k = Sha.zeros l → (l + 1 + k) % 64 = 56) ∧ (k < Sha.zeros l → (l + 1 + k) % 64 ≠ 56) := by
  unfold Sha.zeros at *
  constructor <;> intro h <;> omega

theorem zeros_lt (n : Nat) : Sha.zeros n < 64 := Nat.mod_lt _ (by decide)

set_option maxHeartbeats 2000000 in
set_option maxRecDepth 100000 in
theorem padded_any (q : List Nat) (A : Option Addr) (c : Nat) (w : World) (hq : ArgIs w A c q) (hn : q.length ≤ 140737488354000) :
    Calls Tryz.prog 89 #[.slice A q.length c] w fun e w' => ∃ v, e = .returned v ∧ w'.ownsRow w.heap.size 5 1 v (Sha.padded q).length (u8s (Sha.padded q)) ∧ Below w.heap.size w w' := by
  obtain ⟨i0, hi, hz0, hz1, hz2⟩ := info_parts info5b
  obtain ⟨l, hl⟩ : ∃ l, q.length = l := ⟨_, rfl⟩
  rw [hl] at hn ⊢
  have Hl := Lib.hid hl
  clear hl
  have hempty : (w.alloc (.cells #[] 5)).ownsRow w.heap.size 5 1 (.slice (some ⟨w.heap.size, 0, none⟩) 0 0) 0 [] := ⟨rfl, .inr ⟨w.heap.size, 0, #[], rfl, Nat.le_refl _, heap_alloc_new _ _, Nat.le_refl _, by decide, rfl, rfl⟩⟩
  go_enter Tryz.func89, Tryz.ntmps89
  repeat ((fail_if_success (with_reducible show wpList _ _ _ (⟨some 8, _, _, _, _, _⟩ :: _) _ _)); first | go_values | go_skip | go_guarded | go_step | go_upon | go_back | go_simp)
  with_reducible refine append_arg rfl (.tmp 6) (.tmp 7) rfl w.heap.size (.slice (some ⟨w.heap.size, 0, none⟩) 0 0) 0 [] A c q hempty (hq.alloc _) ?s1 ?s2 ?s3 ?s4 ?_
  case s1 => rfl
  case s2 => rw [Hl.out]; rfl
  case s3 => rw [Hl.out]; omega
  case s4 => simp
  intro v1 w1 hown1 hgr1
  rw [List.nil_append, Nat.zero_add, Hl.out] at hown1
  have hb1 : Below w.heap.size w w1 := ((Below.refl _ _).alloc (Nat.le_refl _) _).grown hgr1 (by simp) (own_u8_ge hempty)
  clear hempty hgr1
  go_frame
  go_upto_region 2 with (fail)
  repeat ((fail_if_success (with_reducible show wpList _ _ _ (⟨some 11, _, _, _, _, _⟩ :: _) _ _)); first | go_values | go_skip | go_guarded | go_step | go_upon | go_back | go_simp)
  with_reducible refine append_arg rfl (.tmp 9) (.tmp 10) rfl w.heap.size v1 l _ (some ⟨w1.heap.size, 0, none⟩) 1 [128] (hown1.alloc _) (arg_new rfl 5 (0, 0) [128] 1 (by decide) (by decide) (by decide)) ?s1 ?s2 ?s3 ?s4 ?_
  case s1 => rfl
  case s2 => rfl
  case s3 => simp; omega
  case s4 => have := hb1.size; simp; omega
  intro v2 w2 hown2 hgr2
  have hb2 : Below w.heap.size w w2 := (hb1.alloc hb1.size _).grown hgr2 (by have := hb1.size; simp; omega) (own_u8_ge hown1)
  rw [← u8s_append] at hown2
  obtain ⟨g, cap, rfl⟩ := own_form hown2 (by simp)
  clear hgr2 hown1 hb1
  go_frame
  go_wp2_with fail
  go_loopw [3] (fun v wr => ∃ k N g cap : Nat, k ≤ Sha.zeros l ∧ N = l + 1 + k ∧ v = .slice (some ⟨g, 0, none⟩) N cap ∧ wr.ownsRow w.heap.size 5 1 (.slice (some ⟨g, 0, none⟩) N cap) N (u8s (q ++ [128] ++ List.replicate k 0)) ∧ Below w.heap.size w wr)
    (fun v _ => Sha.zeros l + l + 1 - lenV v)
  case atStart => exact ⟨0, l + 1, g, cap, Nat.zero_le _, rfl, rfl, by simpa using hown2, hb2⟩
  case round =>
    clear hown2 hb2
    obtain ⟨k, N, g, cap, hk, hN, rfl, hown, hbel⟩ := hrel
    have HN := Lib.hid hN
    have hz := zeros_test l k hk
    rw [← hN] at hz
    have hN2 : N ≤ 140737488354065 := by have : Sha.zeros l < 64 := Nat.mod_lt _ (by decide); omega
    clear hN
    by_cases hlt : k < Sha.zeros l
    · have hd : (((N : Int) % 64) != 56) = true := by rw [bne_iff_ne]; have := hz.2 hlt; omega
      clear hz
      go_upto_region 4 with (fail)
      repeat ((fail_if_success (with_reducible show wpList _ _ _ (⟨some 18, _, _, _, _, _⟩ :: _) _ _)); first | go_values | go_skip | go_guarded | go_step | go_upon | go_back | go_simp)
      with_reducible refine append_arg rfl (.tmp 16) (.tmp 17) rfl w.heap.size (.slice (some ⟨g, 0, none⟩) N cap) N _ (some ⟨wr.heap.size, 0, none⟩) 1 [0] (hown.alloc _) (arg_new rfl 5 (0, 0) [0] 1 (by decide) (by decide) (by decide)) ?s1 ?s2 ?s3 ?s4 ?_
      case s1 => rfl
      case s2 => rfl
      case s3 => simp; omega
      case s4 => have := hbel.size; simp; omega
      intro v2 w2 hown2 hgr2
      have hb2 : Below w.heap.size w w2 := (hbel.alloc hbel.size _).grown hgr2 (by have := hbel.size; simp; omega) (own_u8_ge hown)
      rw [← u8s_append, List.append_assoc, ← List.replicate_succ'] at hown2
      obtain ⟨g2, cap2, rfl⟩ := own_form hown2 (by simp)
      clear hgr2 hown hbel hd
      go_frame
      go_wp2
      go_roundw
      case rel => exact ⟨k + 1, N + 1, g2, cap2, by omega, by have := HN.out; omega, rfl, hown2, hb2⟩
      case measure => simp [lenV]; have := HN.out; omega
    · have hd : (((N : Int) % 64) != 56) = false := by rw [bne_eq_false_iff_eq]; have := hz.1 (by omega); omega
      have HM : Hid (N = l + 1 + Sha.zeros l) := by have := HN.out; unfold Hid; omega
      have hkz : k = Sha.zeros l := by omega
      rw [hkz] at hown
      clear hz hlt hk hkz HN
      obtain ⟨M, rfl⟩ : ∃ M, M = N := ⟨_, rfl⟩
      obtain ⟨wo, rfl⟩ : ∃ wo : World, wo = wr := ⟨_, rfl⟩
      have hl8 : (l : Int) * 8 < 18446744073709551616 := by omega
      go_wp2_with fail
      clear hd
      go_loopw [3, 5] (fun v i wr => ∃ j g cap : Nat, j ≤ 8 ∧ i = .int .i64 (7 - (j : Int)) ∧ v = .slice (some ⟨g, 0, none⟩) (M + j) cap ∧ wr.ownsRow w.heap.size 5 1 (.slice (some ⟨g, 0, none⟩) (M + j) cap) (M + j) (u8s (q ++ [128] ++ List.replicate (Sha.zeros l) 0 ++ (Sha.be (8 * l) 8).take j)) ∧ Below w.heap.size w wr)
        (fun _ i _ => (intOf i + 1).toNat)
      case atStart => exact ⟨0, g, cap, Nat.zero_le _, rfl, rfl, by simpa using hown, hbel⟩
      case round =>
        clear hown hbel
        obtain ⟨j, g, cap, hj, rfl, rfl, hown, hbel⟩ := hrel
        obtain rfl | rfl | rfl | rfl | rfl | rfl | rfl | rfl | rfl : j = 0 ∨ j = 1 ∨ j = 2 ∨ j = 3 ∨ j = 4 ∨ j = 5 ∨ j = 6 ∨ j = 7 ∨ j = 8 := by omega
        · rw [show ((7 : Int) - ((0 : Nat) : Int)) = 7 from rfl]
          have hd : decide ((0 : Int) ≤ 7) = true := by decide
          obtain ⟨x, hx⟩ : ∃ x : Nat, 8 * l / 72057594037927936 % 256 = x := ⟨_, rfl⟩
          have hx256 : x < 256 := by omega
          have hxi : (l : Int) * 8 / 72057594037927936 = (x : Int) := by omega
          have Hx : Hid ((Sha.be (8 * l) 8).take 1 = (Sha.be (8 * l) 8).take 0 ++ [x]) := by
            unfold Hid; rw [← hx, Sha.be8, Sha.be4, Sha.be4]; simp [Nat.div_div_eq_div_mul]
          clear hx
          go_upto_region 9 with (fail)
          repeat ((fail_if_success (with_reducible show wpList _ _ _ (⟨some 35, _, _, _, _, _⟩ :: _) _ _)); first | go_values | go_skip | go_guarded | go_step | go_upon | go_back | go_simp)
          (try simp only [hxi])
          with_reducible refine append_arg rfl (.tmp 27) (.tmp 34) rfl w.heap.size (.slice (some ⟨g, 0, none⟩) (M + 0) cap) (M + 0) _ (some ⟨wr.heap.size, 0, none⟩) 1 [x] (hown.alloc _) (arg_new rfl 5 (0, 0) [x] 1 (by simpa using hx256) (by simp) (by decide)) ?s1 ?s2 ?s3 ?s4 ?_
          case s1 => rfl
          case s2 => rfl
          case s3 => simp; omega
          case s4 => have := hbel.size; simp; omega
          intro v2 w2 hown2 hgr2
          have hb2 : Below w.heap.size w w2 := (hbel.alloc hbel.size _).grown hgr2 (by have := hbel.size; simp; omega) (own_u8_ge hown)
          rw [← u8s_append, List.append_assoc, ← Hx.out] at hown2
          obtain ⟨g2, cap2, rfl⟩ := own_form hown2 (by simp)
          clear hgr2 hown hbel Hx hxi
          go_frame
          go_wp2
          go_roundw
          case rel => exact ⟨1, g2, cap2, by omega, rfl, rfl, hown2, hb2⟩
          case measure => simp [intOf]
        · rw [show ((7 : Int) - ((1 : Nat) : Int)) = 6 from rfl]
          have hd : decide ((0 : Int) ≤ 6) = true := by decide
          obtain ⟨x, hx⟩ : ∃ x : Nat, 8 * l / 281474976710656 % 256 = x := ⟨_, rfl⟩
          have hx256 : x < 256 := by omega
          have hxi : (l : Int) * 8 / 281474976710656 = (x : Int) := by omega
          have Hx : Hid ((Sha.be (8 * l) 8).take 2 = (Sha.be (8 * l) 8).take 1 ++ [x]) := by
            unfold Hid; rw [← hx, Sha.be8, Sha.be4, Sha.be4]; simp [Nat.div_div_eq_div_mul]
          clear hx
          go_upto_region 9 with (fail)
          repeat ((fail_if_success (with_reducible show wpList _ _ _ (⟨some 35, _, _, _, _, _⟩ :: _) _ _)); first | go_values | go_skip | go_guarded | go_step | go_upon | go_back | go_simp)
          (try simp only [hxi])
          with_reducible refine append_arg rfl (.tmp 27) (.tmp 34) rfl w.heap.size (.slice (some ⟨g, 0, none⟩) (M + 1) cap) (M + 1) _ (some ⟨wr.heap.size, 0, none⟩) 1 [x] (hown.alloc _) (arg_new rfl 5 (0, 0) [x] 1 (by simpa using hx256) (by simp) (by decide)) ?s1 ?s2 ?s3 ?s4 ?_
          case s1 => rfl
          case s2 => rfl
          case s3 => simp; omega
          case s4 => have := hbel.size; simp; omega
          intro v2 w2 hown2 hgr2
          have hb2 : Below w.heap.size w w2 := (hbel.alloc hbel.size _).grown hgr2 (by have := hbel.size; simp; omega) (own_u8_ge hown)
          rw [← u8s_append, List.append_assoc, ← Hx.out] at hown2
          obtain ⟨g2, cap2, rfl⟩ := own_form hown2 (by simp)
          clear hgr2 hown hbel Hx hxi
          go_frame
          go_wp2
          go_roundw
          case rel => exact ⟨2, g2, cap2, by omega, rfl, rfl, hown2, hb2⟩
          case measure => simp [intOf]
        · rw [show ((7 : Int) - ((2 : Nat) : Int)) = 5 from rfl]
          have hd : decide ((0 : Int) ≤ 5) = true := by decide
          obtain ⟨x, hx⟩ : ∃ x : Nat, 8 * l / 1099511627776 % 256 = x := ⟨_, rfl⟩
          have hx256 : x < 256 := by omega
          have hxi : (l : Int) * 8 / 1099511627776 % 256 = (x : Int) := by omega
          have Hx : Hid ((Sha.be (8 * l) 8).take 3 = (Sha.be (8 * l) 8).take 2 ++ [x]) := by
            unfold Hid; rw [← hx, Sha.be8, Sha.be4, Sha.be4]; simp [Nat.div_div_eq_div_mul]
          clear hx
          go_upto_region 9 with (fail)
          repeat ((fail_if_success (with_reducible show wpList _ _ _ (⟨some 35, _, _, _, _, _⟩ :: _) _ _)); first | go_values | go_skip | go_guarded | go_step | go_upon | go_back | go_simp)
          (try simp only [hxi])
          with_reducible refine append_arg rfl (.tmp 27) (.tmp 34) rfl w.heap.size (.slice (some ⟨g, 0, none⟩) (M + 2) cap) (M + 2) _ (some ⟨wr.heap.size, 0, none⟩) 1 [x] (hown.alloc _) (arg_new rfl 5 (0, 0) [x] 1 (by simpa using hx256) (by simp) (by decide)) ?s1 ?s2 ?s3 ?s4 ?_
          case s1 => rfl
          case s2 => rfl
          case s3 => simp; omega
          case s4 => have := hbel.size; simp; omega
          intro v2 w2 hown2 hgr2
          have hb2 : Below w.heap.size w w2 := (hbel.alloc hbel.size _).grown hgr2 (by have := hbel.size; simp; omega) (own_u8_ge hown)
          rw [← u8s_append, List.append_assoc, ← Hx.out] at hown2
          obtain ⟨g2, cap2, rfl⟩ := own_form hown2 (by simp)
          clear hgr2 hown hbel Hx hxi
          go_frame
          go_wp2
          go_roundw
          case rel => exact ⟨3, g2, cap2, by omega, rfl, rfl, hown2, hb2⟩
          case measure => simp [intOf]
        · rw [show ((7 : Int) - ((3 : Nat) : Int)) = 4 from rfl]
          have hd : decide ((0 : Int) ≤ 4) = true := by decide
          obtain ⟨x, hx⟩ : ∃ x : Nat, 8 * l / 4294967296 % 256 = x := ⟨_, rfl⟩
          have hx256 : x < 256 := by omega
          have hxi : (l : Int) * 8 / 4294967296 % 256 = (x : Int) := by omega
          have Hx : Hid ((Sha.be (8 * l) 8).take 4 = (Sha.be (8 * l) 8).take 3 ++ [x]) := by
            unfold Hid; rw [← hx, Sha.be8, Sha.be4, Sha.be4]; simp [Nat.div_div_eq_div_mul]
          clear hx
          go_upto_region 9 with (fail)
          repeat ((fail_if_success (with_reducible show wpList _ _ _ (⟨some 35, _, _, _, _, _⟩ :: _) _ _)); first | go_values | go_skip | go_guarded | go_step | go_upon | go_back | go_simp)
          (try simp only [hxi])
          with_reducible refine append_arg rfl (.tmp 27) (.tmp 34) rfl w.heap.size (.slice (some ⟨g, 0, none⟩) (M + 3) cap) (M + 3) _ (some ⟨wr.heap.size, 0, none⟩) 1 [x] (hown.alloc _) (arg_new rfl 5 (0, 0) [x] 1 (by simpa using hx256) (by simp) (by decide)) ?s1 ?s2 ?s3 ?s4 ?_
          case s1 => rfl
          case s2 => rfl
          case s3 => simp; omega
          case s4 => have := hbel.size; simp; omega
          intro v2 w2 hown2 hgr2
          have hb2 : Below w.heap.size w w2 := (hbel.alloc hbel.size _).grown hgr2 (by have := hbel.size; simp; omega) (own_u8_ge hown)
          rw [← u8s_append, List.append_assoc, ← Hx.out] at hown2
          obtain ⟨g2, cap2, rfl⟩ := own_form hown2 (by simp)
          clear hgr2 hown hbel Hx hxi
          go_frame
          go_wp2
          go_roundw
          case rel => exact ⟨4, g2, cap2, by omega, rfl, rfl, hown2, hb2⟩
          case measure => simp [intOf]
        · rw [show ((7 : Int) - ((4 : Nat) : Int)) = 3 from rfl]
          have hd : decide ((0 : Int) ≤ 3) = true := by decide
          obtain ⟨x, hx⟩ : ∃ x : Nat, 8 * l / 16777216 % 256 = x := ⟨_, rfl⟩
          have hx256 : x < 256 := by omega
          have hxi : (l : Int) * 8 / 16777216 % 256 = (x : Int) := by omega
          have Hx : Hid ((Sha.be (8 * l) 8).take 5 = (Sha.be (8 * l) 8).take 4 ++ [x]) := by
            unfold Hid; rw [← hx, Sha.be8, Sha.be4, Sha.be4]; simp [Nat.div_div_eq_div_mul]
          clear hx
          go_upto_region 9 with (fail)
          repeat ((fail_if_success (with_reducible show wpList _ _ _ (⟨some 35, _, _, _, _, _⟩ :: _) _ _)); first | go_values | go_skip | go_guarded | go_step | go_upon | go_back | go_simp)
          (try simp only [hxi])
          with_reducible refine append_arg rfl (.tmp 27) (.tmp 34) rfl w.heap.size (.slice (some ⟨g, 0, none⟩) (M + 4) cap) (M + 4) _ (some ⟨wr.heap.size, 0, none⟩) 1 [x] (hown.alloc _) (arg_new rfl 5 (0, 0) [x] 1 (by simpa using hx256) (by simp) (by decide)) ?s1 ?s2 ?s3 ?s4 ?_
          case s1 => rfl
          case s2 => rfl
          case s3 => simp; omega
          case s4 => have := hbel.size; simp; omega
          intro v2 w2 hown2 hgr2
          have hb2 : Below w.heap.size w w2 := (hbel.alloc hbel.size _).grown hgr2 (by have := hbel.size; simp; omega) (own_u8_ge hown)
          rw [← u8s_append, List.append_assoc, ← Hx.out] at hown2
          obtain ⟨g2, cap2, rfl⟩ := own_form hown2 (by simp)
          clear hgr2 hown hbel Hx hxi
          go_frame
          go_wp2
          go_roundw
          case rel => exact ⟨5, g2, cap2, by omega, rfl, rfl, hown2, hb2⟩
          case measure => simp [intOf]
        · rw [show ((7 : Int) - ((5 : Nat) : Int)) = 2 from rfl]
          have hd : decide ((0 : Int) ≤ 2) = true := by decide
          obtain ⟨x, hx⟩ : ∃ x : Nat, 8 * l / 65536 % 256 = x := ⟨_, rfl⟩
          have hx256 : x < 256 := by omega
          have hxi : (l : Int) * 8 / 65536 % 256 = (x : Int) := by omega
          have Hx : Hid ((Sha.be (8 * l) 8).take 6 = (Sha.be (8 * l) 8).take 5 ++ [x]) := by
            unfold Hid; rw [← hx, Sha.be8, Sha.be4, Sha.be4]; simp [Nat.div_div_eq_div_mul]
          clear hx
          go_upto_region 9 with (fail)
          repeat ((fail_if_success (with_reducible show wpList _ _ _ (⟨some 35, _, _, _, _, _⟩ :: _) _ _)); first | go_values | go_skip | go_guarded | go_step | go_upon | go_back | go_simp)
          (try simp only [hxi])
          with_reducible refine append_arg rfl (.tmp 27) (.tmp 34) rfl w.heap.size (.slice (some ⟨g, 0, none⟩) (M + 5) cap) (M + 5) _ (some ⟨wr.heap.size, 0, none⟩) 1 [x] (hown.alloc _) (arg_new rfl 5 (0, 0) [x] 1 (by simpa using hx256) (by simp) (by decide)) ?s1 ?s2 ?s3 ?s4 ?_
          case s1 => rfl
          case s2 => rfl
          case s3 => simp; omega
          case s4 => have := hbel.size; simp; omega
          intro v2 w2 hown2 hgr2
          have hb2 : Below w.heap.size w w2 := (hbel.alloc hbel.size _).grown hgr2 (by have := hbel.size; simp; omega) (own_u8_ge hown)
          rw [← u8s_append, List.append_assoc, ← Hx.out] at hown2
          obtain ⟨g2, cap2, rfl⟩ := own_form hown2 (by simp)
          clear hgr2 hown hbel Hx hxi
          go_frame
          go_wp2
          go_roundw
          case rel => exact ⟨6, g2, cap2, by omega, rfl, rfl, hown2, hb2⟩
          case measure => simp [intOf]
        · rw [show ((7 : Int) - ((6 : Nat) : Int)) = 1 from rfl]
          have hd : decide ((0 : Int) ≤ 1) = true := by decide
          obtain ⟨x, hx⟩ : ∃ x : Nat, 8 * l / 256 % 256 = x := ⟨_, rfl⟩
          have hx256 : x < 256 := by omega
          have hxi : (l : Int) * 8 / 256 % 256 = (x : Int) := by omega
          have Hx : Hid ((Sha.be (8 * l) 8).take 7 = (Sha.be (8 * l) 8).take 6 ++ [x]) := by
            unfold Hid; rw [← hx, Sha.be8, Sha.be4, Sha.be4]; simp [Nat.div_div_eq_div_mul]
          clear hx
          go_upto_region 9 with (fail)
          repeat ((fail_if_success (with_reducible show wpList _ _ _ (⟨some 35, _, _, _, _, _⟩ :: _) _ _)); first | go_values | go_skip | go_guarded | go_step | go_upon | go_back | go_simp)
          (try simp only [hxi])
          with_reducible refine append_arg rfl (.tmp 27) (.tmp 34) rfl w.heap.size (.slice (some ⟨g, 0, none⟩) (M + 6) cap) (M + 6) _ (some ⟨wr.heap.size, 0, none⟩) 1 [x] (hown.alloc _) (arg_new rfl 5 (0, 0) [x] 1 (by simpa using hx256) (by simp) (by decide)) ?s1 ?s2 ?s3 ?s4 ?_
          case s1 => rfl
          case s2 => rfl
          case s3 => simp; omega
          case s4 => have := hbel.size; simp; omega
          intro v2 w2 hown2 hgr2
          have hb2 : Below w.heap.size w w2 := (hbel.alloc hbel.size _).grown hgr2 (by have := hbel.size; simp; omega) (own_u8_ge hown)
          rw [← u8s_append, List.append_assoc, ← Hx.out] at hown2
          obtain ⟨g2, cap2, rfl⟩ := own_form hown2 (by simp)
          clear hgr2 hown hbel Hx hxi
          go_frame
          go_wp2
          go_roundw
          case rel => exact ⟨7, g2, cap2, by omega, rfl, rfl, hown2, hb2⟩
          case measure => simp [intOf]
        · rw [show ((7 : Int) - ((7 : Nat) : Int)) = 0 from rfl]
          have hd : decide ((0 : Int) ≤ 0) = true := by decide
          obtain ⟨x, hx⟩ : ∃ x : Nat, 8 * l / 1 % 256 = x := ⟨_, rfl⟩
          have hx256 : x < 256 := by omega
          have hxi : (l : Int) * 8 % 256 = (x : Int) := by omega
          have Hx : Hid ((Sha.be (8 * l) 8).take 8 = (Sha.be (8 * l) 8).take 7 ++ [x]) := by
            unfold Hid; rw [← hx, Sha.be8, Sha.be4, Sha.be4]; simp [Nat.div_div_eq_div_mul]
          clear hx
          go_upto_region 9 with (fail)
          repeat ((fail_if_success (with_reducible show wpList _ _ _ (⟨some 35, _, _, _, _, _⟩ :: _) _ _)); first | go_values | go_skip | go_guarded | go_step | go_upon | go_back | go_simp)
          (try simp only [hxi])
          with_reducible refine append_arg rfl (.tmp 27) (.tmp 34) rfl w.heap.size (.slice (some ⟨g, 0, none⟩) (M + 7) cap) (M + 7) _ (some ⟨wr.heap.size, 0, none⟩) 1 [x] (hown.alloc _) (arg_new rfl 5 (0, 0) [x] 1 (by simpa using hx256) (by simp) (by decide)) ?s1 ?s2 ?s3 ?s4 ?_
          case s1 => rfl
          case s2 => rfl
          case s3 => simp; omega
          case s4 => have := hbel.size; simp; omega
          intro v2 w2 hown2 hgr2
          have hb2 : Below w.heap.size w w2 := (hbel.alloc hbel.size _).grown hgr2 (by have := hbel.size; simp; omega) (own_u8_ge hown)
          rw [← u8s_append, List.append_assoc, ← Hx.out] at hown2
          obtain ⟨g2, cap2, rfl⟩ := own_form hown2 (by simp)
          clear hgr2 hown hbel Hx hxi
          go_frame
          go_wp2
          go_roundw
          case rel => exact ⟨8, g2, cap2, by omega, rfl, rfl, hown2, hb2⟩
          case measure => simp [intOf]
        · rw [show ((7 : Int) - ((8 : Nat) : Int)) = -1 from rfl]
          have hd : decide ((0 : Int) ≤ -1) = false := by decide
          go_wp2
          go_ret
          have e : Sha.padded q = q ++ [128] ++ List.replicate (Sha.zeros l) 0 ++ (Sha.be (8 * l) 8).take 8 := by
            unfold Sha.padded
            rw [Hl.out, Nat.mod_eq_of_lt (by omega), List.take_of_length_le (by rw [Sha.be_length]; exact Nat.le_refl _)]
          have en : (Sha.padded q).length = M + 8 := by
            rw [e, HM.out]; simp [Sha.be_length, Hl.out]; omega
          refine ⟨_, rfl, ?_, hbel⟩
          rw [en, e]
          exact hown
end Go.Proofs.YthklgpflaghojaaGreatDoor

/-
  The contract of the document's own Sum.
-/
namespace Go.Proofs.YthklgpflaghojaaGreatDoor
open Go.RowKit

theorem bytes_at (s : Sha.St) (m r : Nat) (hm : m < 8) (hr : r < 4) : s.bytes[4 * m + r]? = (Sha.be (s.list.getD m 0).toNat 4)[r]? := by
  have h : s.bytes = Sha.be s.a.toNat 4 ++ (Sha.be s.b.toNat 4 ++ (Sha.be s.c.toNat 4 ++ (Sha.be s.d.toNat 4 ++ (Sha.be s.e.toNat 4 ++ (Sha.be s.f.toNat 4 ++ (Sha.be s.g.toNat 4 ++ Sha.be s.h.toNat 4)))))) := by
    simp [Sha.St.bytes, Sha.St.list]
  rw [h]
  simp only [Sha.be4]
  match m, hm, r, hr with
  | 0, _, 0, _ => rfl
  | 0, _, 1, _ => rfl
  | 0, _, 2, _ => rfl
  | 0, _, 3, _ => rfl
  | 1, _, 0, _ => rfl
  | 1, _, 1, _ => rfl
  | 1, _, 2, _ => rfl
  | 1, _, 3, _ => rfl
  | 2, _, 0, _ => rfl
  | 2, _, 1, _ => rfl
  | 2, _, 2, _ => rfl
  | 2, _, 3, _ => rfl
  | 3, _, 0, _ => rfl
  | 3, _, 1, _ => rfl
  | 3, _, 2, _ => rfl
  | 3, _, 3, _ => rfl
  | 4, _, 0, _ => rfl
  | 4, _, 1, _ => rfl
  | 4, _, 2, _ => rfl
  | 4, _, 3, _ => rfl
  | 5, _, 0, _ => rfl
  | 5, _, 1, _ => rfl
  | 5, _, 2, _ => rfl
  | 5, _, 3, _ => rfl
  | 6, _, 0, _ => rfl
  | 6, _, 1, _ => rfl
  | 6, _, 2, _ => rfl
  | 6, _, 3, _ => rfl
  | 7, _, 0, _ => rfl
  | 7, _, 1, _ => rfl
  | 7, _, 2, _ => rfl
  | 7, _, 3, _ => rfl

/-- The first bytes of a digest, and bytes 0 up to 32. -/
def digTo (s : Sha.St) (j : Nat) : List Value := u8s (s.bytes.take j) ++ List.replicate (32 - j) (.int .u8 0)
theorem digTo_next (s : Sha.St) (j : Nat) (hj : j < 32) : (digTo s j)[j]? = some (.int .u8 0) := by
  unfold digTo
  have hl : (u8s (s.bytes.take j)).length = j := by rw [u8s_length, List.length_take, Sha.bytes_length]; omega
  rw [List.getElem?_append_right (by omega), hl]
  obtain ⟨k, hk⟩ : ∃ k, 32 - j = k + 1 := ⟨31 - j, by omega⟩
  simp [hk, List.replicate_succ]
theorem digTo_put (s : Sha.St) (j : Nat) (v : Value) (hj : j < 32) : (digTo s j).set j v = u8s (s.bytes.take j) ++ (v :: List.replicate (32 - (j + 1)) (.int .u8 0)) := by
  unfold digTo
  have hl : (u8s (s.bytes.take j)).length = j := by rw [u8s_length, List.length_take, Sha.bytes_length]; omega
  rw [List.set_append_right _ _ (by omega), hl]
  obtain ⟨k, hk⟩ : ∃ k, 32 - j = k + 1 := ⟨31 - j, by omega⟩
  rw [hk, show 32 - (j + 1) = k from by omega]
  simp [List.replicate_succ]
theorem digTo_put' (s : Sha.St) (j y : Nat) (hj : j < 32) (hb : s.bytes.take (j + 1) = s.bytes.take j ++ [y]) : (digTo s j).set j (.int .u8 (y : Int)) = digTo s (j + 1) := by
  rw [digTo_put _ _ _ hj]
  unfold digTo
  rw [hb, u8s_append]
  simp [u8s]
theorem digTo_all (s : Sha.St) : digTo s 32 = u8s s.bytes := by
  unfold digTo
  rw [List.take_of_length_le (by rw [Sha.bytes_length]; exact Nat.le_refl _)]; simp
theorem padded_64 (q : List Nat) : ∃ K, (Sha.padded q).length = 64 * K := by
  refine ⟨q.length / 64 + Sha.ends (q.length % 64) / 64, ?_⟩
  have hl : (q.drop (64 * (q.length / 64))).length = q.length % 64 := by simp; omega
  have ht := Sha.tail_length (q.drop (64 * (q.length / 64))) q.length (by omega)
  rw [hl] at ht
  rw [Sha.padded_split, List.length_append, ht, List.length_take]
  have hc : Sha.ends (q.length % 64) = 64 ∨ Sha.ends (q.length % 64) = 128 := by unfold Sha.ends; split <;> simp
  omega
theorem padded_lt (q : List Nat) (hq : ∀ x ∈ q, x < 256) : ∀ x ∈ Sha.padded q, x < 256 := by
  rw [Sha.padded_split]
  intro x hx
  rcases List.mem_append.1 hx with hx | hx
  · exact hq x (List.mem_of_mem_take hx)
  · exact Sha.tail_lt _ _ (fun y hy => hq y (List.mem_of_mem_drop hy)) x hx

theorem own_lt {w : World} {base g n cap : Nat} {e : TypeId} {size : Nat} {xs : List Value} (h : w.ownsRow base e size (.slice (some ⟨g, 0, none⟩) n cap) n xs) : g < w.heap.size := by
  rcases h.2 with ⟨e0, _⟩ | ⟨g', cap', cur, e1, _, hh, _⟩
  · cases e0
  · have : g = g' := by simpa using congrArg (fun v => match v with | Value.slice (some a) _ _ => a.block | _ => 0) e1
    subst this
    rcases Nat.lt_or_ge g w.heap.size with hlt | hge
    · exact hlt
    · rw [Array.getElem?_eq_none hge] at hh; cases hh

set_option maxHeartbeats 1000000 in
set_option maxRecDepth 100000 in
theorem refSum_any (q : List Nat) (A : Option Addr) (c : Nat) (w : World) (hq : ArgIs w A c q) (hn : q.length ≤ 140737488354000) :
    Calls Tryz.prog 65 #[.slice A q.length c] w fun e w' => e = .returned (.agg (u8s (Sha.sum q)).toArray) ∧ Below w.heap.size w w' := by
  have hz := zero25
  go_enter Tryz.func65, Tryz.ntmps65
  go_wp2_with fail
  generalize hw1 : World.alloc (World.alloc _ _) _ = w1
  have h01 : Lies w1 w.heap.size 71 (z8 32) := by rw [← hw1]; exact (Lies.made w _ (z8 32)).alloc _
  have hh1 : Lies w1 (w.heap.size + 1) 101 (u32s Sha.init.list) := by rw [← hw1]; exact Lies.new_ (by simp)
  have hb1 : Below w.heap.size w w1 := by rw [← hw1]; exact ((Below.refl _ _).alloc (Nat.le_refl _) _).alloc (by simp) _
  clear hw1 hz
  refine (padded_any q A c w1 (hq.below hb1 (Nat.le_refl _)) hn).mono ?_
  rintro e w2 ⟨v, rfl, hown, hb2⟩
  obtain ⟨P, hP⟩ : ∃ P, Sha.padded q = P := ⟨_, rfl⟩
  obtain ⟨K, hK⟩ := padded_64 q
  have hPlt := padded_lt q hq.2.2.1
  have hPlen : (Sha.padded q).length ≤ 140737488354200 := by
    have := zeros_lt q.length
    simp only [Sha.padded, List.length_append, List.length_replicate, Sha.be_length, List.length_cons, List.length_nil]; omega
  have hPpos : 0 < (Sha.padded q).length := by simp [Sha.padded, Sha.be_length]; omega
  rw [hP] at hown hK hPlt hPlen hPpos
  obtain ⟨gp, cp, rfl⟩ := own_form hown hPpos
  obtain ⟨_, hargP⟩ := own_arg hown hPlt
  have hcp : P.length ≤ cp := hargP.1
  have hcm : cp ≤ 9223372036854775807 := hargP.2.1
  obtain ⟨gp', offp, ep, hgpw, hbyP⟩ := hargP.2.2.2 hPpos
  obtain ⟨rfl, rfl⟩ : gp = gp' ∧ 0 = offp := by
    have h1 := congrArg (fun a => match a with | some (⟨b, _, _⟩ : Addr) => b | none => 0) ep
    have h2 := congrArg (fun a => match a with | some (⟨_, o, _⟩ : Addr) => o | none => 0) ep
    exact ⟨h1, h2⟩
  have h02 := h01.below hb2 h01.lt
  have hh2 := hh1.below hb2 hh1.lt
  have hbel2 : Below w.heap.size w w2 := hb1.trans (hb2.mono hb1.size)
  have HP := Lib.hid hP
  clear h01 hh1 hb1 hb2 hown hargP ep hq hP
  obtain ⟨L, hL⟩ : ∃ L, P.length = L := ⟨_, rfl⟩
  rw [hL] at hK hPlen hcp hPpos ⊢
  have HL := Lib.hid hL
  have HK := Lib.hid hK
  have hKL : 64 * K ≤ L := by omega
  have hLK : L ≤ 64 * K := by omega
  clear hL hK
  go_wp2_with fail
  go_loopw [3, 5] (fun v i wr => ∃ (k gh ch : Nat) (xa xb xc xd xe xf xg xh : Sha.W), k ≤ K ∧ i = .int .i64 (64 * (k : Int)) ∧ v = .slice (some ⟨gh, 0, none⟩) 8 ch ∧ gh < wr.heap.size ∧ gp < wr.heap.size ∧ Sha.mixAll Sha.init P k = ⟨xa, xb, xc, xd, xe, xf, xg, xh⟩ ∧
      Hid (∀ j x, (u32s [xa, xb, xc, xd, xe, xf, xg, xh])[j]? = some x → wr.cell? ⟨gh, j, none⟩ = some x) ∧ BytesAt wr gp 0 P ∧ Lies wr w.heap.size 71 (z8 32) ∧ Below w.heap.size w wr)
    (fun _ i _ => 64 * K - (intOf i).toNat)
  case atStart => exact ⟨0, w.heap.size + 1, 8, Sha.init.a, Sha.init.b, Sha.init.c, Sha.init.d, Sha.init.e, Sha.init.f, Sha.init.g, Sha.init.h, Nat.zero_le _, rfl, rfl, hh2.lt, hgpw, rfl, fun j x hj => (hh2.cell j).trans hj, hbyP, h02, hbel2⟩
  case round =>
    clear hh2 hbyP h02 hbel2 hgpw
    obtain ⟨k, gh, ch, xa, xb, xc, xd, xe, xf, xg, xh, hk, rfl, rfl, hghw, hgpw, hst, Hcl, hbyP, h0r, hbel⟩ := hrel
    have Hst := Lib.hid hst
    clear hst
    by_cases hlt : k < K
    · have hd : decide (64 * (k : Int) < (L : Int)) = true := by simp; omega
      have q1 : 64 * k < cp := by omega
      have q2 : ¬ (cp = 64 * k) := by omega
      have q3 : (64 * (k : Int) + 64) ≤ (cp : Int) := by omega
      have Hl64 : Hid (((P.drop (64 * k)).take 64).length = 64) := by unfold Hid; rw [List.length_take, List.length_drop, HL.out]; omega
      have hby64 : BytesAt wr gp (64 * k) ((P.drop (64 * k)).take 64) := by
        have := (hbyP.cut (64 * k)).take 64
        rwa [Nat.zero_add] at this
      go_wp2_with fail
      refine (group_any ⟨xa, xb, xc, xd, xe, xf, xg, xh⟩ gh ch gp (64 * k) 64 (cp - 64 * k) ((P.drop (64 * k)).take 64) wr (Nat.le_refl _) Hl64.out hgpw hghw hby64 Hcl.out).mono ?_
      rintro e w3 ⟨v, rfl, hown3, hb3⟩
      obtain ⟨m, hm⟩ : ∃ m, Sha.mix ⟨xa, xb, xc, xd, xe, xf, xg, xh⟩ ((P.drop (64 * k)).take 64) = m := ⟨_, rfl⟩
      rw [hm] at hown3
      have Hm := Lib.hid hm
      clear hm
      obtain ⟨ya, yb, yc, yd, ye, yf, yg, yh⟩ := m
      obtain ⟨g3, c3, rfl⟩ := own_form hown3 (by omega)
      obtain ⟨hg3B, hc3⟩ := own_cells hown3 rfl (by omega)
      have hg3w := own_lt hown3
      have Hc3 : Hid (∀ j x, (u32s [ya, yb, yc, yd, ye, yf, yg, yh])[j]? = some x → w3.cell? ⟨g3, j, none⟩ = some x) := fun j x hj => by
        have hj8 : j < 8 := (List.getElem?_eq_some_iff.1 hj).1
        rw [hc3 j hj8]
        rw [u32s_at [ya, yb, yc, yd, ye, yf, yg, yh] hj8] at hj
        exact hj
      have h03 := h0r.below hb3 h0r.lt
      have hby3 := hbyP.below hb3 hgpw
      have hbel3 : Below w.heap.size w w3 := hbel.trans (hb3.mono hbel.size)
      have hs3 := hb3.size
      clear hown3 hc3 hb3 h0r hbyP hbel Hcl hd q1 q2 q3 hby64
      go_wp2
      go_roundw
      case rel => exact ⟨k + 1, g3, c3, ya, yb, yc, yd, ye, yf, yg, yh, by omega, by go_num, rfl, hg3w, by omega, by rw [Sha.mixAll, Hst.out]; exact Hm.out, Hc3, hby3, h03, hbel3⟩
      case measure => simp [intOf]; omega
    · have hd : decide (64 * (k : Int) < (L : Int)) = false := by simp; omega
      have hkK : k = K := by omega
      have HkK := Lib.hid hkK
      clear hkK
      obtain ⟨wo, rfl⟩ : ∃ wo : World, wo = wr := ⟨_, rfl⟩
      have hz := zero25
      go_wp2_with fail
      clear hz hd
      have HclN : Hid (∀ j, j < 8 → wo.cell? ⟨gh, j, none⟩ = some (.int .u32 (([xa, xb, xc, xd, xe, xf, xg, xh].getD j 0).toNat : Int))) := fun j hj => Hcl.out j _ (u32s_at [xa, xb, xc, xd, xe, xf, xg, xh] hj)
      have hs0 := hbel.size
      go_loopw [7] (fun i wr => ∃ j : Nat, j ≤ 32 ∧ i = .int .i64 j ∧ Lies wr wo.heap.size 71 (digTo ⟨xa, xb, xc, xd, xe, xf, xg, xh⟩ j) ∧ Lies wr w.heap.size 71 (z8 32) ∧
          Hid (∀ j, j < 8 → wr.cell? ⟨gh, j, none⟩ = some (.int .u32 (([xa, xb, xc, xd, xe, xf, xg, xh].getD j 0).toNat : Int))) ∧ Below w.heap.size w wr)
        (fun i _ => 32 - (intOf i).toNat)
      case atStart => exact ⟨0, Nat.zero_le _, rfl, Lies.new_ (cs := z8 32) rfl, h0r.alloc _, fun j hj => (World.cell?_alloc_lt _ _ _ hghw).trans (HclN.out j hj), hbel.alloc hs0 _⟩
      case round =>
        have hw0 := h0r.lt
        clear h0r hbyP hbel Hcl HclN
        obtain ⟨j, hj, rfl, hD, h05, Hcl, hb5⟩ := hrel
        by_cases hlt32 : j < 32
        · have hd : decide ((j : Int) < 32) = true := by simp; omega
          obtain ⟨m, hm⟩ : ∃ m, j / 4 = m := ⟨_, rfl⟩
          have hm8 : m < 8 := by omega
          have hcx := Hcl.out m hm8
          obtain ⟨x, hx⟩ : ∃ x, [xa, xb, xc, xd, xe, xf, xg, xh].getD m 0 = x := ⟨_, rfl⟩
          rw [hx] at hcx
          have Hx := Lib.hid hx
          clear hx
          have Hcl2 : ∀ v, Hid (∀ i, i < 8 → (wr.setCell ⟨wo.heap.size, j, none⟩ v).cell? ⟨gh, i, none⟩ = some (.int .u32 (([xa, xb, xc, xd, xe, xf, xg, xh].getD i 0).toNat : Int))) := fun v i hi =>
            (World.cell?_setCell_other _ _ _ _ (fun e => by have := congrArg Addr.block e; simp at this; omega)).trans (Hcl.out i hi)
          have hr4 : j % 4 = 0 ∨ j % 4 = 1 ∨ j % 4 = 2 ∨ j % 4 = 3 := by omega
          rcases hr4 with hr | hr | hr | hr
          · have f1 : (j : Int) / 4 = (m : Int) := by omega
            have f2 : (j : Int) % 4 = 0 := by omega
            have f3 : (m : Int) < 8 := by omega
            have f4 : (j : Int) < 32 := by omega
            obtain ⟨y, hy⟩ : ∃ y : Nat, x.toNat / 16777216 % 256 = y := ⟨_, rfl⟩
            have hyi : (x.toNat : Int) / 16777216 = (y : Int) := by have := x.isLt; omega
            have HB : Hid ((Sha.St.bytes ⟨xa, xb, xc, xd, xe, xf, xg, xh⟩).take (j + 1) = (Sha.St.bytes ⟨xa, xb, xc, xd, xe, xf, xg, xh⟩).take j ++ [y]) := by
              unfold Hid
              rw [List.take_succ_eq_append_getElem (by rw [Sha.bytes_length]; omega)]
              congr 2
              have hb := bytes_at ⟨xa, xb, xc, xd, xe, xf, xg, xh⟩ m 0 hm8 (by decide)
              have ej : 4 * m + 0 = j := by omega
              rw [ej] at hb
              have hb2 : (Sha.St.bytes ⟨xa, xb, xc, xd, xe, xf, xg, xh⟩)[j]? = some y := by
                rw [hb]
                simp only [Sha.St.list]
                rw [Hx.out, Sha.be4, ← hy]; rfl
              exact (List.getElem?_eq_some_iff.1 hb2).2
            have hcd : wr.cell? ⟨wo.heap.size, j, none⟩ = some (.int .u8 0) := by rw [hD.cell]; exact digTo_next _ _ (by omega)
            have hfd := hD.free j
            clear hy
            go_wp2
            (try simp only [hyi])
            go_roundw
            case rel =>
              refine ⟨j + 1, by omega, by go_num, ?_, h05.far (by simp; omega) _, Hcl2 _, hb5.setCell (by simp; omega) _⟩
              have h := hD.put j (.int .u8 (y : Int))
              rw [digTo_put' _ _ _ (by omega) HB.out] at h
              exact h
            case measure => simp [intOf]; omega
          · have f1 : (j : Int) / 4 = (m : Int) := by omega
            have f2 : (j : Int) % 4 = 1 := by omega
            have f3 : (m : Int) < 8 := by omega
            have f4 : (j : Int) < 32 := by omega
            obtain ⟨y, hy⟩ : ∃ y : Nat, x.toNat / 65536 % 256 = y := ⟨_, rfl⟩
            have hyi : (x.toNat : Int) / 65536 % 256 = (y : Int) := by have := x.isLt; omega
            have HB : Hid ((Sha.St.bytes ⟨xa, xb, xc, xd, xe, xf, xg, xh⟩).take (j + 1) = (Sha.St.bytes ⟨xa, xb, xc, xd, xe, xf, xg, xh⟩).take j ++ [y]) := by
              unfold Hid
              rw [List.take_succ_eq_append_getElem (by rw [Sha.bytes_length]; omega)]
              congr 2
              have hb := bytes_at ⟨xa, xb, xc, xd, xe, xf, xg, xh⟩ m 1 hm8 (by decide)
              have ej : 4 * m + 1 = j := by omega
              rw [ej] at hb
              have hb2 : (Sha.St.bytes ⟨xa, xb, xc, xd, xe, xf, xg, xh⟩)[j]? = some y := by
                rw [hb]
                simp only [Sha.St.list]
                rw [Hx.out, Sha.be4, ← hy]; rfl
              exact (List.getElem?_eq_some_iff.1 hb2).2
            have hcd : wr.cell? ⟨wo.heap.size, j, none⟩ = some (.int .u8 0) := by rw [hD.cell]; exact digTo_next _ _ (by omega)
            have hfd := hD.free j
            clear hy
            go_wp2
            (try simp only [hyi])
            go_roundw
            case rel =>
              refine ⟨j + 1, by omega, by go_num, ?_, h05.far (by simp; omega) _, Hcl2 _, hb5.setCell (by simp; omega) _⟩
              have h := hD.put j (.int .u8 (y : Int))
              rw [digTo_put' _ _ _ (by omega) HB.out] at h
              exact h
            case measure => simp [intOf]; omega
          · have f1 : (j : Int) / 4 = (m : Int) := by omega
            have f2 : (j : Int) % 4 = 2 := by omega
            have f3 : (m : Int) < 8 := by omega
            have f4 : (j : Int) < 32 := by omega
            obtain ⟨y, hy⟩ : ∃ y : Nat, x.toNat / 256 % 256 = y := ⟨_, rfl⟩
            have hyi : (x.toNat : Int) / 256 % 256 = (y : Int) := by have := x.isLt; omega
            have HB : Hid ((Sha.St.bytes ⟨xa, xb, xc, xd, xe, xf, xg, xh⟩).take (j + 1) = (Sha.St.bytes ⟨xa, xb, xc, xd, xe, xf, xg, xh⟩).take j ++ [y]) := by
              unfold Hid
              rw [List.take_succ_eq_append_getElem (by rw [Sha.bytes_length]; omega)]
              congr 2
              have hb := bytes_at ⟨xa, xb, xc, xd, xe, xf, xg, xh⟩ m 2 hm8 (by decide)
              have ej : 4 * m + 2 = j := by omega
              rw [ej] at hb
              have hb2 : (Sha.St.bytes ⟨xa, xb, xc, xd, xe, xf, xg, xh⟩)[j]? = some y := by
                rw [hb]
                simp only [Sha.St.list]
                rw [Hx.out, Sha.be4, ← hy]; rfl
              exact (List.getElem?_eq_some_iff.1 hb2).2
            have hcd : wr.cell? ⟨wo.heap.size, j, none⟩ = some (.int .u8 0) := by rw [hD.cell]; exact digTo_next _ _ (by omega)
            have hfd := hD.free j
            clear hy
            go_wp2
            (try simp only [hyi])
            go_roundw
            case rel =>
              refine ⟨j + 1, by omega, by go_num, ?_, h05.far (by simp; omega) _, Hcl2 _, hb5.setCell (by simp; omega) _⟩
              have h := hD.put j (.int .u8 (y : Int))
              rw [digTo_put' _ _ _ (by omega) HB.out] at h
              exact h
            case measure => simp [intOf]; omega
          · have f1 : (j : Int) / 4 = (m : Int) := by omega
            have f2 : (j : Int) % 4 = 3 := by omega
            have f3 : (m : Int) < 8 := by omega
            have f4 : (j : Int) < 32 := by omega
            obtain ⟨y, hy⟩ : ∃ y : Nat, x.toNat % 256 = y := ⟨_, rfl⟩
            have hyi : (x.toNat : Int) % 256 = (y : Int) := by have := x.isLt; omega
            have HB : Hid ((Sha.St.bytes ⟨xa, xb, xc, xd, xe, xf, xg, xh⟩).take (j + 1) = (Sha.St.bytes ⟨xa, xb, xc, xd, xe, xf, xg, xh⟩).take j ++ [y]) := by
              unfold Hid
              rw [List.take_succ_eq_append_getElem (by rw [Sha.bytes_length]; omega)]
              congr 2
              have hb := bytes_at ⟨xa, xb, xc, xd, xe, xf, xg, xh⟩ m 3 hm8 (by decide)
              have ej : 4 * m + 3 = j := by omega
              rw [ej] at hb
              have hb2 : (Sha.St.bytes ⟨xa, xb, xc, xd, xe, xf, xg, xh⟩)[j]? = some y := by
                rw [hb]
                simp only [Sha.St.list]
                rw [Hx.out, Sha.be4, ← hy]; rfl
              exact (List.getElem?_eq_some_iff.1 hb2).2
            have hcd : wr.cell? ⟨wo.heap.size, j, none⟩ = some (.int .u8 0) := by rw [hD.cell]; exact digTo_next _ _ (by omega)
            have hfd := hD.free j
            clear hy
            go_wp2
            (try simp only [hyi])
            go_roundw
            case rel =>
              refine ⟨j + 1, by omega, by go_num, ?_, h05.far (by simp; omega) _, Hcl2 _, hb5.setCell (by simp; omega) _⟩
              have h := hD.put j (.int .u8 (y : Int))
              rw [digTo_put' _ _ _ (by omega) HB.out] at h
              exact h
            case measure => simp [intOf]; omega
        · obtain rfl : j = 32 := by omega
          rw [digTo_all] at hD
          have Hl32 : Hid ((u8s (Sha.St.bytes ⟨xa, xb, xc, xd, xe, xf, xg, xh⟩)).length = 32) := by unfold Hid; rw [u8s_length, Sha.bytes_length]
          have Hone : Hid ((u8s (Sha.St.bytes ⟨xa, xb, xc, xd, xe, xf, xg, xh⟩)).all (·.oneCell') = true) := List.all_eq_true.2 (u8s_one _)
          obtain ⟨D, hDe⟩ : ∃ D, u8s (Sha.St.bytes ⟨xa, xb, xc, xd, xe, xf, xg, xh⟩) = D := ⟨_, rfl⟩
          rw [hDe] at hD Hl32 Hone
          have HDe := Lib.hid hDe
          clear hDe
          have hd : decide (((32 : Nat) : Int) < 32) = false := by decide
          go_upto_region 12 with (fail)
          repeat ((fail_if_success (with_reducible show wpList _ _ _ (⟨some 42, _, _, _, _, _⟩ :: _) _ _)); first | go_values | go_skip | go_guarded | go_step | go_upon | go_back | go_simp)
          with_reducible refine load_lies rfl 71 (.tmp 6) rfl wo.heap.size 71 D _ hD ?hx Tryz.underlying71 ?hd ?hi ?_
          case hx => rfl
          case hd => rfl
          case hi => (rw [Hl32.out]; exact info25)
          repeat ((fail_if_success (with_reducible show wpList _ _ _ (⟨none, _, _, _, _, _⟩ :: _) _ _)); first | go_values | go_skip | go_guarded | go_step | go_upon | go_back | go_simp)
          with_reducible refine store_lies rfl 71 (.tmp 2) (.tmp 42) rfl w.heap.size D 71 (z8 32) h05 ?sx ?sy ?si ?sl ?s1 ?_
          case sx => rfl
          case sy => rfl
          case si => (rw [z8_length]; exact info25)
          case sl => rw [Hl32.out, z8_length]
          case s1 => exact Hone.out
          go_wp2
          refine bodyPost_ret (results_one Tryz.results65 _ _ w.heap.size 71 D _ rfl h05.row Tryz.underlying71 rfl (by rw [Hl32.out]; exact info25)) rfl ⟨?_, below_row hb5 (Nat.le_refl _)⟩
          have e : Sha.sum q = Sha.St.bytes ⟨xa, xb, xc, xd, xe, xf, xg, xh⟩ := by
            unfold Sha.sum
            rw [HP.out, HL.out, show L / 64 = k from by have := HK.out; have := HkK.out; omega, Hst.out]
          rw [e, HDe.out]
end Go.Proofs.YthklgpflaghojaaGreatDoor

/-
  Two digests that are the same are found to be the same.
-/
namespace Go.Proofs.YthklgpflaghojaaGreatDoor
open Go.RowKit
end Go.Proofs.YthklgpflaghojaaGreatDoor

/-
  The contract of the document's own Bytes.
-/
namespace Go.Proofs.YthklgpflaghojaaGreatDoor
open Go.RowKit
theorem own_base {w : World} {base base' : Nat} {e : TypeId} {size n : Nat} {v : Value} {xs : List Value} (h : w.ownsRow base e size v n xs) (hb : base' ≤ base) : w.ownsRow base' e size v n xs := by
  refine ⟨h.1, ?_⟩
  rcases h.2 with hn | ⟨g, cap, cur, rfl, hB, rest⟩
  · exact .inl hn
  · exact .inr ⟨g, cap, cur, rfl, by omega, rest⟩
theorem take_next (L : List Nat) (k : Nat) (hk : k < L.length) : L.take (k + 1) = L.take k ++ [L.getD k 0] := by
  rw [List.take_succ_eq_append_getElem hk, List.getD_eq_getElem?_getD, List.getElem?_eq_getElem hk]; rfl
theorem getD_lt256 (L : List Nat) (k : Nat) (h : ∀ x ∈ L, x < 256) (hk : k < L.length) : L.getD k 0 < 256 := by
  rw [List.getD_eq_getElem?_getD, List.getElem?_eq_getElem hk]; exact h _ (List.getElem_mem hk)

set_option maxHeartbeats 400000 in
set_option maxRecDepth 100000 in
theorem refBytes_any (L : List Nat) (w : World) (hL : L.length = 32) (hlt : ∀ x ∈ L, x < 256) :
    Calls Tryz.prog 49 #[.agg (u8s L).toArray] w fun e w' => ∃ v, e = .returned v ∧ w'.ownsRow w.heap.size 5 1 v 32 (u8s L) ∧ Below w.heap.size w w' := by
  have HL := Lib.hid hL
  have Hlt := Lib.hid hlt
  clear hL hlt
  go_enter Tryz.func49, Tryz.ntmps49
  go_wp2_with fail
  generalize hw1 : World.alloc _ _ = w1
  have h01 : Lies w1 w.heap.size 71 (u8s L) := by rw [← hw1]; exact Lies.made w _ (u8s L)
  have hs1 : w1.heap.size = w.heap.size + 1 := by rw [← hw1]; simp
  have hb1 : Below w.heap.size w w1 := by rw [← hw1]; exact (Below.refl _ _).alloc (Nat.le_refl _) _
  clear hw1
  go_loopw [3, 4] (fun v i wr => ∃ k : Nat, k ≤ 32 ∧ i = .int .i64 k ∧ wr.ownsRow w1.heap.size 5 1 v k (u8s (L.take k)) ∧ Below w1.heap.size w1 wr) (fun _ i _ => 32 - (intOf i).toNat)
  case atStart => exact ⟨0, Nat.zero_le _, rfl, World.ownsRow_nil _ _ _ _, Below.refl _ _⟩
  case round =>
    obtain ⟨k, hk, rfl, hown, hb⟩ := hrel
    have h0 := h01.below hb h01.lt
    by_cases hlt : k < 32
    · have hd : decide ((k : Int) < 32) = true := by simp; omega
      have HT := Lib.hid (take_next L k (by rw [HL.out]; exact hlt))
      have hx := getD_lt256 L k Hlt.out (by rw [HL.out]; exact hlt)
      have hc : wr.cell? ⟨w.heap.size, k, none⟩ = some (.int .u8 (L.getD k 0 : Nat)) := by
        rw [h0.cell, List.getD_eq_getElem?_getD]
        have hk' : k < L.length := by rw [HL.out]; exact hlt
        simp [u8s, List.getElem?_eq_getElem hk']
      obtain ⟨x, ex⟩ : ∃ x, L.getD k 0 = x := ⟨_, rfl⟩
      rw [ex] at hx hc HT
      clear ex
      have f1 : (k : Int) < 32 := by omega
      go_upto_region 5 with (fail)
      repeat ((fail_if_success (with_reducible show wpList _ _ _ (⟨some 14, _, _, _, _, _⟩ :: _) _ _)); first | go_values | go_skip | go_guarded | go_step | go_upon | go_back | go_simp)
      with_reducible refine append_arg rfl (.tmp 9) (.tmp 13) rfl w1.heap.size _ k _ (some ⟨wr.heap.size, 0, none⟩) 1 [x] (hown.alloc _) (arg_new rfl 5 (0, 0) [x] 1 (by simpa using hx) (by simp) (by decide)) ?s1 ?s2 ?s3 ?s4 ?_
      case s1 => rfl
      case s2 => rfl
      case s3 => simp; omega
      case s4 => have := hb.size; simp; omega
      intro v2 w2 hown2 hgr2
      have hb2 : Below w1.heap.size w1 w2 := (hb.alloc hb.size _).grown hgr2 (by have := hb.size; simp; omega) (own_u8_ge hown)
      rw [← u8s_append, ← HT.out] at hown2
      clear hgr2 hown hb hd hc h0
      go_frame
      go_wp2
      go_roundw
      case rel => exact ⟨k + 1, by omega, by go_num, hown2, hb2⟩
      case measure => simp [intOf]; omega
    · obtain rfl : k = 32 := by omega
      have hd : decide (((32 : Nat) : Int) < 32) = false := by decide
      rw [List.take_of_length_le (by rw [HL.out]; exact Nat.le_refl _)] at hown
      go_wp2
      go_ret
      exact ⟨_, rfl, own_base hown (by omega), hb1.trans (hb.mono hb1.size)⟩
end Go.Proofs.YthklgpflaghojaaGreatDoor
