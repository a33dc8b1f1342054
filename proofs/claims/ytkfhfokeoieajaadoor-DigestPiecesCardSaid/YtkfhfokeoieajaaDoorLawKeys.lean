/-
  The walk of the law DigestKeys.
-/
import Derived.Test.YtkfhfokeoieajaaDoorZeros
import Derived.Test.YtkfhfokeoieajaaDoorAlive
import Derived.Test.YtkfhfokeoieajaaDoorEq
namespace Go.Proofs.YtkfhfokeoieajaaDoor
open Go.RowKit

theorem mac_zeros (k q : List Nat) (r : Nat) (h : k.length + r ≤ 64) : Sha.mac (k ++ List.replicate r 0) q = Sha.mac k q := by
  have e : Sha.keyG (k ++ List.replicate r 0) = Sha.keyG k := by
    unfold Sha.keyG
    have h1 : ¬ 64 < (k ++ List.replicate r 0).length := by rw [List.length_append, List.length_replicate]; omega
    have h2 : ¬ 64 < k.length := by omega
    rw [if_neg h1, if_neg h2, List.append_assoc, List.replicate_append_replicate, List.length_append, List.length_replicate]
    congr 2
    omega
  unfold Sha.mac
  rw [e]
theorem mac_sum (k q : List Nat) (h : 64 < k.length) : Sha.mac (Sha.sum k) q = Sha.mac k q := by
  have e : Sha.keyG (Sha.sum k) = Sha.keyG k := by
    unfold Sha.keyG
    have h1 : ¬ 64 < (Sha.sum k).length := by rw [Sha.sum_length]; decide
    rw [if_neg h1, if_pos h]
  unfold Sha.mac
  rw [e]

set_option maxHeartbeats 400000 in
set_option maxRecDepth 100000 in
theorem lawKeys_bad (k q : List Nat) (A A' : Option Addr) (c c' : Nat) (m : Int) (w : World) (hT : Tab w) (hk : k.length ≤ 64) (hm : m < 0 ∨ 64 - (k.length : Int) < m) :
    Calls Tryd.prog 7 #[.slice A k.length c, .slice A' q.length c', .int .i64 m] w fun e w' => e = .returned (.bool true) ∧ Below w.heap.size w w' := by
  obtain ⟨l, hl⟩ : ∃ l, k.length = l := ⟨_, rfl⟩
  rw [hl] at hk hm ⊢
  clear hl
  have hd : decide ((64 : Int) < (l : Int)) = false := by simp; omega
  have f1 : IntKind.i64.wrap (64 - (l : Int)) = 64 - (l : Int) := IntWalk.i64_in _ (by omega)
  by_cases h0 : m < 0
  · have hd1 : decide (m < 0) = true := by simp; omega
    clear hm
    go_enter Tryd.func7, Tryd.ntmps7
    go_wp2_with fail
    refine (alive_any w hT).mono ?_
    rintro e w1 ⟨rfl, hb1⟩
    go_wp2
    go_ret
    exact ⟨rfl, hb1⟩
  · have hd1 : decide (m < 0) = false := by simp; omega
    have hd2 : decide (64 - (l : Int) < m) = true := by simp; omega
    clear hm
    go_enter Tryd.func7, Tryd.ntmps7
    go_wp2_with fail
    refine (alive_any w hT).mono ?_
    rintro e w1 ⟨rfl, hb1⟩
    go_wp2
    go_ret
    exact ⟨rfl, hb1⟩

set_option maxHeartbeats 400000 in
set_option maxRecDepth 100000 in
theorem lawKeys_zeros (k q : List Nat) (A A' : Option Addr) (c c' r : Nat) (w : World) (hT : Tab w) (hk : ArgIs w A c k) (hq : ArgIs w A' c' q) (hr : k.length + r ≤ 64) (hn' : q.length ≤ 140737488351232) :
    Calls Tryd.prog 7 #[.slice A k.length c, .slice A' q.length c', .int .i64 r] w fun e w' => e = .returned (.bool true) ∧ Below w.heap.size w w' := by
  have Hkl : Hid (k.length ≤ 64) := by unfold Hid; omega
  have Hmac := Lib.hid (mac_zeros k q r hr)
  have Hlt : Hid (∀ x ∈ k ++ List.replicate r 0, x < 256) := fun x hx => (List.mem_append.1 hx).elim (hk.2.2.1 x) (fun h => by rw [List.eq_of_mem_replicate h]; decide)
  obtain ⟨l, hl⟩ : ∃ l, k.length = l := ⟨_, rfl⟩
  obtain ⟨n, hn⟩ : ∃ n, q.length = n := ⟨_, rfl⟩
  rw [hl] at hr ⊢
  rw [hn] at hn' ⊢
  have Hl := Lib.hid hl
  have Hn := Lib.hid hn
  clear hl hn
  have hd : decide ((64 : Int) < (l : Int)) = false := by simp; omega
  have f1 : IntKind.i64.wrap (64 - (l : Int)) = 64 - (l : Int) := IntWalk.i64_in _ (by omega)
  have hd1 : decide ((r : Int) < 0) = false := by simp
  have hd2 : decide (64 - (l : Int) < (r : Int)) = false := by simp; omega
  have hempty : (w.alloc (.cells #[] 5)).ownsRow w.heap.size 5 1 (.slice (some ⟨w.heap.size, 0, none⟩) 0 0) 0 [] := ⟨rfl, .inr ⟨w.heap.size, 0, #[], rfl, Nat.le_refl _, heap_alloc_new _ _, Nat.le_refl _, by decide, rfl, rfl⟩⟩
  go_enter Tryd.func7, Tryd.ntmps7
  go_upto_region 6 with (fail)
  repeat ((fail_if_success (with_reducible show wpList _ _ _ (⟨some 37, _, _, _, _, _⟩ :: _) _ _)); first | go_values | go_skip | go_guarded | go_step | go_upon | go_back | go_simp)
  with_reducible refine append_arg rfl (.tmp 35) (.tmp 36) rfl w.heap.size (.slice (some ⟨w.heap.size, 0, none⟩) 0 0) 0 [] A c k hempty (hk.alloc _) ?s1 ?s2 ?s3 ?s4 ?_
  case s1 => rfl
  case s2 => rw [Hl.out]; rfl
  case s3 => rw [Hl.out]; omega
  case s4 => simp
  intro v1 w1 hown1 hgr1
  rw [List.nil_append, Nat.zero_add, Hl.out] at hown1
  have hb1 : Below w.heap.size w w1 := ((Below.refl _ _).alloc (Nat.le_refl _) _).grown hgr1 (by simp) (own_u8_ge hempty)
  clear hempty hgr1
  repeat ((fail_if_success (with_reducible show wpList _ _ _ (⟨some 39, _, _, _, _, _⟩ :: _) _ _)); first | go_values | go_skip | go_guarded | go_step | go_upon | go_back | go_simp)
  with_reducible refine append_zeros rfl (.tmp 37) (.tmp 38) rfl w.heap.size v1 l _ r hown1 ?s1 ?s2 ?s3 ?s4 ?_
  case s1 => rfl
  case s2 => rfl
  case s3 => omega
  case s4 => exact hb1.size
  intro v2 w2 hown2 hgr2
  have hb2 : Below w.heap.size w w2 := hb1.grown hgr2 hb1.size (own_u8_ge hown1)
  rw [← u8s_append] at hown2
  obtain ⟨L, hL⟩ : ∃ L, k ++ List.replicate r 0 = L := ⟨_, rfl⟩
  rw [hL] at hown2 Hmac Hlt
  obtain ⟨A2, c2, rfl⟩ := own_slice hown2
  obtain ⟨hLl, harg2⟩ := own_arg hown2 Hlt.out
  have HLl := Lib.hid hLl
  clear hgr2 hown1 hb1 hL hown2 hLl hd hd1 hd2 f1
  go_frame
  go_wp2_with fail
  refine (alive_any w2 (hT.below hb2 hT.lt)).mono ?_
  rintro e w3 ⟨rfl, hb3⟩
  have hb23 : Below w.heap.size w w3 := hb2.trans (hb3.mono hb2.size)
  have hM := mac_any L q A2 A' c2 c' w3 (hT.below hb23 hT.lt) (harg2.below hb3 (Nat.le_refl _)) (hq.below hb23 (Nat.le_refl _)) (by rw [HLl.out]; omega) (by rw [Hn.out]; omega)
  rw [HLl.out, Hn.out, Hmac.out] at hM
  have HM := Lib.hid hM
  clear hM hb3 harg2
  go_wp2_with fail
  refine HM.out.mono ?_
  rintro e w4 ⟨rfl, hb4⟩
  have hb24 : Below w.heap.size w w4 := hb23.trans (hb4.mono hb23.size)
  have hM2 := mac_any k q A A' c c' w4 (hT.below hb24 hT.lt) (hk.below hb24 (Nat.le_refl _)) (hq.below hb24 (Nat.le_refl _)) (by have := Hkl.out; omega) (by rw [Hn.out]; omega)
  rw [Hl.out, Hn.out] at hM2
  have HM2 := Lib.hid hM2
  clear hM2 hb4 HM
  go_wp2_with fail
  refine HM2.out.mono ?_
  rintro e w5 ⟨rfl, hb5⟩
  have hb25 : Below w.heap.size w w5 := hb24.trans (hb5.mono hb24.size)
  have he := eq_digest (Sha.mac k q) (Sha.sum_length _)
  obtain ⟨D, hD⟩ : ∃ D, u8s (Sha.mac k q) = D := ⟨_, rfl⟩
  rw [hD] at he ⊢
  clear hD hb5 hb24 hb23 hb2 HM2 hk hq
  go_wp2
  go_ret
  exact ⟨rfl, hb25⟩

end Go.Proofs.YtkfhfokeoieajaaDoor
