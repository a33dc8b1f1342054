/-
  The contracts of the document's Letters, Mac and Verify.
-/
import Derived.Test.YthklgpflaghojaaGreatDoorWPB
import Derived.Test.YthklgpflaghojaaGreatDoorQT2
import Derived.Test.YthklgpflaghojaaGreatDoorQR6
import Derived.Test.YthklgpflaghojaaGreatDoorQS
import Derived.Deep.RegionLaw
namespace Go.Proofs.YthklgpflaghojaaGreatDoor
open Go.RowKit
set_option maxHeartbeats 1000000 in
set_option maxRecDepth 100000 in
theorem refMac8_any (k : List Nat) (A : Option Addr) (c : Nat) (s : ByteArray) (w : World) (hk : ArgIs w A c k) (hn : k.length ≤ 140737488353000) (hs : s.size ≤ 140737488353000) :
    Calls Tryz.prog 29 #[.slice A k.length c, .string s] w fun e w' => (∃ A' c', e = .returned (.slice A' 32 c') ∧ ArgIs w' A' c' (Sha.mac k (numsOf s))) ∧ Below w.heap.size w w' := by
  have Hlen := Lib.hid (numsOf_length s)
  go_enter Tryz.func29, Tryz.ntmps29
  repeat ((fail_if_success (with_reducible show wpList _ _ _ (⟨some 7, _, _, _, _, _⟩ :: _) _ _)); first | go_values | go_skip | go_guarded | go_step | go_upon | go_back | go_simp)
  with_reducible refine conv_here rfl (.tmp 6) rfl s ?s1 ?s2 ?_
  case s1 => rfl
  case s2 => omega
  intro w1 A' c' harg hb1
  have hM := refMac_any k (numsOf s) A A' c c' w1 (hk.below hb1 (Nat.le_refl _)) harg (by omega) (by rw [Hlen.out]; omega)
  rw [Hlen.out] at hM
  have Hl32 : Hid ((Sha.mac k (numsOf s)).length = 32) := Wq.mac_length _ _
  have Hlt : Hid (∀ x ∈ Sha.mac k (numsOf s), x < 256) := sha_mac_lt _ _
  obtain ⟨D, eD⟩ : ∃ D, Sha.mac k (numsOf s) = D := ⟨_, rfl⟩
  rw [eD] at hM Hl32 Hlt
  have HD := Lib.hid eD
  clear harg eD
  go_frame
  go_wp2_with fail
  refine hM.mono ?_
  rintro e w2 ⟨rfl, hb2⟩
  have hb := hb1.trans (hb2.mono hb1.size)
  have hB := refBytes_any D w2 Hl32.out Hlt.out
  clear hM hb1 hb2
  go_wp2_with fail
  refine hB.mono ?_
  rintro e w3 ⟨v, rfl, hown, hb3⟩
  have hbw := below_more hb hb3
  obtain ⟨A3, c3, rfl⟩ := own_slice hown
  obtain ⟨_, hA3⟩ := own_arg hown Hlt.out
  have HA := Lib.hid hA3
  clear hB hb hb3 hown hA3
  go_wp2
  go_ret
  exact ⟨⟨A3, c3, rfl, by rw [HD.out]; exact HA.out⟩, hbw⟩

set_option maxHeartbeats 2000000 in
set_option maxRecDepth 100000 in
theorem refVerify_any (kid sg : ByteArray) (ck : Int) (cb : Bool) (cn : Int) (ct : ByteArray) (B1 B2 : Option Addr) (m1 d1 m2 d2 : Nat) (q k : List Nat) (A A' : Option Addr) (c c' : Nat) (w : World) (hq : ArgIs w A c q) (hk : ArgIs w A' c' k) (hn : k.length ≤ 140737488353000) (hs : sg.size ≤ 140737488353000) :
    Calls Tryz.prog 17 #[tokv kid ck cb cn ct (.slice B1 m1 d1) (.slice B2 m2 d2) sg (.slice A q.length c), .slice A' k.length c'] w fun e w' => e = .returned (.bool (decide (q = Sha.mac k (numsOf sg)))) ∧ Below w.heap.size w w' := by
  obtain ⟨W0, eW0⟩ : ∃ W0, W0 = w.alloc (.cells #[.string kid, .int .i64 ck, .bool cb, .int .i64 cn, .string ct, .slice B1 m1 d1, .slice B2 m2 d2, .string sg, .slice A q.length c] 29) := ⟨_, rfl⟩
  have hb0 : Below w.heap.size w W0 := by rw [eW0]; exact (Below.refl _ _).alloc (Nat.le_refl _) _
  have hl0 : Lies W0 w.heap.size 29 [.string kid, .int .i64 ck, .bool cb, .int .i64 cn, .string ct, .slice B1 m1 d1, .slice B2 m2 d2, .string sg, .slice A q.length c] := by rw [eW0]; exact Lies.new_ rfl
  have HM := Lib.hid (fun W (h : ArgIs W A' c' k) => refMac8_any k A' c' sg W h hn hs)
  have hq0 := hq.below hb0 (Nat.le_refl _)
  have hk0 := hk.below hb0 (Nat.le_refl _)
  have c7 := hl0.cell 7
  have c8 := hl0.cell 8
  have hbeq := str_beq hq.2.2.1 (sha_mac_lt k (numsOf sg))
  have Hl32 : Hid ((Sha.mac k (numsOf sg)).length = 32) := Wq.mac_length _ _
  obtain ⟨D, eD⟩ : ∃ D, Sha.mac k (numsOf sg) = D := ⟨_, rfl⟩
  simp only [eD] at HM
  rw [eD] at hbeq Hl32 ⊢
  have hv0 := conv_str hq0.drew
  obtain ⟨X, eX⟩ : ∃ X, strOf q = X := ⟨_, rfl⟩
  obtain ⟨Y, eY⟩ : ∃ Y, strOf D = Y := ⟨_, rfl⟩
  have HX := Lib.hid eX
  have HY := Lib.hid eY
  rw [eX] at hbeq hv0
  rw [eY] at hbeq
  have HQ := Lib.hid hq0
  have HK := Lib.hid hk0
  have HL0 := Lib.hid hl0
  have HB0 := Lib.hid hb0
  have HW0 := Lib.hid eW0
  rw [eW0] at c7 c8 hv0
  clear hq hk hb0 hl0 hq0 hk0 eW0 eD eX eY
  go_enter Tryz.func17, Tryz.ntmps17
  go_upto_region 1 with (fail)
  go_region_law (go_simp; go_at_call 29; refine (HM.out _ (by rw [← HW0.out]; exact HK.out.drew)).mono ?_; rintro e wa ⟨⟨A1, c1, rfl, hA1⟩, hba⟩; rw [← HW0.out] at hba; have hcv1 := conv_str hA1; have c8a := (HL0.out.drew.below hba HL0.out.drew.lt).cell 8; have hbf := HB0.out.trans ((below_undrew hba).mono HB0.out.size); have hqa := conv_str (HQ.out.drew.below hba (Nat.le_refl _)); rw [Hl32.out, HY.out] at hcv1; rw [HX.out] at hqa; simp only [])
  all_goals
    go_wp2
    go_ret
    exact ⟨rfl, hbf⟩
end Go.Proofs.YthklgpflaghojaaGreatDoor
