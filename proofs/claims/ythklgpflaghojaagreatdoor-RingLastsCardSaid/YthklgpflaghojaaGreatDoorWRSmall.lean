/-
  The contracts of the document's Letters, Mac and Verify.
-/
import Derived.Test.YthklgpflaghojaaGreatDoorWPB
import Derived.Test.YthklgpflaghojaaGreatDoorQT2
import Derived.Test.YthklgpflaghojaaGreatDoorQR6
import Derived.Test.YthklgpflaghojaaGreatDoorQS
import Derived.Deep.RegionLaw
namespace Go.Proofs.YthklgpflaghojaaGreatDoor
open Go.RowKit

set_option maxHeartbeats 1000000 in
theorem letters_any (s : ByteArray) (w : World) (hs : s.size ≤ 1048576) :
    Calls Tryz.prog 27 #[.string s] w fun e w' => e = .returned (.string (strOf (B64.enc (numsOf s)))) ∧ Below w.heap.size w w' := by
  have Hlen := Lib.hid (numsOf_length s)
  go_enter Tryz.func27, Tryz.ntmps27
  repeat ((fail_if_success (with_reducible show wpList _ _ _ (⟨some 4, _, _, _, _, _⟩ :: _) _ _)); first | go_values | go_skip | go_guarded | go_step | go_upon | go_back | go_simp)
  with_reducible refine conv_here rfl (.tmp 3) rfl s ?s1 ?s2 ?_
  case s1 => rfl
  case s2 => omega
  intro w1 A c harg hb1
  have hE := refEncode_any (numsOf s) A c w1 harg (by rw [Hlen.out]; omega)
  rw [Hlen.out] at hE
  clear harg
  go_frame
  go_wp2_with fail
  refine hE.mono ?_
  rintro e w2 ⟨rfl, hb2⟩
  have hb := hb1.trans (hb2.mono hb1.size)
  clear hE hb1 hb2
  go_wp2
  go_ret
  exact ⟨rfl, hb⟩

set_option maxHeartbeats 1000000 in
set_option maxRecDepth 100000 in
theorem refMac8_any (k : List Nat) (A : Option Addr) (c : Nat) (s : ByteArray) (w : World) (hk : ArgIs w A c k) (hn : k.length ≤ 140737488353000) (hs : s.size ≤ 140737488353000) :
    Calls Tryz.prog 29 #[.slice A k.length c, .string s] w fun e w' => (∃ A' c', e = .returned (.slice A' 32 c') ∧ ArgIs w' A' c' (Sha.mac k (numsOf s))) ∧ Below w.heap.size w w' := by
  have Hlen := Lib.hid (numsOf_length s)
  go_enter Tryz.func29, Tryz.ntmps29
  repeat ((fail_if_success (with_reducible show wpList _ _ _ (⟨some 7, _, _, _, _, _⟩ :: _) _ _)); first | go_values | go_skip | go_guarded | go_step | go_upon | go_back | go_simp)
  with_reducible refine conv_here rfl (.tmp 6) rfl s ?s1 ?s2 ?_
  case s1 => rfl
  case s2 => omega
  intro w1 A' c' harg hb1
  have hM := refMac_any k (numsOf s) A A' c c' w1 (hk.below hb1 (Nat.le_refl _)) harg (by omega) (by rw [Hlen.out]; omega)
  rw [Hlen.out] at hM
  have Hl32 : Hid ((Sha.mac k (numsOf s)).length = 32) := Wq.mac_length _ _
  have Hlt : Hid (∀ x ∈ Sha.mac k (numsOf s), x < 256) := sha_mac_lt _ _
  obtain ⟨D, eD⟩ : ∃ D, Sha.mac k (numsOf s) = D := ⟨_, rfl⟩
  rw [eD] at hM Hl32 Hlt
  have HD := Lib.hid eD
  clear harg eD
  go_frame
  go_wp2_with fail
  refine hM.mono ?_
  rintro e w2 ⟨rfl, hb2⟩
  have hb := hb1.trans (hb2.mono hb1.size)
  have hB := refBytes_any D w2 Hl32.out Hlt.out
  clear hM hb1 hb2
  go_wp2_with fail
  refine hB.mono ?_
  rintro e w3 ⟨v, rfl, hown, hb3⟩
  have hbw := below_more hb hb3
  obtain ⟨A3, c3, rfl⟩ := own_slice hown
  obtain ⟨_, hA3⟩ := own_arg hown Hlt.out
  have HA := Lib.hid hA3
  clear hB hb hb3 hown hA3
  go_wp2
  go_ret
  exact ⟨⟨A3, c3, rfl, by rw [HD.out]; exact HA.out⟩, hbw⟩

end Go.Proofs.YthklgpflaghojaaGreatDoor
