/-
  The contract of the law package's alive: it answers true.
-/
import Derived.Test.YticepagkbebhbaaDoorPPrint
namespace Go.Proofs.YticepagkbebhbaaDoor
open Go.RowKit

abbrev alText : ByteArray := { data := #[97, 61, 37, 50, 102, 43, 38, 98] }
abbrev alPairs : List (List Nat × List Nat) := [([97], [47, 32]), ([98], [])]
theorem al_parse : Pq.parse (numsOf alText) = some alPairs := by decide +kernel
theorem al_escape : strOf (Pq.es (numsOf { data := #[97, 32, 98] })) = { data := #[97, 37, 50, 48, 98] } := by
  have : Pq.es (numsOf { data := #[97, 32, 98] }) = [97, 37, 50, 48, 98] := by decide +kernel
  rw [this]; rfl
theorem al_print : strOf (Pq.print [([97], [47, 32])]) = { data := #[97, 61, 37, 50, 70, 37, 50, 48] } := by
  have : Pq.print [([97], [47, 32])] = [97, 61, 37, 50, 70, 37, 50, 48] := by decide +kernel
  rw [this]; rfl
theorem al_len : (Pq.print [([97], [47, 32])]).length ≤ 140737488355328 := by decide +kernel
theorem al_fine : Pq.Fine [([97], [47, 32])] := by unfold Pq.Fine; decide
theorem al_short : Short [([97], [47, 32])] := by unfold Short; decide

set_option maxHeartbeats 1000000 in
set_option maxRecDepth 100000 in
theorem alive_any (w : World) :
    Calls Tryd.prog 11 #[] w fun e w' => e = .returned (.bool true) ∧ Below w.heap.size w w' := by
  have hP := parse_any alText w (by decide)
  unfold ParseEnd at hP
  simp only [al_parse, Option.getD_some, Option.isSome_some] at hP
  go_enter Tryd.func11, Tryd.ntmps11
  go_wp2_with fail
  refine hP.mono ?_
  rintro e w1 ⟨A, c, rfl, hrow, hc2, hcm, hb1⟩
  clear hP
  obtain ⟨b, off, rfl, hbw, hc⟩ := hrow (by decide)
  have k0 : w1.cell? ⟨b, off, none⟩ = some (.string (strOf [97])) := hc 0 _ rfl
  have k1 : w1.cell? ⟨b, off + 1, none⟩ = some (.string { data := #[47, 32] }) := hc 1 _ rfl
  have k2 : w1.cell? ⟨b, off + 2, none⟩ = some (.string { data := #[98] }) := hc 2 _ rfl
  have hl : alPairs.length = 2 := rfl
  rw [hl] at hc2 ⊢
  have hrow1 : Row w1 (some ⟨b, off, none⟩) (pcells [([97], [47, 32])]) := fun _ => ⟨b, off, rfl, hbw, fun j v hj => hc j v (by
    have hj2 : j < 2 := (List.getElem?_eq_some_iff.1 hj).1
    obtain rfl | rfl : j = 0 ∨ j = 1 := by omega
    · exact hj
    · exact hj)⟩
  have HR := Lib.hid hrow1
  clear hc hrow hl hrow1
  go_wp2_with fail
  refine (escape_any _ _ (by decide)).mono ?_
  rintro e w2 ⟨rfl, hb2⟩
  rw [al_escape]
  have hrow2 := HR.out.below hb2 (Nat.le_refl _)
  have hb02 := hb1.trans (hb2.mono hb1.size)
  have hPr := print_any [([97], [47, 32])] (some ⟨b, off, none⟩) c w2 hrow2 al_fine al_short (by decide) al_len
  rw [al_print] at hPr
  clear hb2 hb1 hrow2 HR k0 k1 k2
  go_wp2_with fail
  refine hPr.mono ?_
  rintro e w3 ⟨rfl, hb3⟩
  have hb03 := hb02.trans (hb3.mono hb02.size)
  clear hPr hb3 hb02
  go_wp2
  go_ret
  exact ⟨rfl, hb03⟩
end Go.Proofs.YticepagkbebhbaaDoor
