/-
  The contract of the law package's alive: it answers true.
-/
import Derived.Test.YtejmkijnngkoaaaDoorUSame
namespace Go.Proofs.YtejmkijnngkoaaaDoor
open Go.RowKit

abbrev alText : ByteArray := { data := #[104, 116, 116, 112, 115, 58, 47, 47, 97, 46, 98, 58, 56, 52, 52, 51, 47, 99, 37, 50, 70, 63, 120, 61, 49] }
abbrev alHost : List Nat := [97, 46, 98, 58, 56, 52, 52, 51]
abbrev alPath : List Nat := [47, 99, 37, 50, 70]
abbrev alQuery : List (List Nat × List Nat) := [([120], [49])]
theorem al_parse : Uq.parse (numsOf alText) = some (alHost, alPath, alQuery) := by decide +kernel
theorem al_print : Uq.print (alHost, alPath, alQuery) = numsOf alText := by decide +kernel
theorem al_right : Uq.right (alHost, alPath, alQuery) = true := by decide +kernel
theorem al_fine : Pq.Fine alQuery := by unfold Pq.Fine; decide
theorem al_short : Short alQuery := by unfold Short; decide
theorem al_h : numsOf (strOf alHost) = alHost := numsOf_strOf (by decide)
theorem al_p : numsOf (strOf alPath) = alPath := numsOf_strOf (by decide)

set_option maxHeartbeats 1000000 in
set_option maxRecDepth 100000 in
theorem alive_any (w : World) (hH : Held w) :
    Calls Tryd.prog 11 #[] w fun e w' => e = .returned (.bool true) ∧ Below w.heap.size w w' := by
  have hP := urlParse_any alText w (by decide) hH
  unfold UrlEnd at hP
  simp only [al_parse, Option.getD_some, Option.isSome_some] at hP
  have hPr := fun A c w h => urlPrint_any (strOf alHost) (strOf alPath) alQuery A c w h al_fine al_short (by decide) (by decide) (by decide)
  have hRi := fun A c w h h' => right_any (strOf alHost) (strOf alPath) alQuery A 1 c w rfl h al_fine al_short (by decide) (by decide) (by decide) h'
  simp only [al_h, al_p, al_print, al_right, strOf_numsOf] at hPr hRi
  have hl : alQuery.length = 1 := rfl
  simp only [hl] at hP hPr hRi
  have hX : ((strOf alHost).toList == [97, 46, 98, 58, 56, 52, 52, 51]) = true := by rw [ByteArray.toList_eq]; decide
  have hY : ((strOf alPath).toList == [47, 99, 37, 50, 70]) = true := by rw [ByteArray.toList_eq]; decide
  have hT : (alText.toList == [104, 116, 116, 112, 115, 58, 47, 47, 97, 46, 98, 58, 56, 52, 52, 51, 47, 99, 37, 50, 70, 63, 120, 61, 49]) = true := by rw [ByteArray.toList_eq]; decide
  obtain ⟨X, eX⟩ : ∃ X, strOf alHost = X := ⟨_, rfl⟩
  obtain ⟨Y, eY⟩ : ∃ Y, strOf alPath = Y := ⟨_, rfl⟩
  obtain ⟨L, eL⟩ : ∃ L, alQuery = L := ⟨_, rfl⟩
  rw [eX] at hX
  rw [eY] at hY
  simp only [eX, eY, eL] at hP hPr hRi
  have HPr := Lib.hid hPr
  have HRi := Lib.hid hRi
  have HH := Lib.hid hH
  clear eX eY eL hl hPr hRi hH
  go_enter Tryd.func11, Tryd.ntmps11
  go_wp2_with fail
  refine hP.mono ?_
  rintro e w1 ⟨A, c, rfl, hrow, hb1⟩
  clear hP
  have hL1 := Lies.made w1 24 [.string X, .string Y, .slice A 1 c]
  have hb2 := hb1.alloc hb1.size (.cells #[.string X, .string Y, .slice A 1 c] 24)
  have hrow2 := hrow.alloc (.cells #[.string X, .string Y, .slice A 1 c] 24)
  have HH1 := Lib.hid ((HH.out.below hb1).alloc (.cells #[.string X, .string Y, .slice A 1 c] 24))
  have hPr := HPr.out A c _ hrow2
  clear hrow hb1
  go_wp2_with fail
  refine hPr.mono ?_
  rintro e w2 ⟨rfl, hb3⟩
  have hrow3 := hrow2.below hb3 (Nat.le_refl _)
  have hb4 := hb2.trans (hb3.mono hb2.size)
  have hRi := HRi.out A c w2 hrow3 (HH1.out.below hb3)
  obtain ⟨g0, g1, g2, _, _, _⟩ := keep3 hL1 hb3
  clear hPr hb2 hb3 hrow2 hrow3 hL1
  go_wp2_with fail
  refine hRi.mono ?_
  rintro e w3 ⟨rfl, hb5⟩
  have hb6 := hb4.trans (hb5.mono hb4.size)
  clear hRi hb4 hb5 g0 g1 g2
  go_wp2
  go_ret
  exact ⟨rfl, hb6⟩
end Go.Proofs.YtejmkijnngkoaaaDoor
