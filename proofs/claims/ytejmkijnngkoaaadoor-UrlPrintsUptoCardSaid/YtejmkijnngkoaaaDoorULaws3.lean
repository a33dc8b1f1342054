/-
  The walk of the law UrlPrints.
-/
import Derived.Test.YtejmkijnngkoaaaDoorULaws
import Derived.Deep.RegionHeld3
namespace Go.Proofs.YtejmkijnngkoaaaDoor
open Go.RowKit

set_option maxHeartbeats 2000000 in
set_option maxRecDepth 100000 in
theorem lawPrints (H P : ByteArray) (L : List (List Nat × List Nat)) (A : Option Addr) (n c : Nat) (w : World) (hn : L.length = n) (hA : Row w A (pcells L)) (hL : Pq.Fine L) (hS : Short L) (hn9 : n ≤ 1048576) (hH : H.size ≤ 1048576) (hP : P.size ≤ 1048576) (hHd : Held w) :
    Calls Tryd.prog 4 #[uval H P A n c] w fun e w' => e = .returned (.bool true) ∧ Below w.heap.size w w' := by
  have hP1 := fun W (h : Row W A (pcells L)) => urlPrint_any H P L A c W h hL hS (by omega) (by omega) (by omega)
  have hP2 := fun W (h : Row W A (pcells L)) => refUrlPrint_any H P L A c W h hL hS (by omega) (by omega) (by omega)
  obtain ⟨T, eT⟩ : ∃ T, strOf (Uq.print (numsOf H, numsOf P, L)) = T := ⟨_, rfl⟩
  simp only [eT, hn] at hP1 hP2
  have hW := Lies.made w 24 [.string H, .string P, .slice A n c]
  have hA5 := hA.alloc (.cells #[.string H, .string P, .slice A n c] 24)
  have hH5 := hHd.alloc (.cells #[.string H, .string P, .slice A n c] 24)
  have hb5 : Below w.heap.size w (w.alloc (.cells #[.string H, .string P, .slice A n c] 24)) := (Below.refl _ _).alloc (Nat.le_refl _) _
  have hlt5 := hW.lt
  have HK : Hid (∀ W, Below (w.alloc (.cells #[.string H, .string P, .slice A n c] 24)).heap.size (w.alloc (.cells #[.string H, .string P, .slice A n c] 24)) W → W.cell? ⟨w.heap.size, 0, none⟩ = some (.string H) ∧ W.cell? ⟨w.heap.size, 1, none⟩ = some (.string P) ∧ W.cell? ⟨w.heap.size, 2, none⟩ = some (.slice A n c) ∧ Row W A (pcells L) ∧ Held W ∧ Below (w.alloc (.cells #[.string H, .string P, .slice A n c] 24)).heap.size (w.alloc (.cells #[.string H, .string P, .slice A n c] 24)) W) := fun W hb => ⟨(hW.below hb hlt5).cell 0, (hW.below hb hlt5).cell 1, (hW.below hb hlt5).cell 2, hA5.below hb (Nat.le_refl _), hH5.below hb, hb⟩
  by_cases hm : 200 < n
  · have hd : decide ((200 : Int) < (n : Int)) = true := decide_eq_true (by omega)
    have hal := alive_any _ hH5
    clear hP1 hP2 hW hA5 hH5 HK hA hHd hn eT
    go_enter Tryd.func4, Tryd.ntmps4
    go_wp2_with fail
    refine hal.mono ?_
    rintro e w1 ⟨rfl, hb1⟩
    have hb2 := hb5.trans (hb1.mono hb5.size)
    clear hal hb5 hb1
    go_wp2
    go_ret
    exact ⟨rfl, hb2⟩
  · have hd : decide ((200 : Int) < (n : Int)) = false := decide_eq_false (by omega)
    have hrf := Below.refl (w.alloc (.cells #[.string H, .string P, .slice A n c] 24)).heap.size (w.alloc (.cells #[.string H, .string P, .slice A n c] 24))
    obtain ⟨f0, f1, f2, hA6, hH6, _⟩ := HK.out _ hrf
    clear hW hA5 hH5 hA hHd hn eT hlt5
    go_enter Tryd.func4, Tryd.ntmps4
    go_upto_region 3 with (fail)
    generalize (w.alloc (.cells #[.string H, .string P, .slice A n c] 24)) = w5 at *
    have HB5 := Lib.hid hb5
    clear hb5
    go_region_held3 (fun W => W.cell? ⟨w.heap.size, 0, none⟩ = some (.string H) ∧ W.cell? ⟨w.heap.size, 1, none⟩ = some (.string P) ∧ W.cell? ⟨w.heap.size, 2, none⟩ = some (.slice A n c) ∧ Row W A (pcells L) ∧ Held W ∧ Below w5.heap.size w5 W)
      (first
        | (go_split_ands; have hbz := (by assumption : Below w5.heap.size w5 _).trans (hba.mono (by assumption : Below w5.heap.size w5 _).size); exact HK.out _ hbz)
        | (go_split_ands; have hbz := below_drew (by assumption : Below w5.heap.size w5 _); exact HK.out _ hbz)
        | go_keep)
      (first
        | (go_at_call 11; go_split_ands; with_reducible refine (alive_any _ (by assumption)).mono ?_; rintro e wa ⟨rfl, hba⟩)
        | (go_at_call 13; go_split_ands; with_reducible refine (hP1 _ (by assumption)).mono ?_; rintro e wa ⟨rfl, hba⟩)
        | (go_at_call 14; go_split_ands; with_reducible refine (hP2 _ (by assumption)).mono ?_; rintro e wa ⟨rfl, hba⟩))
    all_goals
      go_split_ands
      have hfin : Below w5.heap.size w5 wa := by assumption
      have hb6 := HB5.out.trans (hfin.mono HB5.out.size)
      clear hP1 hP2
      go_wp2
      go_ret
      exact ⟨ret_bool (by simp), hb6⟩
end Go.Proofs.YtejmkijnngkoaaaDoor
