/-
  The law JwsVerifies.
-/
import Derived.Test.YtgojpcoaahcbeaaGreatDoorWPD
import Derived.Test.YtgojpcoaahcbeaaGreatDoorWRSmall
import Derived.Deep.RegionHeld3
namespace Go.Proofs.YtgojpcoaahcbeaaGreatDoor
open Go.RowKit

theorem cell_on {W wa : World} {p : Addr} {v : Value} (h : W.cell? p = some v) (hb : Below W.heap.size W wa) : wa.cell? p = some v := (hb.cell (World.block_lt_of_cell? _ _ h)).trans h
set_option maxHeartbeats 4000000 in
set_option maxRecDepth 100000 in
theorem lawVerifies_any (kid sg : ByteArray) (ck : Int) (cb : Bool) (cn : Int) (ct : ByteArray) (B1 B2 : Option Addr) (m1 d1 m2 d2 : Nat) (q k : List Nat) (A A' : Option Addr) (c c' : Nat) (w : World) (hH : Held w) (hT : Tab w) (hq : ArgIs w A c q) (hk : ArgIs w A' c' k) (hn : k.length ≤ 140737488353000) (hs : sg.size ≤ 140737488353000) :
    Calls Tryz.prog 5 #[tokv kid ck cb cn ct (.slice B1 m1 d1) (.slice B2 m2 d2) sg (.slice A q.length c), .slice A' k.length c'] w (IsTrue w) := by
  obtain ⟨W0, eW0⟩ : ∃ W0, W0 = w.alloc (.cells #[.string kid, .int .i64 ck, .bool cb, .int .i64 cn, .string ct, .slice B1 m1 d1, .slice B2 m2 d2, .string sg, .slice A q.length c] 34) := ⟨_, rfl⟩
  have hb0 : Below w.heap.size w W0 := by rw [eW0]; exact (Below.refl _ _).alloc (Nat.le_refl _) _
  have hl0 : Lies W0 w.heap.size 34 [.string kid, .int .i64 ck, .bool cb, .int .i64 cn, .string ct, .slice B1 m1 d1, .slice B2 m2 d2, .string sg, .slice A q.length c] := by rw [eW0]; exact Lies.new_ rfl
  obtain ⟨⟨y0, y1, y2, y3, y4, y5, y6, y7, y8⟩, _⟩ := hl0.nine
  have hAl := fun W (hW : Below w.heap.size w W) => alive8_any W (hH.below hW) (hT.below hW hT.lt)
  have hV := fun W (hW : Below w.heap.size w W) => verify_any kid sg ck cb cn ct B1 B2 m1 d1 m2 d2 q k A A' c c' W (hT.below hW hT.lt) (hq.below hW (Nat.le_refl _)) (hk.below hW (Nat.le_refl _)) (by omega) (by omega)
  have hR := fun W (hW : Below w.heap.size w W) => refVerify_any kid sg ck cb cn ct B1 B2 m1 d1 m2 d2 q k A A' c c' W (hq.below hW (Nat.le_refl _)) (hk.below hW (Nat.le_refl _)) hn hs
  obtain ⟨R, eR⟩ : ∃ R, decide (q = Sha.mac k (numsOf sg)) = R := ⟨_, rfl⟩
  rw [eR] at hV hR
  have HAl := Lib.hid hAl
  have HV := Lib.hid hV
  have HR := Lib.hid hR
  have HB0 := Lib.hid hb0
  rw [eW0] at y0 y1 y2 y3 y4 y5 y6 y7 y8 HB0
  clear hH hT hq hk hn hs hb0 hl0 hAl hV hR eR eW0
  go_enter Tryz.func5, Tryz.ntmps5
  go_upto_region 1 with (fail)
  go_region_held3 (fun W => W.cell? ⟨w.heap.size, 0, none⟩ = some (.string kid) ∧ W.cell? ⟨w.heap.size, 1, none⟩ = some (.int .i64 ck) ∧ W.cell? ⟨w.heap.size, 2, none⟩ = some (.bool cb) ∧ W.cell? ⟨w.heap.size, 3, none⟩ = some (.int .i64 cn) ∧ W.cell? ⟨w.heap.size, 4, none⟩ = some (.string ct) ∧ W.cell? ⟨w.heap.size, 5, none⟩ = some (.slice B1 m1 d1) ∧ W.cell? ⟨w.heap.size, 6, none⟩ = some (.slice B2 m2 d2) ∧ W.cell? ⟨w.heap.size, 7, none⟩ = some (.string sg) ∧ W.cell? ⟨w.heap.size, 8, none⟩ = some (.slice A q.length c) ∧ Below w.heap.size w W)
    (first
      | (go_split_ands; exact ⟨cell_on (by assumption) hba, cell_on (by assumption) hba, cell_on (by assumption) hba, cell_on (by assumption) hba, cell_on (by assumption) hba, cell_on (by assumption) hba, cell_on (by assumption) hba, cell_on (by assumption) hba, cell_on (by assumption) hba, below_more (by assumption : Below w.heap.size w _) hba⟩)
      | (exact ⟨y0, y1, y2, y3, y4, y5, y6, y7, y8, HB0.out.drew⟩)
      | (go_split_ands; exact ⟨by assumption, by assumption, by assumption, by assumption, by assumption, by assumption, by assumption, by assumption, by assumption, Below.drew (by assumption)⟩))
    (first
      | (go_at_call 10; go_split_ands; refine (HAl.out _ (by assumption : Below w.heap.size w _)).mono ?_; rintro e wa ⟨rfl, hba⟩)
      | (go_at_call 16; go_split_ands; with_reducible refine (HV.out _ (by assumption : Below w.heap.size w _)).mono ?_; rintro e wa ⟨rfl, hba⟩)
      | (go_at_call 17; go_split_ands; with_reducible refine (HR.out _ (by assumption : Below w.heap.size w _)).mono ?_; rintro e wa ⟨rfl, hba⟩))
  go_split_ands
  have HE : Hid (IsTrue w (.returned (.bool true)) wa) := ⟨rfl, below_more (by assumption : Below w.heap.size w _) hba⟩
  go_wp2
  go_ret
  exact HE.out
end Go.Proofs.YtgojpcoaahcbeaaGreatDoor
