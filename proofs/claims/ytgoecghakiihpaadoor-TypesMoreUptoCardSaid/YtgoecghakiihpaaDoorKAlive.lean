/-
  The law package's alive: an expression's type.
-/
import Derived.Test.YtgoecghakiihpaaDoorKOf
import Derived.Test.YtgoecghakiihpaaDoorKFits
namespace Go.Proofs.YtgoecghakiihpaaDoor
open Go.RowKit

theorem NsE.lies {w : World} {g : Nat} {t : TypeId} {ns : List Zq.Nd} (h : Lies w g t (ncells ns)) (hl : ns.length ≤ 9223372036854775807) (ht : ∀ n ∈ ns, ∀ x ∈ n.text, x < 256) : NsE w (fun _ => True) (.slice (some ⟨g, 0, none⟩) ns.length ns.length) ns :=
  ⟨_, _, rfl, Nat.le_refl _, hl, ht, fun _ => ⟨g, 0, rfl, trivial, h.lt, fun j x hj => by rw [Nat.zero_add, h.cell]; exact hj⟩⟩
theorem FsE.lies {w : World} {g : Nat} {t : TypeId} {fs : List Tq.Fd} (h : Lies w g t (fcells fs)) (hl : fs.length ≤ 9223372036854775807) (ht : ∀ n ∈ fs, ∀ x ∈ n.name, x < 256) : FsE w (fun _ => True) (.slice (some ⟨g, 0, none⟩) fs.length fs.length) fs :=
  ⟨_, _, rfl, Nat.le_refl _, hl, ht, fun _ => ⟨g, 0, rfl, trivial, h.lt, fun j x hj => by rw [Nat.zero_add, h.cell]; exact hj⟩⟩
theorem FsE.nil (w : World) : FsE w (fun _ => True) (.slice none 0 0) [] := ⟨none, 0, rfl, Nat.le_refl _, by omega, fun _ h => (nomatch h), fun h => absurd h (Nat.lt_irrefl _)⟩
def alNodes : List Zq.Nd := [⟨3, 0, 0, 0, [103]⟩, ⟨7, 0, 0, 0, []⟩]
def alFields : List Tq.Fd := [⟨[103], 4⟩]
def alNodes2 : List Zq.Nd := [⟨3, 0, 0, 0, [120]⟩]
theorem al_of : Tq.of alFields alNodes = (1, 0) := by decide
theorem al_of2 : Tq.of [] alNodes2 = (0, 120) := by decide
theorem alNodes_cells : ncells alNodes = [.int .i64 3, .int .i64 0, .int .i64 0, .int .i64 0, .string { data := #[103] }, .int .i64 7, .int .i64 0, .int .i64 0, .int .i64 0, .string { data := #[] }] := rfl
theorem alNodes2_cells : ncells alNodes2 = [.int .i64 3, .int .i64 0, .int .i64 0, .int .i64 0, .string { data := #[120] }] := rfl
theorem alFields_cells : fcells alFields = [.string { data := #[103] }, .int .i64 4] := rfl
def alJ : Jq.J := .mk 2 false 0 [] [] []
theorem al_fits : decide (Tq.fitsP alJ 2) = true := by unfold Tq.fitsP; decide
set_option maxHeartbeats 2000000 in
set_option maxRecDepth 100000 in
theorem alive12_any (w : World) (hH : HeldK w) : Calls Tryd.prog 10 #[] w (IsTrue w) := by
  obtain ⟨W1, eW1⟩ : ∃ W1, W1 = (w.alloc (.cells #[.int .i64 3, .int .i64 0, .int .i64 0, .int .i64 0, .string { data := #[103] }, .int .i64 7, .int .i64 0, .int .i64 0, .int .i64 0, .string { data := #[] }] 41)).alloc (.cells #[.string { data := #[103] }, .int .i64 4] 46) := ⟨_, rfl⟩
  have hb1 : Below w.heap.size w W1 := by rw [eW1]; exact below_new2 _ _ _
  have hl1 : Lies W1 w.heap.size 41 (ncells alNodes) := by rw [eW1, alNodes_cells]; exact (Lies.new_ rfl).alloc _
  have hl2 : Lies W1 (w.heap.size + 1) 46 (fcells alFields) := by rw [eW1, alFields_cells]; exact Lies.new_ (by simp)
  have hC := of_any alNodes alFields (some ⟨w.heap.size + 1, 0, none⟩) (some ⟨w.heap.size, 0, none⟩) 1 1 2 2 W1 (hH.below hb1) (NsE.lies hl1 (by decide) (by decide)) rfl (by decide) (FsE.lies hl2 (by decide) (by decide)) rfl
  rw [al_of] at hC
  have HB1 := Lib.hid hb1
  have HH : Hid (HeldK w) := hH
  have HW1 := Lib.hid eW1
  rw [eW1] at hC
  clear hH hb1 hl1 hl2 eW1
  go_enter Tryd.func10, Tryd.ntmps10
  go_wp2_with fail
  refine hC.mono ?_
  rintro e w2 ⟨hb, rfl⟩
  rw [← HW1.out] at hb
  have HB2 := Lib.hid (below_onZ HB1.out hb)
  clear hC hb
  obtain ⟨W3, eW3⟩ : ∃ W3, W3 = w2.alloc (.cells #[.int .i64 3, .int .i64 0, .int .i64 0, .int .i64 0, .string { data := #[120] }] 41) := ⟨_, rfl⟩
  have hb3 : Below w2.heap.size w2 W3 := by rw [eW3]; exact below_new _ _
  have hl3 : Lies W3 w2.heap.size 41 (ncells alNodes2) := by rw [eW3, alNodes2_cells]; exact Lies.new_ rfl
  have hC := of_any alNodes2 [] none (some ⟨w2.heap.size, 0, none⟩) 0 0 1 1 W3 (HH.out.below (below_onZ HB2.out hb3)) (NsE.lies hl3 (by decide) (by decide)) rfl (by decide) (FsE.nil _) rfl
  rw [al_of2] at hC
  have HB3 := Lib.hid (below_onZ HB2.out hb3)
  have HW3 := Lib.hid eW3
  rw [eW3] at hC
  clear hb3 hl3 eW3
  go_wp2_with fail
  refine hC.mono ?_
  rintro e w4 ⟨hb, rfl⟩
  rw [← HW3.out] at hb
  have HB4 := Lib.hid (below_onZ HB3.out hb)
  clear hC hb
  have hF := fits_any (ok := fun _ => True) alJ 2 none none 0 0 w4 ⟨[], SlIs.nil _ _, rfl, by decide, fun i v x h => by simp at h⟩
  rw [al_fits] at hF
  have hF : Calls Tryd.prog 13 #[.agg #[.int .i64 2, .bool false, .int .i64 0, .string { data := #[] }, .slice none 0 0, .slice none 0 0], .int .i64 2] w4 _ := hF
  go_wp2_with fail
  refine hF.mono ?_
  rintro e w5 ⟨hb, rfl⟩
  have HB5 := Lib.hid (below_onZ HB4.out hb)
  clear hF hb
  go_wp2
  go_ret
  exact ⟨rfl, HB5.out⟩
end Go.Proofs.YtgoecghakiihpaaDoor
