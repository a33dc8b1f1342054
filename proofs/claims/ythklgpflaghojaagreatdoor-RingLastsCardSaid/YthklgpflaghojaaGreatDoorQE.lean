/-
  QE: JItemL, side by side.
-/
import Derived.Test.YthklgpflaghojaaGreatDoorQD

/-
  The closure of the reader's list: one element more.
-/
namespace Go.Proofs.YthklgpflaghojaaGreatDoor
open Go.RowKit

set_option maxHeartbeats 16000000 in
set_option maxRecDepth 100000 in
theorem itemL_any (n : Nat) (hV : ValueOk n) (W : World) (R B0 B Rb V : Nat) (l : List Jq.J) (s : ByteArray) (w : World) (h : Rd W R s (16 - n) w) (hst : ListSt B0 B Rb V R l w) (hWB : W.heap.size ≤ B0) (hcount : l.length + s.size ≤ 4096) :
    Calls Tryz.prog 139 #[.pointer (some ⟨V, 0, none⟩), .pointer (some ⟨Rb, 0, none⟩)] w fun e w' => ItemEnd W R (16 - n) B0 w (ListSt B0 B Rb V R) (Jq.itemL (Jq.value n) l (numsOf s)) e w' := by
  obtain ⟨lv, hbox, hB1, hB3⟩ := hst
  obtain ⟨A0, cap0, rfl⟩ : ∃ A0 cap0, lv = .slice A0 l.length cap0 := by
    obtain ⟨_, _, ho, _⟩ := hbox.rows
    exact own_slice ho
  obtain ⟨_, c5, _, _, p0⟩ := hbox.cells
  obtain ⟨RES, eRES⟩ : ∃ RES, Jq.itemL (Jq.value n) l (numsOf s) = RES := ⟨_, rfl⟩
  have HRES := Lib.hid eRES
  rw [eRES]
  clear eRES
  have hVlt := hbox.box.lt
  have hRblt := hbox.ptr.lt
  have hlC : ∀ k, (Value.slice A0 l.length cap0).ownBlock = some k → k < w.heap.size := by
    obtain ⟨_, _, ho, _⟩ := hbox.rows
    exact fun k e => (ho.lt k e).2
  have hsz : B0 ≤ w.heap.size := Nat.le_trans hB3 hbox.size
  have hRlt := h.lt
  have hErr : ∀ m, Jq.value n (numsOf s) = .error m → RES = .error m := fun m hm => by rw [← HRES.out, Jq.itemL, hm]; rfl
  have HErr := Lib.hid hErr
  have hOk : ∀ x r, Jq.value n (numsOf s) = .ok (x, r) → RES = .ok (l ++ [x], r) := fun x r hm => by rw [← HRES.out, Jq.itemL, hm]; rfl
  have HOk := Lib.hid hOk
  have HV := Lib.hid hV
  have hll : (l.length : Int) < (l.length : Int) + 1 := by omega
  obtain ⟨N, eN⟩ : ∃ N, l.length = N := ⟨_, rfl⟩
  have EN := Lib.hid eN
  clear hErr hOk HRES hV eN
  go_enter Tryz.func139, Tryz.ntmps139
  go_region_law (first
    | (go_simp; go_at_call 95; refine (HV.out W R s _ (by first | exact h.drew | exact h.drew.alloc _)).mono ?_; intro e w1 hh; rcases Ends.cases hh with ⟨x, r, v, s1, hres, rfl, hJ, hs1, h1, hg1⟩ | ⟨m, hres, rfl, hg1⟩; rotate_left; exact ⟨rfl, ItemEnd.err (HErr.out m hres) (by first | exact Far.drew (Far.of_gb hg1 hsz) | exact Far.drew (Far.alloc (Far.of_gb hg1 (by simp; omega)) hsz))⟩; have k1 : Box 4 B Rb V R [] l nilS (.slice A0 l.length cap0) w1 := (by first | exact hbox.drew.gb hg1 | exact (hbox.drew.alloc _).gb hg1); have hF1 : Far B0 R w w1 := (by first | exact Far.drew (Far.of_gb hg1 hsz) | exact Far.drew (Far.alloc (Far.of_gb hg1 (by simp; omega)) hsz)); have hJ1 := hJ.from (C := w.heap.size) (by first | exact Nat.le_refl _ | simp); obtain ⟨_, d5, _, f5, q0⟩ := k1.cells; have hVlt1 : V < w1.heap.size := k1.box.lt; obtain ⟨A1, cap1, A2, cap2, rfl⟩ := IsJ.form hJ; have HR := Lib.hid hres; have HS1 := Lib.hid hs1; clear hh hJ hres hs1; simp only [])
    | (obtain ⟨vs, hvs, ho, hel⟩ := k1.rows; refine step_append_at rfl (.tmp 3) (.tmp 7) 24 26 (jv 0 false 0 ByteArray.empty nilS nilS) 6 88 rfl Tryz.underlying24 infoJson rfl (by decide) B (.slice A0 l.length cap0) l.length (vs.flatMap jcells) _ 1 zero6 (by first | exact ho | exact ho.alloc _) rfl (by first | exact new6 w1 | exact new6_gb hg1 hRlt | exact new6_gb (gb_undrew hg1) hRlt) six_one rfl rfl (by omega) (by omega) (by first | exact k1.size | exact Nat.le_trans k1.size (by simp)) ?_; intro g cap w2 hown2 hgr2 hg2; obtain ⟨⟨z0, z1, z2, z3, z4, z5⟩, y0, y1, y2, y3, y4, y5⟩ := six_at hown2 (flat_len ho); obtain ⟨m5, mf5⟩ := after_append (by first | exact k1 | exact k1.alloc _) hgr2; have hgB : B ≤ g := (hown2.lt g rfl).1; have hgV : ¬ g = V := (by have := hbox.hV; omega); have hVg : ¬ V = g := (fun e => hgV e.symm); have HD : Hid (∀ w3, Stored w2 w3 V g (l.length * 6) (jv x.kind x.bool x.int (strOf x.text) (.slice A1 x.names.length cap1) (.slice A2 x.list.length cap2)) (.slice (some ⟨g, 0, none⟩) (l.length + 1) cap) → ItemEnd W R (16 - n) B0 w (ListSt B0 B Rb V R) RES (.returned (.tuple #[])) w3) := (fun w3 hst => by
        obtain ⟨q1, q2, q3⟩ := list_done (d := 16 - n) (B0 := B0) (C := w.heap.size) (by first | exact k1 | exact k1.alloc _) (by first | exact h1 | exact h1.alloc _) (by first | exact hF1 | exact hF1.trans (Far.of_below ((Below.refl _ _).alloc (Nat.le_trans hB3 k1.size) _))) hvs (by first | exact ho | exact ho.alloc _) (by first | exact hel | exact (fun i u y e1 e2 => (hel i u y e1 e2).keep (fun b hb hlt => ⟨hb, Below.heap_alloc _ _ b hlt⟩) (by simp))) (by first | exact hJ1 | exact hJ1.keep (fun b hb hlt => ⟨hb, Below.heap_alloc _ _ b hlt⟩) (by simp)) hbox.size (fun k e => by cases e) (fun k e => hlC k e) hown2 hgr2 hg2 hB1 hB3 hWB hst
        exact ItemEnd.ok (HOk.out x r HR.out) ⟨_, q1, hB1, hB3⟩ HS1.out q2 q3); clear k1 hF1 hJ1 hown2 hgr2 hg2 hel ho hvs h1 hg1))
  all_goals (go_end0; refine HD.out _ ?_; first | with_reducible exact stored_a | with_reducible exact stored_b)
end Go.Proofs.YthklgpflaghojaaGreatDoor
