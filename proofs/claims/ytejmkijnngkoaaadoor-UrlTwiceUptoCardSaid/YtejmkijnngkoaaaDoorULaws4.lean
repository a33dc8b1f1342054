/-
  The walk of the law UrlTwice.
-/
import Derived.Test.YtejmkijnngkoaaaDoorULaws
import Derived.Test.YtejmkijnngkoaaaDoorUWith
import Derived.Deep.RegionHeld3
namespace Go.Proofs.YtejmkijnngkoaaaDoor
open Go.RowKit

theorem own_empty' {W : World} {g base : Nat} {e : TypeId} (hg : W.heap.size = g) (hb : base ≤ g) : (W.alloc (.cells #[] e)).ownsRow base e 2 (.slice (some ⟨g, 0, none⟩) 0 0) 0 [] := own_empty hg.symm hb

set_option maxHeartbeats 4000000 in
set_option maxRecDepth 100000 in
theorem lawTwice (H P : ByteArray) (L M K : List (List Nat × List Nat)) (A B C : Option Addr) (n m k c d f : Nat) (w : World) (hn : L.length = n) (hm : M.length = m) (hk : K.length = k) (hA : Row w A (pcells L)) (hB : Row w B (pcells M)) (hC : Row w C (pcells K)) (hL : Pq.Fine L) (hM : Pq.Fine M) (hKf : Pq.Fine K)
    (hn9 : n ≤ 1048576) (hm9 : m ≤ 1048576) (hk9 : k ≤ 1048576) (hHd : Held w) :
    Calls Tryd.prog 8 #[uval H P A n c, .slice B m d, .slice C k f] w fun e w' => e = .returned (.bool true) ∧ Below w.heap.size w w' := by
  have hL0 := Lies.made w 24 [.string H, .string P, .slice A n c]
  have Hn := Lib.hid hn
  have Hm := Lib.hid hm
  have Hk := Lib.hid hk
  clear hn hm hk
  go_enter Tryd.func8, Tryd.ntmps8
  repeat ((fail_if_success (with_reducible show wpList _ _ _ (⟨some 10, _, _, _, _, _⟩ :: _) _ _)); first | go_values | go_skip | go_guarded | go_step | go_upon | go_back | go_simp)
  have hO := own_empty' (W := w.alloc (.cells #[.string H, .string P, .slice A n c] 24)) (g := w.heap.size + 1) (base := w.heap.size + 1) (e := 34) (by simp) (Nat.le_refl _)
  with_reducible refine append_pairs rfl (.tmp 8) (.tmp 9) rfl (w.heap.size + 1) _ 0 m [] B d M ?s0 hO ((hB.alloc _).alloc _) ?s1 ?s2 ?s3 ?s4 ?_
  case s0 => exact Hm.out
  case s1 => rfl
  case s2 => rfl
  case s3 => omega
  case s4 => simp
  intro v2 w2 hown2 hgr2
  rw [Nat.zero_add, List.nil_append] at hown2
  have hbm : Below w.heap.size w ((w.alloc (.cells #[.string H, .string P, .slice A n c] 24)).alloc (.cells #[] 34)) := ((Below.refl _ _).alloc (Nat.le_refl _) _).alloc (by simp) _
  have hbx : Below (w.heap.size + 1) ((w.alloc (.cells #[.string H, .string P, .slice A n c] 24)).alloc (.cells #[] 34)) w2 := (Below.refl _ _).grown hgr2 (by simp) (own_ge hO)
  have hl0 := (hL0.alloc (.cells #[] 34)).below hbx (by omega)
  have hb2 := hbm.trans (hbx.mono (by omega))
  have hC2 := hC.below hb2 (Nat.le_refl _)
  have hs2 : w.heap.size + 1 ≤ w2.heap.size := by have := hbx.size; simp at this; omega
  clear hO hgr2 hbm hbx hL0
  go_frame
  repeat ((fail_if_success (with_reducible show wpList _ _ _ (⟨some 12, _, _, _, _, _⟩ :: _) _ _)); first | go_values | go_skip | go_guarded | go_step | go_upon | go_back | go_simp)
  with_reducible refine append_pairs rfl (.tmp 10) (.tmp 11) rfl (w.heap.size + 1) _ m k _ C f K ?t0 hown2 hC2 ?t1 ?t2 ?t3 ?t4 ?_
  case t0 => exact Hk.out
  case t1 => rfl
  case t2 => rfl
  case t3 => omega
  case t4 => exact hs2
  intro v3 w3 hown3 hgr3
  have hbx : Below (w.heap.size + 1) w2 w3 := (Below.refl _ _).grown hgr3 hs2 (own_ge hown2)
  have hb3 := hb2.trans (hbx.mono (by omega))
  have hl3 := hl0.below hbx (by omega)
  obtain ⟨D, g, rfl⟩ := own_slice hown3
  have hD := Row.own hown3
  rw [← pcells_append] at hD
  have hA3 := hA.below hb3 (Nat.le_refl _)
  have hB3 := hB.below hb3 (Nat.le_refl _)
  have hC3 := hC.below hb3 (Nat.le_refl _)
  have hH3 := hHd.below hb3
  have HK : Hid (∀ W, Below w3.heap.size w3 W → W.cell? ⟨w.heap.size, 0, none⟩ = some (.string H) ∧ W.cell? ⟨w.heap.size, 1, none⟩ = some (.string P) ∧ W.cell? ⟨w.heap.size, 2, none⟩ = some (.slice A n c) ∧ Row W A (pcells L) ∧ Row W B (pcells M) ∧ Row W C (pcells K) ∧ Row W D (pcells (M ++ K)) ∧ Held W ∧ Below w3.heap.size w3 W) := fun W hb => ⟨(hl3.below hb hl3.lt).cell 0, (hl3.below hb hl3.lt).cell 1, (hl3.below hb hl3.lt).cell 2, hA3.below hb (Nat.le_refl _), hB3.below hb (Nat.le_refl _), hC3.below hb (Nat.le_refl _), hD.below hb (Nat.le_refl _), hH3.below hb, hb⟩
  have hW1 := fun W (h1 : Row W A (pcells L)) (h2 : Row W B (pcells M)) => with_any H P L M A B n m c d W Hn.out Hm.out h1 h2 (by omega)
  have hW2 := fun A1 c1 W (h1 : Row W A1 (pcells (L ++ M))) (h2 : Row W C (pcells K)) => with_any H P (L ++ M) K A1 C (n + m) k c1 f W (by rw [List.length_append, Hn.out, Hm.out]) Hk.out h1 h2 (by omega)
  have hW3 := fun W (h1 : Row W A (pcells L)) (h2 : Row W D (pcells (M ++ K))) => with_any H P L (M ++ K) A D n (m + k) c g W Hn.out (by rw [List.length_append, Hm.out, Hk.out]) h1 h2 (by omega)
  have hSm := fun A2 c2 A3 c3 W (h1 : Row W A2 (pcells (L ++ M ++ K))) (h2 : Row W A3 (pcells (L ++ (M ++ K)))) => refSame_any H P H P (L ++ M ++ K) (L ++ (M ++ K)) A2 A3 (n + m + k) (n + (m + k)) c2 c3 W (by simp only [List.length_append, Hn.out, Hm.out, Hk.out]) (by simp only [List.length_append, Hn.out, Hm.out, Hk.out]) h1 h2 (by
      intro p hp
      rcases List.mem_append.1 hp with h | h
      · rcases List.mem_append.1 h with h | h
        · exact hL p h
        · exact hM p h
      · exact hKf p h) (by
      intro p hp
      rcases List.mem_append.1 hp with h | h
      · exact hL p h
      · rcases List.mem_append.1 h with h | h
        · exact hM p h
        · exact hKf p h) (by omega)
  rw [decide_eq_true ⟨rfl, rfl, List.append_assoc _ _ _⟩] at hSm
  unfold WithEnd at hW1 hW2 hW3
  have HB3 := Lib.hid hb3
  obtain ⟨f0, f1, f2, rA, rB, rC, rD, hHx, hrf⟩ := HK.out w3 (Below.refl _ _)
  clear hown3 hgr3 hbx hown2 hb2 hC2 hl0 hl3 hA hB hC hA3 hB3 hC3 hD hH3 hHd hb3 hs2 hL hM hKf
  go_frame
  go_upto_region 2 with (fail)
  go_region_held3 (fun W => W.cell? ⟨w.heap.size, 0, none⟩ = some (.string H) ∧ W.cell? ⟨w.heap.size, 1, none⟩ = some (.string P) ∧ W.cell? ⟨w.heap.size, 2, none⟩ = some (.slice A n c) ∧ Row W A (pcells L) ∧ Row W B (pcells M) ∧ Row W C (pcells K) ∧ Row W D (pcells (M ++ K)) ∧ Held W ∧ Below w3.heap.size w3 W)
    (first
      | (go_split_ands; have hbz := (by assumption : Below w3.heap.size w3 _).trans (hba.mono (by assumption : Below w3.heap.size w3 _).size); exact HK.out _ hbz)
      | (go_split_ands; have hbz := below_drew (by assumption : Below w3.heap.size w3 _); exact HK.out _ hbz)
      | go_keep)
    (first
      | (go_at_call 12; go_split_ands; with_reducible refine (hSm _ _ _ _ _ hrow2c hrow3).mono ?_; rintro e wa ⟨rfl, hba⟩)
      | (go_at_call 15; go_split_ands; with_reducible refine (hW2 _ _ _ hrow1 (by assumption)).mono ?_; rintro e wa ⟨A2, c2, rfl, hrow2, hba, _⟩)
      | (go_at_call 15; go_split_ands; with_reducible refine (hW3 _ (by assumption) (by assumption)).mono ?_; rintro e wa ⟨A3, c3, rfl, hrow3, hba, _⟩; have hrow2c := hrow2.below hba (Nat.le_refl _))
      | (go_at_call 15; go_split_ands; with_reducible refine (hW1 _ (by assumption) (by assumption)).mono ?_; rintro e wa ⟨A1, c1, rfl, hrow1, hba, _⟩)
      | (go_at_call 11; go_split_ands; with_reducible refine (alive_any _ (by assumption)).mono ?_; rintro e wa ⟨rfl, hba⟩))
  all_goals
    go_split_ands
    have hfin : Below w3.heap.size w3 wa := by assumption
    have hb6 := HB3.out.trans (hfin.mono HB3.out.size)
    clear hW1 hW2 hW3 hSm
    go_wp2
    go_ret
    exact ⟨rfl, hb6⟩
end Go.Proofs.YtejmkijnngkoaaaDoor
