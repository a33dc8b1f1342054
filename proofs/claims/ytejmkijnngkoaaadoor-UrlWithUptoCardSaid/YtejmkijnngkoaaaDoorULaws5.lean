/-
  The walk of the law UrlWith.
-/
import Derived.Test.YtejmkijnngkoaaaDoorULaws4
namespace Go.Proofs.YtejmkijnngkoaaaDoor
open Go.RowKit

abbrev zPair : List (List Nat × List Nat) := [([122], [])]
theorem z_cells : pcells zPair = [.string { data := #[122] }, .string { data := #[] }] := rfl

set_option maxHeartbeats 4000000 in
set_option maxRecDepth 100000 in
theorem lawWith (H P : ByteArray) (L M : List (List Nat × List Nat)) (A B : Option Addr) (n m c d : Nat) (w : World) (hn : L.length = n) (hm : M.length = m) (hA : Row w A (pcells L)) (hB : Row w B (pcells M)) (hL : Pq.Fine L) (hM : Pq.Fine M)
    (hn9 : n ≤ 1048576) (hm9 : m ≤ 1048576) (hHd : Held w) :
    Calls Tryd.prog 5 #[uval H P A n c, .slice B m d] w fun e w' => e = .returned (.bool true) ∧ Below w.heap.size w w' := by
  have hL0 := Lies.made w 24 [.string H, .string P, .slice A n c]
  have Hn := Lib.hid hn
  have Hm := Lib.hid hm
  clear hn hm
  go_enter Tryd.func5, Tryd.ntmps5
  repeat ((fail_if_success (with_reducible show wpList _ _ _ (⟨some 11, _, _, _, _, _⟩ :: _) _ _)); first | go_values | go_skip | go_guarded | go_step | go_upon | go_back | go_simp)
  have hO := own_empty' (W := w.alloc (.cells #[.string H, .string P, .slice A n c] 24)) (g := w.heap.size + 1) (base := w.heap.size + 1) (e := 34) (by simp) (Nat.le_refl _)
  with_reducible refine append_pairs rfl (.tmp 8) (.tmp 10) rfl (w.heap.size + 1) _ 0 n [] A c L ?s0 hO ((hA.alloc _).alloc _) ?s1 ?s2 ?s3 ?s4 ?_
  case s0 => exact Hn.out
  case s1 => rfl
  case s2 => rfl
  case s3 => omega
  case s4 => simp
  intro v2 w2 hown2 hgr2
  rw [Nat.zero_add, List.nil_append] at hown2
  have hbm : Below w.heap.size w ((w.alloc (.cells #[.string H, .string P, .slice A n c] 24)).alloc (.cells #[] 34)) := ((Below.refl _ _).alloc (Nat.le_refl _) _).alloc (by simp) _
  have hbx : Below (w.heap.size + 1) ((w.alloc (.cells #[.string H, .string P, .slice A n c] 24)).alloc (.cells #[] 34)) w2 := (Below.refl _ _).grown hgr2 (by simp) (own_ge hO)
  have hl2 := (hL0.alloc (.cells #[] 34)).below hbx (by omega)
  have hb2 := hbm.trans (hbx.mono (by omega))
  have hs2 : w.heap.size + 1 ≤ w2.heap.size := by have := hbx.size; simp at this; omega
  obtain ⟨D, g, rfl⟩ := own_slice hown2
  have hD2 := Row.own hown2
  have hA2 := hA.below hb2 (Nat.le_refl _)
  have hB2 := hB.below hb2 (Nat.le_refl _)
  obtain ⟨k0, k1, k2, _, _, _⟩ := keep3 hl2 (Below.refl _ _)
  have hW1 := with_any H P L M A B n m c d w2 Hn.out Hm.out hA2 hB2 (by omega)
  unfold WithEnd at hW1
  clear hO hgr2 hbm hbx hL0 hown2
  go_frame
  go_wp2_with fail
  refine hW1.mono ?_
  rintro e w3 ⟨A1, c1, rfl, hr1, hb3, _⟩
  clear hW1 k0 k1 k2
  have hl3 := hl2.below hb3 hl2.lt
  have hb03 := hb2.trans (hb3.mono hb2.size)
  have hA3 := hA.below hb03 (Nat.le_refl _)
  have hD3 := hD2.below hb3 (Nat.le_refl _)
  have hV3 := Lies.made w3 24 [.string H, .string P, .slice A1 (n + m) c1]
  have hb03a := hb03.alloc hb03.size (.cells #[.string H, .string P, .slice A1 (n + m) c1] 24)
  have hs3 : w.heap.size + 1 ≤ w3.heap.size := Nat.le_trans hs2 hb3.size
  obtain ⟨k0, k1, k2, _, _, _⟩ := keep3 (hl3.alloc (.cells #[.string H, .string P, .slice A1 (n + m) c1] 24)) (Below.refl _ _)
  have hZ := Lies.new_ (w := w3.alloc (.cells #[.string H, .string P, .slice A1 (n + m) c1] 24)) (g := w3.heap.size + 1) (t := 34) (cs := [.string { data := #[122] }, .string { data := #[] }]) (by simp)
  have hzr := Row.lies hZ
  rw [← z_cells] at hzr
  have hW2 := with_any H P L zPair A (some ⟨w3.heap.size + 1, 0, none⟩) n 1 c 1 _ Hn.out rfl ((hA3.alloc _).alloc _) hzr (by omega)
  unfold WithEnd at hW2
  clear hb3 hl2 hD2 hA2 hB2 hb2 hzr hZ
  go_wp2_with fail
  refine hW2.mono ?_
  rintro e w4 ⟨A4, c4, rfl, hr4, hb4, _⟩
  clear hW2 k0 k1 k2
  have hb04 := (hb03a.alloc hb03a.size (.cells #[.string { data := #[122] }, .string { data := #[] }] 34)).trans (hb4.mono (hb03a.alloc hb03a.size (.cells #[.string { data := #[122] }, .string { data := #[] }] 34)).size)
  have hb09 := hb04.alloc hb04.size (.cells #[.string H, .string P, .slice A4 (n + 1) c4] 24)
  have hl9 := ((((hl3.alloc (.cells #[.string H, .string P, .slice A1 (n + m) c1] 24)).alloc (.cells #[.string { data := #[122] }, .string { data := #[] }] 34)).below hb4 ((hl3.alloc (.cells #[.string H, .string P, .slice A1 (n + m) c1] 24)).alloc (.cells #[.string { data := #[122] }, .string { data := #[] }] 34)).lt)).alloc (.cells #[.string H, .string P, .slice A4 (n + 1) c4] 24)
  have hV9 := ((hV3.alloc (.cells #[.string { data := #[122] }, .string { data := #[] }] 34)).below hb4 (hV3.alloc (.cells #[.string { data := #[122] }, .string { data := #[] }] 34)).lt).alloc (.cells #[.string H, .string P, .slice A4 (n + 1) c4] 24)
  have hU9 := Lies.made w4 24 [.string H, .string P, .slice A4 (n + 1) c4]
  have hA9 := hA.below hb09 (Nat.le_refl _)
  have hB9 := hB.below hb09 (Nat.le_refl _)
  have hr19 := (((hr1.alloc (.cells #[.string H, .string P, .slice A1 (n + m) c1] 24)).alloc (.cells #[.string { data := #[122] }, .string { data := #[] }] 34)).below hb4 (Nat.le_refl _)).alloc (.cells #[.string H, .string P, .slice A4 (n + 1) c4] 24)
  have hD9 := (((hD3.alloc (.cells #[.string H, .string P, .slice A1 (n + m) c1] 24)).alloc (.cells #[.string { data := #[122] }, .string { data := #[] }] 34)).below hb4 (Nat.le_refl _)).alloc (.cells #[.string H, .string P, .slice A4 (n + 1) c4] 24)
  have hH9 := hHd.below hb09
  have hrf := Below.refl (w4.alloc (.cells #[.string H, .string P, .slice A4 (n + 1) c4] 24)).heap.size (w4.alloc (.cells #[.string H, .string P, .slice A4 (n + 1) c4] 24))
  have HK : Hid (∀ W, Below (w4.alloc (.cells #[.string H, .string P, .slice A4 (n + 1) c4] 24)).heap.size (w4.alloc (.cells #[.string H, .string P, .slice A4 (n + 1) c4] 24)) W → W.cell? ⟨w.heap.size, 0, none⟩ = some (.string H) ∧ W.cell? ⟨w.heap.size, 1, none⟩ = some (.string P) ∧ W.cell? ⟨w.heap.size, 2, none⟩ = some (.slice A n c) ∧ W.cell? ⟨w3.heap.size, 0, none⟩ = some (.string H) ∧ W.cell? ⟨w3.heap.size, 1, none⟩ = some (.string P) ∧ W.cell? ⟨w3.heap.size, 2, none⟩ = some (.slice A1 (n + m) c1) ∧ W.cell? ⟨w4.heap.size, 2, none⟩ = some (.slice A4 (n + 1) c4) ∧ Row W A (pcells L) ∧ Row W B (pcells M) ∧ Row W A1 (pcells (L ++ M)) ∧ Row W D (pcells L) ∧ Held W ∧ Below (w4.alloc (.cells #[.string H, .string P, .slice A4 (n + 1) c4] 24)).heap.size (w4.alloc (.cells #[.string H, .string P, .slice A4 (n + 1) c4] 24)) W) := fun W hb => ⟨(hl9.below hb hl9.lt).cell 0, (hl9.below hb hl9.lt).cell 1, (hl9.below hb hl9.lt).cell 2, (hV9.below hb hV9.lt).cell 0, (hV9.below hb hV9.lt).cell 1, (hV9.below hb hV9.lt).cell 2, (hU9.below hb hU9.lt).cell 2, hA9.below hb (Nat.le_refl _), hB9.below hb (Nat.le_refl _), hr19.below hb (Nat.le_refl _), hD9.below hb (Nat.le_refl _), hH9.below hb, hb⟩
  have hR := fun W (h1 : Row W A (pcells L)) (h2 : Row W B (pcells M)) => refWith_any H P L M A B n m c d W Hn.out Hm.out h1 h2 (by omega)
  have hSm := fun A2 c2 W (h1 : Row W A1 (pcells (L ++ M))) (h2 : Row W A2 (pcells (L ++ M))) => refSame_any H P H P (L ++ M) (L ++ M) A1 A2 (n + m) (n + m) c1 c2 W (by simp only [List.length_append, Hn.out, Hm.out]) (by simp only [List.length_append, Hn.out, Hm.out]) h1 h2 (fun p hp => (List.mem_append.1 hp).elim (hL p) (hM p)) (fun p hp => (List.mem_append.1 hp).elim (hL p) (hM p)) (by omega)
  have hS3 := fun W (h1 : Row W A (pcells L)) (h2 : Row W D (pcells L)) => sameWide_any L L A D c g W h1 h2 hL hL (by rw [Hn.out]; omega)
  rw [decide_eq_true ⟨rfl, rfl, rfl⟩] at hSm
  simp only [Hn.out, decide_true] at hS3
  unfold WithEnd at hR
  have HB9 := Lib.hid hb09
  obtain ⟨f0, f1, f2, e0, e1, e2, d2, rA, rB, rV, rD, hHx, _⟩ := HK.out _ hrf
  clear hb03 hb03a hb04 hb09 hl3 hl9 hV3 hV9 hU9 hA hA3 hA9 hB hB9 hr1 hr19 hD3 hD9 hHd hH9 hb4 hr4 hs2 hs3 hL hM
  go_upto_region 4 with (fail)
  generalize (w4.alloc (.cells #[.string H, .string P, .slice A4 (n + 1) c4] 24)) = w9 at *
  go_region_held3 (fun W => W.cell? ⟨w.heap.size, 0, none⟩ = some (.string H) ∧ W.cell? ⟨w.heap.size, 1, none⟩ = some (.string P) ∧ W.cell? ⟨w.heap.size, 2, none⟩ = some (.slice A n c) ∧ W.cell? ⟨w3.heap.size, 0, none⟩ = some (.string H) ∧ W.cell? ⟨w3.heap.size, 1, none⟩ = some (.string P) ∧ W.cell? ⟨w3.heap.size, 2, none⟩ = some (.slice A1 (n + m) c1) ∧ W.cell? ⟨w4.heap.size, 2, none⟩ = some (.slice A4 (n + 1) c4) ∧ Row W A (pcells L) ∧ Row W B (pcells M) ∧ Row W A1 (pcells (L ++ M)) ∧ Row W D (pcells L) ∧ Held W ∧ Below w9.heap.size w9 W)
    (first
      | (go_split_ands; have hbz := (by assumption : Below w9.heap.size w9 _).trans (hba.mono (by assumption : Below w9.heap.size w9 _).size); exact HK.out _ hbz)
      | (go_split_ands; have hbz := below_drew (by assumption : Below w9.heap.size w9 _); exact HK.out _ hbz)
      | go_keep)
    (first
      | (go_at_call 17; go_split_ands; with_reducible refine (hS3 _ (by assumption) (by assumption)).mono ?_; rintro e wa ⟨rfl, hba⟩)
      | (go_at_call 12; go_split_ands; with_reducible refine (hSm _ _ _ (by assumption) hrow2).mono ?_; rintro e wa ⟨rfl, hba⟩)
      | (go_at_call 16; go_split_ands; with_reducible refine (hR _ (by assumption) (by assumption)).mono ?_; rintro e wa ⟨A2, c2, rfl, hrow2, hba, _⟩)
      | (go_at_call 11; go_split_ands; with_reducible refine (alive_any _ (by assumption)).mono ?_; rintro e wa ⟨rfl, hba⟩))
  all_goals
    go_split_ands
    have hfin : Below w9.heap.size w9 wa := by assumption
    have hb6 := HB9.out.trans (hfin.mono HB9.out.size)
    clear hR hSm hS3
    go_wp2
    go_ret
    exact ⟨ret_bool (by simp; rw [IntWalk.i64_in _ (by omega)]), hb6⟩
end Go.Proofs.YtejmkijnngkoaaaDoor
