/-
  The document's PutBound.
-/
import Derived.Test.YtkjofadabaecfaaLRPut
namespace Go.Proofs.Ytkjofadabaecfaa
open Go.RowKit

set_option maxHeartbeats 1000000 in
set_option maxRecDepth 100000 in
theorem refPutBound_any (n code : Int) (dn pw : ByteArray) (w : World) (hd : dn.size ≤ 140737488355328) (hp : pw.size ≤ 140737488355328) :
    Calls Try.prog 16 #[boundV n code dn pw] w (PutEnd (Bq.boundP n code (numsOf dn) (numsOf pw)) w) := by
  obtain ⟨RES, eRES⟩ : ∃ RES, Bq.boundP n code (numsOf dn) (numsOf pw) = RES := ⟨_, rfl⟩
  rw [eRES]
  unfold Bq.boundP at eRES
  rw [← Bq.putR_eq (.inr rfl)] at eRES
  unfold Bq.putR at eRES
  rw [numsOf_length, numsOf_length] at eRES
  have HRES := Lib.hid eRES
  obtain ⟨C1, D1, h1⟩ := conv_is dn hd
  obtain ⟨C2, D2, h2⟩ := conv_is pw hp
  have e1 := fun W => (h1 W).1
  have e2 := fun W => (h2 W).1
  have b1 : ∀ (W : World) (b i : Nat), b < W.heap.size → (C1 W).cell? ⟨b, i, none⟩ = W.cell? ⟨b, i, none⟩ := fun W b i hb => (h1 W).2.2.1.cell (p := ⟨b, i, none⟩) hb
  have b2 : ∀ (W : World) (b i : Nat), b < W.heap.size → (C2 W).cell? ⟨b, i, none⟩ = W.cell? ⟨b, i, none⟩ := fun W b i hb => (h2 W).2.2.1.cell (p := ⟨b, i, none⟩) hb
  have H1 := Lib.hid h1
  have H2 := Lib.hid h2
  clear eRES h1 h2
  obtain ⟨V, eV⟩ : ∃ V, w.heap.size = V := ⟨_, rfl⟩
  have HL0 : Hid (∀ W0, w.alloc (.cells #[.int .i64 n, .int .i64 code, .string dn, .string pw] 34) = W0 → Below w.heap.size w W0 ∧ Lies W0 V 34 [.int .i64 n, .int .i64 code, .string dn, .string pw]) := by
    intro W0 h
    subst h
    exact ⟨(Below.refl _ _).alloc (Nat.le_refl _) _, Lies.new_ eV.symm⟩
  obtain ⟨Z9, eZ⟩ : ∃ Z9, Bq.whole code = Z9 := ⟨_, rfl⟩
  have hZ4 : Z9.length ≤ 4 := by rw [← eZ]; exact whole_len code
  have hWh : ∀ W, Calls Try.prog 30 #[.int .i64 code] W (BytesEnd Z9 W) := fun W => by rw [← eZ]; exact refWhole_any code W
  rw [eZ] at HRES
  go_enter Try.func16, Try.ntmps16
  go_upto_region 1 with (fail)
  generalize hW0 : World.alloc w _ = W0
  obtain ⟨hb0, hL0⟩ := HL0.out _ hW0
  have hV : V < W0.heap.size := hL0.lt
  have HB0 := Lib.hid hb0
  have HLV := Lib.hid hL0
  have z1 : W0.cell? ⟨V, 1, none⟩ = some (.int .i64 code) := hL0.cell 1
  replace hWh := hWh W0
  clear hb0 hL0 hW0 HL0 eV
  go_wp2_with fail
  refine hWh.mono ?_
  rintro e W1 ⟨A9, c9, rfl, hn9, hb1⟩
  clear hWh z1
  obtain ⟨z2, z3⟩ : W1.cell? ⟨V, 2, none⟩ = some (.string dn) ∧ W1.cell? ⟨V, 3, none⟩ = some (.string pw) := ⟨(HLV.out.below hb1 hV).cell 2, (HLV.out.below hb1 hV).cell 3⟩
  by_cases hbig : Z9 = [] ∨ 65535 < dn.size ∨ 65535 < pw.size
  · have HE : Hid (PutEnd RES w (.returned (.tuple #[nilS, .int .i64 70])) W1) := PutEnd.none (by
      rw [← HRES.out]
      rcases hbig with h | h
      · exact if_pos h
      · rw [if_pos h, ite_self]) (below_more HB0.out hb1)
    have hdd : ((Z9.length : Int) == 0) = true ∨ (((Z9.length : Int) == 0) = false ∧ (decide ((65535 : Int) < (dn.size : Int)) = true ∨ (decide ((65535 : Int) < (dn.size : Int)) = false ∧ decide ((65535 : Int) < (pw.size : Int)) = true))) := by
      by_cases h0 : Z9 = []
      · exact .inl (by rw [h0]; rfl)
      · refine .inr ⟨?_, ?_⟩
        · rw [beq_eq_false_iff_ne]
          intro e
          exact h0 (List.eq_nil_of_length_eq_zero (by omega))
        · have hbig := hbig.resolve_left h0
          by_cases h : 65535 < dn.size
          · exact .inl (decide_eq_true (by omega))
          · exact .inr ⟨decide_eq_false (by omega), decide_eq_true (by have := hbig.resolve_left h; omega)⟩
    clear hbig e1 e2 b1 b2 hn9 hb1
    rcases hdd with d9 | ⟨d9, d1 | ⟨d1, d2⟩⟩
    all_goals
      go_wp2
      go_ret2
      exact HE.out
  have hne : Z9 ≠ [] := fun h => hbig (.inl h)
  have d9 : ((Z9.length : Int) == 0) = false := by
    rw [beq_eq_false_iff_ne]
    intro e
    exact hne (List.eq_nil_of_length_eq_zero (by omega))
  have d1 : decide ((65535 : Int) < (dn.size : Int)) = false := decide_eq_false (by omega)
  have d2 : decide ((65535 : Int) < (pw.size : Int)) = false := decide_eq_false (by omega)
  have HBIG := Lib.hid hbig
  have HBA := Lib.hid hb1
  have hP := part_any 10 Z9 A9 c9 W1 (by decide) hn9 (by omega)
  clear hn9 hb1 hne
  go_wp2_with fail
  refine hP.mono ?_
  rintro e w2 ⟨A2, c2, rfl, hown2, h2, hb2⟩
  clear hP z2 z3
  have hbw2 := below_more HBA.out hb2
  obtain ⟨_, _, z1, z2⟩ := (HLV.out.below hbw2 hV).four.1
  obtain ⟨_, r2, r3, _⟩ := H1.out w2
  have hP := part_any 4 (numsOf dn) _ _ (C1 w2) (by decide) r2 (by rw [numsOf_length]; omega)
  rw [numsOf_length] at hP
  have HO2 := Lib.hid hown2
  have H256 := Lib.hid h2
  have HBW2 := Lib.hid hbw2
  have HR3 := Lib.hid r3
  clear hown2 h2 hb2 hbw2 r2 r3
  go_wp2_with fail
  refine hP.mono ?_
  rintro e w3 ⟨A3, c3, rfl, hown3, h3, hb3⟩
  clear hP z1 z2
  have hb23 := below_more HR3.out hb3
  have hbw3 := below_more HBW2.out hb23
  obtain ⟨_, _, z1, z2⟩ := (HLV.out.below hbw3 hV).four.1
  obtain ⟨_, r2, r3, _⟩ := H2.out w3
  have hP := part_any 4 (numsOf pw) _ _ (C2 w3) (by decide) r2 (by rw [numsOf_length]; omega)
  rw [numsOf_length] at hP
  have HO23 := Lib.hid (own_below HO2.out hb23)
  have HO3 := Lib.hid hown3
  have H3 := Lib.hid h3
  have HBW3 := Lib.hid hbw3
  have HB23 := Lib.hid hb23
  have HR4 := Lib.hid r3
  clear hown3 h3 hb3 hb23 hbw3 r2 r3
  go_wp2_with fail
  refine hP.mono ?_
  rintro e w4 ⟨A4, c4, rfl, hown4, h4, hb4⟩
  clear hP z1 z2
  have hb34 := below_more HR4.out hb4
  have hownX := own_below HO23.out hb34
  have hqD := (own_arg (own_below HO3.out hb34) H3.out).2
  have hbase : W1.heap.size ≤ w4.heap.size := by
    have h1 := hownX
    have := HBW2.out.size
    have h2 := HB23.out.size
    have h3 := hb34.size
    have h5 := hb4.size
    rcases hownX.2 with ⟨_, h0⟩ | ⟨g, cap, cur, _, hg1, hg2, _⟩
    · exact absurd h0 (by simp [Bq.part])
    · have := (Array.getElem?_eq_some_iff.1 hg2).1
      omega
  have hlX : (Bq.part 10 Z9).length ≤ 8 := by have := (Bq.part_len 10 Z9).2; omega
  have hlD := (Bq.part_len 4 (numsOf dn)).2
  have hlP := (Bq.part_len 4 (numsOf pw)).2
  rw [numsOf_length] at hlD hlP
  have hXblk : ∀ b, (Value.slice A2 (Bq.part 10 Z9).length c2).ownBlock = some b → b < w3.heap.size := fun b e => (HO23.out.lt b e).2
  have HXB := Lib.hid hXblk
  obtain ⟨X, eX⟩ : ∃ X, Bq.part 10 Z9 = X := ⟨_, rfl⟩
  obtain ⟨D, eD⟩ : ∃ D, Bq.part 4 (numsOf dn) = D := ⟨_, rfl⟩
  obtain ⟨Y, eY⟩ : ∃ Y, Bq.part 4 (numsOf pw) = Y := ⟨_, rfl⟩
  rw [eX] at hownX hlX H256 HXB ⊢
  rw [eD] at hqD hlD H3 ⊢
  rw [eY] at hown4 h4 hlP ⊢
  have HX := Lib.hid eX
  have HD := Lib.hid eD
  have HY := Lib.hid eY
  have HO4 := Lib.hid hown4
  have H4 := Lib.hid h4
  have HBW4 := Lib.hid (below_more HBW3.out hb34)
  have HC4 : Hid (w3.heap.size ≤ (C2 w3).heap.size) := HR4.out.size
  clear hown4 h4 hb4 hb34 eX eD eY hXblk HO23
  repeat ((fail_if_success (with_reducible show wpList _ _ _ (⟨some 38, _, _, _, _, _⟩ :: _) _ _)); first | go_values | go_skip | go_guarded | go_step | go_upon | go_back | go_simp)
  with_reducible refine append_arg rfl (.tmp 36) (.tmp 37) ?s0 W1.heap.size _ X.length (u8s X) A3 c3 D hownX hqD ?s1 ?s2 ?s3 hbase ?_
  case s0 => rfl
  case s1 => rfl
  case s2 => rfl
  case s3 => omega
  intro v5 w5 hown5 hgr5
  have hown5' : w5.ownsRow W1.heap.size 5 1 v5 (X ++ D).length (u8s (X ++ D)) := by
    rw [List.length_append, u8s_append]
    exact hown5
  have hqY := (own_arg (own_far HO4.out (fun b hb => hgr5.block b (HO4.out.lt b hb).2 (fun e => by have h1 := HXB.out b e.symm; have h2 := (HO4.out.lt b hb).1; have := HC4.out; omega))) H4.out).2
  have hbA0 : W0.heap.size ≤ W1.heap.size := HBA.out.size
  have hbw5 : Below W0.heap.size W0 w5 := HBW4.out.grown hgr5 HBW4.out.size (fun b e => by have := (hownX.lt b e).1; omega)
  have hbase5 : W1.heap.size ≤ w5.heap.size := Nat.le_trans hbase hgr5.size
  obtain ⟨A5, c5, rfl⟩ := own_slice hown5'
  have hlXD : (X ++ D).length = X.length + D.length := List.length_append
  obtain ⟨Z, eZ⟩ : ∃ Z, X ++ D = Z := ⟨_, rfl⟩
  have HZ := Lib.hid eZ
  have H5 : Hid (∀ x ∈ Z, x < 256) := by
    intro x hx
    rw [← eZ] at hx
    exact (List.mem_append.1 hx).elim (H256.out x) (H3.out x)
  rw [eZ] at hown5' hlXD ⊢
  clear hownX hqD hown5 hgr5 hbase eZ
  go_frame
  repeat ((fail_if_success (with_reducible show wpList _ _ _ (⟨some 41, _, _, _, _, _⟩ :: _) _ _)); first | go_values | go_skip | go_guarded | go_step | go_upon | go_back | go_simp)
  with_reducible refine append_arg rfl (.tmp 39) (.tmp 40) ?s0 W1.heap.size _ Z.length (u8s Z) A4 c4 Y hown5' hqY ?s1 ?s2 ?s3 hbase5 ?_
  case s0 => rfl
  case s1 => rfl
  case s2 => rfl
  case s3 => omega
  intro v6 w6 hown6 hgr6
  have hown6' : w6.ownsRow W1.heap.size 5 1 v6 (Z ++ Y).length (u8s (Z ++ Y)) := by
    rw [List.length_append, u8s_append]
    exact hown6
  have hbw6 : Below W0.heap.size W0 w6 := hbw5.grown hgr6 hbw5.size (fun b e => by have := (hown5'.lt b e).1; omega)
  obtain ⟨A6, c6, rfl⟩ := own_slice hown6'
  have h6 : ∀ x ∈ Z ++ Y, x < 256 := fun x hx => (List.mem_append.1 hx).elim (H5.out x) (H4.out x)
  have hq6 := (own_arg hown6' h6).2
  have hT : Z ++ Y = Bq.three Bq.boundK Z9 (numsOf dn) (numsOf pw) := by rw [← HZ.out, ← HX.out, ← HD.out, ← HY.out]; rfl
  rw [hT] at hq6 ⊢
  have hP := wholeMsg_any n _ A6 c6 97 w6 (by decide) hq6
  have HB6 := Lib.hid (below_more HB0.out hbw6)
  obtain ⟨z0, _, _, _⟩ := (HLV.out.below hbw6 hV).four.1
  clear hown5' hqY hbw5 hbase5 hown6 hgr6 hown6' hbw6 h6 hq6 hT hlXD hlX hlD hlP hbA0
  go_frame
  go_wp2_with fail
  refine hP.mono ?_
  intro e w7 hh
  clear hP z0
  obtain ⟨hb7, ⟨l, A7, c7, hr, rfl, hl⟩ | ⟨hr, rfl⟩⟩ := hh.cases
  · have HE : Hid (PutEnd RES w (.returned (.tuple #[.slice A7 l.length c7, .int .i64 0])) w7) := PutEnd.some (by rw [← HRES.out, if_neg (fun h => HBIG.out (.inl h)), if_neg (fun h => HBIG.out (.inr h))]; exact hr) hl (below_more HB6.out hb7)
    clear hh hb7 hr hl
    go_wp2
    go_ret2
    exact HE.out
  · have HE : Hid (PutEnd RES w (.returned (.tuple #[nilS, .int .i64 70])) w7) := PutEnd.none (by rw [← HRES.out, if_neg (fun h => HBIG.out (.inl h)), if_neg (fun h => HBIG.out (.inr h))]; exact hr) (below_more HB6.out hb7)
    clear hh hb7 hr
    go_wp2
    go_ret2
    exact HE.out
end Go.Proofs.Ytkjofadabaecfaa
