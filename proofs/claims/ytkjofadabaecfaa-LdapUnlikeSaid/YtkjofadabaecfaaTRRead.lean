/-
  The document's read and Decode.
-/
import Derived.Test.YtkjofadabaecfaaTSlice
import Derived.Test.YtkjofadabaecfaaTRSized
namespace Go.Proofs.Ytkjofadabaecfaa
open Go.RowKit

/-- That elements are read at so many levels. -/
def RReadOk (lv : Nat) : Prop := ∀ (q : List Nat) (A : Option Addr) (c : Nat) (w : World), ArgIs w A c q →
  Calls Try.prog 52 #[.slice A q.length c, .int .i64 ((16 - lv : Nat) : Int)] w (ReadEnd (Bq.read lv q) w)
theorem arg_lt {w : World} {A : Option Addr} {c : Nat} {q : List Nat} (h : ArgIs w A c q) : ∀ x ∈ q, x < 256 := h.2.2.1

set_option maxHeartbeats 1000000 in
set_option maxRecDepth 100000 in
theorem refRead_step (lv : Nat) (hlv : lv ≤ 16) (ih : ∀ m, lv = m + 1 → RReadOk m) : RReadOk lv := by
  intro q A c w hq
  obtain ⟨RES, eRES⟩ : ∃ RES, Bq.read lv q = RES := ⟨_, rfl⟩
  rw [eRES]
  obtain ⟨D, eD⟩ : ∃ D : Int, ((16 - lv : Nat) : Int) = D := ⟨_, rfl⟩
  rw [eD]
  have hD1 : 0 ≤ D := by omega
  have hD2 : D ≤ 16 := by omega
  obtain ⟨W0, eW0⟩ : ∃ W0, W0 = w.alloc (.cells zero3.toArray 60) := ⟨_, rfl⟩
  have hb0 : Below w.heap.size w W0 := by rw [eW0]; exact (Below.refl _ _).alloc (Nat.le_refl _) _
  have hl0 : Lies W0 w.heap.size 60 zero3 := by rw [eW0]; exact Lies.new_ rfl
  have HB0 := Lib.hid hb0
  have HL0 := Lib.hid hl0
  match q, hq, eRES with
  | [], hq, eRES =>
    have HE : Hid (∀ o, ReadEnd RES w (.returned (.tuple #[tv 0 nilS nilS, .int .i64 0, .int .i64 60])) (w.alloc o)) := fun o => by
      rw [← eRES, Bq.read_nil]
      exact ⟨(Below.refl _ _).alloc (Nat.le_refl _) _, by decide, rfl⟩
    clear hq eRES HB0 HL0 hb0 hl0 ih eD
    go_enter Try.func52, Try.ntmps52
    go_wp2
    refine bodyPost_ret (v := .tuple #[tv 0 nilS nilS, .int .i64 0, .int .i64 60]) ?_ rfl ?_
    · simp [results, Try.results52, go_sem]
    · exact HE.out _
  | a :: r, hq, eRES =>
    rw [Bq.read_cons] at eRES
    have ha : a < 256 := arg_lt hq a (by simp)
    have hrl := arg_lt hq
    obtain ⟨bk, off, rfl, hblt, hcell⟩ := arg_get hq (by simp)
    have k0 := hcell 0 (by simp)
    have hcl := hq.1
    have hc63 := hq.2.1
    obtain ⟨M, eM⟩ : ∃ M, r.length = M := ⟨_, rfl⟩
    have eN : (a :: r).length = M + 1 := by rw [List.length_cons, eM]
    rw [eN] at hcl ⊢
    rw [Nat.add_zero, List.getD_cons_zero] at k0
    have HK0 : Hid (∀ W, Below w.heap.size w W → W.cell? ⟨bk, off, none⟩ = some (.int .u8 (a : Int))) := fun W h => (World.cell?_of_block (a := ⟨bk, off, none⟩) (h.block bk hblt)).trans k0
    have k01 := HK0.out _ hb0
    have hr1 := (hq.on hb0).cut 1 (by simp)
    rw [List.drop_one, List.tail_cons] at hr1
    obtain ⟨A1, eA1⟩ : ∃ A1, cutAt (some ⟨bk, off, none⟩) c 1 = A1 := ⟨_, rfl⟩
    obtain ⟨c1, ec1⟩ : ∃ c1, c - 1 = c1 := ⟨_, rfl⟩
    rw [eA1, ec1] at hr1
    have HQ := Lib.hid hq
    have HM := Lib.hid eM
    have HR := Lib.hid hrl
    have hS := refSized_any r _ _ W0 hr1
    rw [eM, eW0] at hS
    rw [eW0] at k01
    have HW0 := Lib.hid eW0
    have dM : decide ((M : Int) + 1 < 1) = false := decide_eq_false (by omega)
    have HIH := Lib.hid ih
    have HLV := Lib.hid eD
    clear hcell hq k0 eN eW0 hr1 hb0 hl0 eM eD hrl ih
    by_cases h31 : a % 32 = 31
    · have d31 : ((a : Int) % 32 == 31) = true := by rw [beq_iff_eq]; omega
      have HE : Hid (∀ o, ReadEnd RES w (.returned (.tuple #[tv 0 nilS nilS, .int .i64 0, .int .i64 60])) (w.alloc o)) := fun o => by
        rw [← eRES, if_pos h31]
        exact ⟨(Below.refl _ _).alloc (Nat.le_refl _) _, by decide, rfl⟩
      clear hS eRES h31
      go_enter Try.func52, Try.ntmps52
      go_wp2
      refine bodyPost_ret (v := .tuple #[tv 0 nilS nilS, .int .i64 0, .int .i64 60]) ?_ rfl ?_
      · simp [results, Try.results52, go_sem]
      · exact HE.out _
    have d31 : ((a : Int) % 32 == 31) = false := by rw [beq_eq_false_iff_ne]; omega
    rw [if_neg h31] at eRES
    have HRES := Lib.hid eRES
    clear h31 eRES
    go_enter Try.func52, Try.ntmps52
    repeat ((fail_if_success (with_reducible show wpList _ _ _ (⟨some 28, _, _, _, _, _⟩ :: _) _ _)); first | go_values | go_skip | go_guarded | go_step | go_upon | go_back | go_simp)
    with_reducible refine slice_from_at rfl (.tmp 27) (.const (.int .i64 1)) rfl (some ⟨bk, off, none⟩) (M + 1) c 1 ?s1 ?s2 ?s3 A1 M c1 eA1 ?s4 ec1 ?_
    case s1 => rfl
    case s2 => rfl
    case s3 => omega
    case s4 => omega
    go_frame
    go_wp2_with fail
    refine hS.mono ?_
    intro e w1 hh
    rw [← HW0.out] at hh
    obtain ⟨hb1, hh⟩ := hh
    have hbw := below_more HB0.out hb1
    have hl1 := HL0.out.below hb1 HL0.out.lt
    have k1 := HK0.out _ hbw
    clear hS k01
    rcases hh with ⟨n, k, hz, rfl⟩ | ⟨hz, rfl⟩
    rotate_left
    · have HE : Hid (ReadEnd RES w (.returned (.tuple #[tv 0 nilS nilS, .int .i64 0, .int .i64 60])) (put3 w1 w.heap.size (.int .u8 0) nilS nilS)) := read_no (n := 60) (by rw [← HRES.out, hz]) rfl (by decide) hbw
      have HZ := Lib.hid (Lies.put3 (a := .int .u8 0) (b := nilS) (c := nilS) hl1)
      obtain ⟨⟨z0, z1, z2⟩, f0, f1, f2⟩ := hl1.three
      clear hz hl1 hbw hb1
      go_wp2
      refine bodyPost_ret (v := .tuple #[tv 0 nilS nilS, .int .i64 0, .int .i64 60]) ?_ rfl ?_
      · have hz := HZ.out
        unfold put3 at hz
        generalize World.setCell (World.setCell (World.setCell w1 _ _) _ _) _ _ = w9 at hz ⊢
        obtain ⟨⟨z0, z1, z2⟩, _⟩ := hz.three
        simp [results, Try.results52, go_sem, z0, z1, z2]
      · exact HE.out
    obtain ⟨hk1, hkr⟩ := Bq.sized_le hz
    rw [HM.out] at hkr
    have hn65 := (Bq.sized_size (fun x hx => HR.out x (by simp [hx])) hz).1
    have hres := HRES.out
    rw [hz] at hres
    simp only at hres
    rw [HM.out] at hres
    have dk : ((k : Int) == 0) = false := by rw [beq_eq_false_iff_ne]; omega
    by_cases hlong : M < k + n
    · have dl : decide ((M : Int) + 1 - 1 - (k : Int) < (n : Int)) = true := decide_eq_true (by omega)
      have dl2 : decide ((M : Int) - (k : Int) < (n : Int)) = true := decide_eq_true (by omega)
      have HE : Hid (ReadEnd RES w (.returned (.tuple #[tv 0 nilS nilS, .int .i64 0, .int .i64 60])) (put3 w1 w.heap.size (.int .u8 0) nilS nilS)) := read_no (n := 60) (by rw [← hres, if_pos hlong]) rfl (by decide) hbw
      have HZ := Lib.hid (Lies.put3 (a := .int .u8 0) (b := nilS) (c := nilS) hl1)
      obtain ⟨⟨z0, z1, z2⟩, f0, f1, f2⟩ := hl1.three
      clear hz hl1 hbw hb1 hres hlong
      go_wp2
      refine bodyPost_ret (v := .tuple #[tv 0 nilS nilS, .int .i64 0, .int .i64 60]) ?_ rfl ?_
      · have hz := HZ.out
        unfold put3 at hz
        generalize World.setCell (World.setCell (World.setCell w1 _ _) _ _) _ _ = w9 at hz ⊢
        obtain ⟨⟨z0, z1, z2⟩, _⟩ := hz.three
        simp [results, Try.results52, go_sem, z0, z1, z2]
      · exact HE.out
    have dl : decide ((M : Int) + 1 - 1 - (k : Int) < (n : Int)) = false := decide_eq_false (by omega)
    have dl2 : decide ((M : Int) - (k : Int) < (n : Int)) = false := decide_eq_false (by omega)
    rw [if_neg hlong] at hres
    have hkn : k + n ≤ M := by omega
    have HRES2 := Lib.hid hres
    have HBW := Lib.hid hbw
    have HL1 := Lib.hid hl1
    obtain ⟨A2, eA2⟩ : ∃ A2, cutAt (some ⟨bk, off, none⟩) c (1 + k) = A2 := ⟨_, rfl⟩
    obtain ⟨c2, ec2⟩ : ∃ c2, c - (1 + k) = c2 := ⟨_, rfl⟩
    obtain ⟨X, eX⟩ : ∃ X, (r.drop k).take n = X := ⟨_, rfl⟩
    have hXl : X.length = n := by
      have := HM.out
      rw [← eX, List.length_take, List.length_drop]; omega
    have HXA : Hid (ArgIs w A2 c2 X) := by
      have h := (HQ.out.cut (1 + k) (by rw [List.length_cons, HM.out]; omega)).take n
      rw [eA2, ec2, Nat.add_comm 1 k, List.drop_succ_cons, eX] at h
      exact h
    rw [eX] at HRES2
    have HXL := Lib.hid hXl
    have HX256 : Hid (∀ x ∈ X, x < 256) := arg_lt HXA.out
    clear hres hz hl1 hbw hlong eX hXl
    have hV : w.heap.size < w1.heap.size := HL1.out.lt
    repeat ((fail_if_success (with_reducible show wpList _ _ _ (⟨some 55, _, _, _, _, _⟩ :: _) _ _)); first | go_values | go_skip | go_guarded | go_step | go_upon | go_back | go_simp)
    generalize hW2 : World.alloc w1 _ = W2
    have hb2 : Below w.heap.size w W2 := by rw [← hW2]; exact below_alloc HBW.out _
    have hl2 : Lies W2 w.heap.size 60 zero3 := by rw [← hW2]; exact HL1.out.alloc _
    have hv2 : Lies W2 w1.heap.size 60 [.int .u8 (a : Int), nilS, nilS] := by rw [← hW2]; exact Lies.new_ rfl
    have hz2 : W2.heap.size = w1.heap.size + 1 := by rw [← hW2]; simp
    have k2 := HK0.out _ hb2
    have HSZ2 := Lib.hid hz2
    have HST := Lib.hid (RdSt.begin (a := a) hb2 hl2 hV hv2)
    have HB2 := Lib.hid hb2
    obtain ⟨V, eV⟩ : ∃ V, w1.heap.size = V := ⟨_, rfl⟩
    clear hW2 k1 hb1 hl2 hz2
    rw [eV] at hV HST HSZ2 hv2 ⊢
    clear eV
    with_reducible refine slice_part_at rfl (.tmp 48) (.tmp 50) (.tmp 54) rfl (some ⟨bk, off, none⟩) (M + 1) c (1 + k) (1 + k + n) ?s1 ?s2 ?s3 (by omega) (by omega) A2 n c2 eA2 (by omega) ec2 ?_
    case s1 => rfl
    case s2 => exact congrArg (Value.int .i64) (by omega)
    case s3 => exact congrArg (Value.int .i64) (by omega)
    clear eA2 ec2 eA1 ec1
    by_cases h0 : a / 32 % 2 = 0
    · have d0 : ((a : Int) / 32 % 2 == 0) = true := by rw [beq_iff_eq]; omega
      have hR : RES = .ok (.mk a X [], 1 + k + n) := by rw [← HRES2.out, if_pos h0]
      have HR2 := Lib.hid hR
      have HSTR := HST
      clear h0 hR HST
      go_frame
      repeat ((fail_if_success (with_reducible show wpList _ _ _ (⟨some 64, _, _, _, _, _⟩ :: _) _ _)); first | go_values | go_skip | go_guarded | go_step | go_upon | go_back | go_simp)
      have how : (W2.alloc (.cells #[] 5)).ownsRow (V + 1) 5 1 (.slice (some ⟨W2.heap.size, 0, none⟩) 0 0) 0 (u8s []) := World.ownsRow_made (base := V + 1) (e := 5) (size := 1) W2 #[] 0 (by rw [HSZ2.out]; exact Nat.le_refl _) (Nat.zero_le _) rfl
      have hbA : Below w.heap.size w (W2.alloc (.cells #[] 5)) := below_alloc HB2.out _
      have hszA : (W2.alloc (.cells #[] 5)).heap.size = V + 2 := by have := HSZ2.out; simp; omega
      have hvA := hv2.alloc (.cells #[] 5)
      have hXA := HXA.out.on hbA
      rw [← HXL.out]
      generalize hWA : W2.alloc (.cells #[] 5) = WA
      rw [hWA] at how hbA hszA hvA hXA
      have HL0A : Hid (Lies WA w.heap.size 60 zero3) := by unfold Hid; rw [← hWA]; exact HSTR.out.res.alloc _
      clear hWA hv2 k2
      with_reducible refine append_arg rfl (.tmp 62) (.tmp 63) ?s0 (V + 1) _ 0 (u8s []) A2 c2 X how hXA ?s1 ?s2 ?s3 ?s4 ?_
      case s0 => rfl
      case s1 => rfl
      case s2 => rfl
      case s3 => have := HXL.out; omega
      case s4 => omega
      intro v5 w5 hown5 hgr5
      rw [Nat.zero_add] at hown5
      obtain ⟨A5, c5, rfl⟩ := own_slice hown5
      have hXk : k + X.length ≤ M := by have := HXL.out; omega
      have hl5 := (HL0A.out).grown hgr5 (fun e => by have := (how.lt _ e.symm).1; omega)
      have hv5 := hvA.grown hgr5 (fun e => by have := (how.lt _ e.symm).1; omega)
      have hb5 := hbA.grown hgr5 (by have := hbA.size; omega) (fun b e => by have := (how.lt b e).1; omega)
      have f5 := hv5.free 1
      have u5 := hv5.cell 1
      have HO5 := Lib.hid hown5
      clear hown5 hgr5 how hXA hvA hbA HL0A
      go_frame
      repeat ((fail_if_success (with_reducible show wpList _ _ _ (⟨some 66, _, _, _, _, _⟩ :: _) _ _)); first | go_values | go_skip | go_guarded | go_step | go_upon | go_back | go_simp)
      generalize hW6 : World.setCell w5 _ _ = W6
      have hv6 : Lies W6 V 60 [.int .u8 (a : Int), .slice A5 X.length c5, nilS] := by rw [← hW6]; simpa using hv5.put 1 (.slice A5 X.length c5)
      have hl6 : Lies W6 w.heap.size 60 zero3 := by rw [← hW6]; exact hl5.far (show w.heap.size ≠ V by omega) _
      have hb6 : Below w.heap.size w W6 := by rw [← hW6]; exact hb5.setCell (Nat.le_of_lt hV) _
      have hO6 : W6.ownsRow (V + 1) 5 1 (.slice A5 X.length c5) X.length (u8s X) := by
        rw [← hW6]
        exact own_far HO5.out (fun b e => Below.heap_setCell _ _ _ _ (show b ≠ V by have := (HO5.out.lt b e).1; omega))
      have HE : Hid (ReadEnd RES w (.returned (.tuple #[tv a (.slice A5 X.length c5) nilS, .int .i64 (1 + (k : Int) + (X.length : Int)), .int .i64 0])) (put3 W6 w.heap.size (.int .u8 (a : Int)) (.slice A5 X.length c5) nilS)) :=
        read_yes (t := .mk a X []) (m := 1 + k + n) (C := V + 1) (A2 := none) (c2 := 0) HR2.out (by have := HXL.out; omega) (.mk (vs := []) ha (own_slIs hO6) ⟨by have := HXL.out; omega, HX256.out⟩ (SlIs.nil _ _) rfl (Nat.zero_le _) (fun i v x h => by simp at h)) (by omega) hb6
      have HZ := Lib.hid (hl6.put3 (a := .int .u8 (a : Int)) (b := .slice A5 X.length c5) (c := nilS))
      obtain ⟨⟨z0, z1, z2⟩, f0, f1, f2⟩ := hl6.three
      obtain ⟨⟨y0, y1, y2⟩, _⟩ := hv6.three
      clear hW6 hl6 hb6 hO6 hv6 hl5 hv5 hb5 f5 u5 HO5
      go_wp2
      refine bodyPost_ret (v := .tuple #[tv a (.slice A5 X.length c5) nilS, .int .i64 (1 + (k : Int) + (X.length : Int)), .int .i64 0]) ?_ rfl ?_
      · have hz := HZ.out
        unfold put3 at hz
        generalize World.setCell (World.setCell (World.setCell W6 _ _) _ _) _ _ = w9 at hz ⊢
        obtain ⟨⟨z0, z1, z2⟩, _⟩ := hz.three
        simp [results, Try.results52, go_sem, z0, z1, z2]
      · exact HE.out
    have d0 : ((a : Int) / 32 % 2 == 0) = false := by rw [beq_eq_false_iff_ne]; omega
    rw [if_neg h0] at HRES2
    clear h0
    go_frame
    cases lv with
    | zero =>
      have d16 : (D == 16) = true := by rw [beq_iff_eq]; have := HLV.out; omega
      have HE : Hid (ReadEnd RES w (.returned (.tuple #[tv 0 nilS nilS, .int .i64 0, .int .i64 61])) (put3 W2 w.heap.size (.int .u8 0) nilS nilS)) := read_no (n := 61) HRES2.out.symm rfl (by decide) HB2.out
      have HZ := Lib.hid (Lies.put3 (a := .int .u8 0) (b := nilS) (c := nilS) HST.out.res)
      obtain ⟨⟨z0, z1, z2⟩, f0, f1, f2⟩ := HST.out.res.three
      clear hv2
      go_wp2
      refine bodyPost_ret (v := .tuple #[tv 0 nilS nilS, .int .i64 0, .int .i64 61]) ?_ rfl ?_
      · have hz := HZ.out
        unfold put3 at hz
        generalize World.setCell (World.setCell (World.setCell W2 _ _) _ _) _ _ = w9 at hz ⊢
        obtain ⟨⟨z0, z1, z2⟩, _⟩ := hz.three
        simp [results, Try.results52, go_sem, z0, z1, z2]
      · exact HE.out
    | succ lv =>
      have d16 : (D == 16) = false := by rw [beq_eq_false_iff_ne]; have := HLV.out; omega
      have HV : Hid (∀ (q' : List Nat) (A' : Option Addr) (c' : Nat) (w' : World), ArgIs w' A' c' q' → Calls Try.prog 52 #[.slice A' q'.length c', .int .i64 (D + 1)] w' (ReadEnd (Bq.read lv q') w')) := fun q' A' c' w' h => by
        have := HIH.out lv rfl q' A' c' w' h
        rw [show ((16 - lv : Nat) : Int) = D + 1 from by have := HLV.out; omega] at this
        exact this
      obtain ⟨IT, eIT⟩ : ∃ IT, Bq.items (Bq.read lv) n X = IT := ⟨_, rfl⟩
      have HRI : Hid (RES = IT.map fun l => (.mk a [] l, 1 + k + n)) := by unfold Hid; rw [← HRES2.out, ← eIT]
      have HIT : Hid (ItemsAt (Bq.read lv) IT X 0 []) := ⟨n, by have := HXL.out; omega, by rw [List.drop_zero, eIT]; cases IT <;> simp [Except.map]⟩
      clear eIT HRES2 HIH hv2
      go_wp2_with fail
      go_loopw [11] (fun i' wr => ∃ (j : Nat) (l : List Bq.T) (lst : Value), i' = .int .i64 j ∧ j ≤ n ∧ l.length ≤ j ∧ RdSt w V a l lst wr ∧ Hid (ItemsAt (Bq.read lv) IT X j l)) (fun i' _ => n - (intOf i').toNat)
      case atStart => exact ⟨0, [], nilS, rfl, Nat.zero_le _, Nat.le_refl _, HST.out, HIT⟩
      case round =>
        clear k2
        obtain ⟨j, l, lst, rfl, hjn, hlj, hst, hat⟩ := hrel
        obtain ⟨A0, c0, rfl⟩ := hst.form
        have HS := Lib.hid hst
        by_cases hlt : j < n
        · obtain ⟨A3, eA3⟩ : ∃ A3, cutAt A2 c2 j = A3 := ⟨_, rfl⟩
          obtain ⟨c3, ec3⟩ : ∃ c3, c2 - j = c3 := ⟨_, rfl⟩
          obtain ⟨Y, eY⟩ : ∃ Y, X.drop j = Y := ⟨_, rfl⟩
          have hYl : n - j = Y.length := by have := HXL.out; rw [← eY, List.length_drop]; omega
          have harg : ArgIs wr A3 c3 Y := by
            have h := (HXA.out.on hst.below).cut j (by have := HXL.out; omega)
            rw [eA3, ec3, eY] at h
            exact h
          have hC := HV.out Y A3 c3 wr harg
          obtain ⟨hE, hO⟩ := hat.out.go (by have := HXL.out; omega)
          rw [eY] at hE hO
          have HEE := Lib.hid hE
          have HOO := Lib.hid hO
          have HY256 := Lib.hid (arg_lt harg)
          have HYL := Lib.hid hYl
          have hc2n : X.length ≤ c2 := HXA.out.1
          clear hE hO hst hat harg eY hYl
          repeat ((fail_if_success (with_reducible show wpList _ _ _ (⟨some 80, _, _, _, _, _⟩ :: _) _ _)); first | go_values | go_skip | go_guarded | go_step | go_upon | go_back | go_simp)
          with_reducible refine slice_from_at rfl (.tmp 78) (.tmp 79) rfl A2 n c2 j ?s1 ?s2 ?s3 A3 Y.length c3 eA3 HYL.out ec3 ?_
          case s1 => rfl
          case s2 => rfl
          case s3 => omega
          clear eA3 ec3 hc2n
          go_frame
          go_wp2_with fail
          refine hC.mono ?_
          intro e w3 hh
          clear hC
          rcases hh.cases with ⟨y, my, E1, e1, E2, e2, hr, rfl, hJ, hb3⟩ | ⟨m, hr, hm, rfl, hb3⟩
          rotate_left
          · have hd5 : ((m : Int) != 0) = true := by rw [bne_iff_ne]; omega
            have HRR : Hid (RES = .error m) := by unfold Hid; rw [HRI.out, HEE.out m hr]; rfl
            have HB3 := Lib.hid hb3
            have hm' := Lib.hid hm
            clear hh hr hb3 hm
            repeat ((fail_if_success (with_reducible show wpList _ _ _ (⟨some 88, _, _, _, _, _⟩ :: _) _ _)); first | go_values | go_skip | go_guarded | go_step | go_upon | go_back | go_simp)
            generalize hW4 : World.alloc w3 _ = W4
            have hb4 : Below wr.heap.size wr W4 := by rw [← hW4]; exact below_alloc HB3.out _
            have hl4 := (HS.out.on hb4).res
            have HE : Hid (ReadEnd RES w (.returned (.tuple #[tv 0 nilS nilS, .int .i64 0, .int .i64 m])) (put3 W4 w.heap.size (.int .u8 0) nilS nilS)) := read_no (n := m) HRR.out rfl hm'.out (below_more HS.out.below hb4)
            have HZ := Lib.hid (Lies.put3 (a := .int .u8 0) (b := nilS) (c := nilS) hl4)
            obtain ⟨⟨z0, z1, z2⟩, f0, f1, f2⟩ := hl4.three
            clear hW4 hb4 hl4
            go_wp2
            refine bodyPost_ret (v := .tuple #[tv 0 nilS nilS, .int .i64 0, .int .i64 m]) ?_ rfl ?_
            · have hz := HZ.out
              unfold put3 at hz
              generalize World.setCell (World.setCell (World.setCell W4 _ _) _ _) _ _ = w9 at hz ⊢
              obtain ⟨⟨z0, z1, z2⟩, _⟩ := hz.three
              simp [results, Try.results52, go_sem, z0, z1, z2]
            · exact HE.out
          obtain ⟨by1, by2, _, _, _⟩ := Bq.read_back lv Y y my HY256.out hr
          have HNX := Lib.hid (HOO.out y my hr (by omega))
          have hmyn : j + my ≤ n := by have := HYL.out; omega
          have hmy1 : 1 ≤ my := by omega
          have hst1 := HS.out.on hb3
          have HJ := Lib.hid hJ
          have HB3 := Lib.hid hb3
          obtain ⟨⟨v0, v1, v2⟩, g0, g1, g2⟩ := hst1.box.three
          have hne : V < w3.heap.size := hst1.box.lt
          obtain ⟨i0, hi0, hz0, hz1, hz2⟩ := info_parts infoTlv
          have HLC : Hid (∀ b, (Value.slice A0 l.length c0).ownBlock = some b → V + 1 ≤ b ∧ b < wr.heap.size) := by
            obtain ⟨_, _, ho0, _⟩ := HS.out.rows
            exact ho0.lt
          clear hh hr hJ hst1 hb3 by1 by2
          repeat ((fail_if_success (with_reducible show wpList _ _ _ (⟨some 95, _, _, _, _, _⟩ :: _) _ _)); first | go_values | go_skip | go_guarded | go_step | go_upon | go_back | go_simp)
          generalize hW2 : World.alloc (World.alloc w3 _) _ = W4
          have hbW : Below wr.heap.size wr W4 := by rw [← hW2]; exact below_alloc (below_alloc HB3.out _) _
          have hb12 : Below w3.heap.size w3 W4 := by rw [← hW2]; exact below_alloc (below_alloc (Below.refl _ _) _) _
          have hc6 : ∀ (b : Nat) u, (acells (tv y.tag (.slice E1 y.bytes.length e1) (.slice E2 y.list.length e2)))[b]? = some u → W4.cell? ((⟨w3.heap.size + 1, 0, none⟩ : Addr).add b) = some u := by
            intro b u hk
            rw [← hW2]
            have h := new_cells (w3.alloc (.cells #[.int .u8 (y.tag : Int), .slice E1 y.bytes.length e1, .slice E2 y.list.length e2] 60)) #[.int .u8 (y.tag : Int), .slice E1 y.bytes.length e1, .slice E2 y.list.length e2] 60 b u hk
            rwa [show (w3.alloc (.cells #[.int .u8 (y.tag : Int), .slice E1 y.bytes.length e1, .slice E2 y.list.length e2] 60)).heap.size = w3.heap.size + 1 from by simp] at h
          have hst2 := HS.out.on hbW
          obtain ⟨vs, hvs, ho, hel⟩ := hst2.rows
          have hJ2 := HJ.out.on hb12
          have hs2 := hst2.size
          have hVl := hst2.box
          clear hW2 v0 v1 v2 g0 g1 g2 hb12
          with_reducible refine wpList_append_own_at _ rfl (.tmp 92) (.tmp 94) 56 rfl (V + 1) 60 i0 (tv 0 nilS nilS) 3 56 Try.underlying56 hi0 hz0 hz1 hz2 rfl (by decide) _ l.length (vs.flatMap acells) ?s1 ho ⟨w3.heap.size + 1, 0, none⟩ 1 1 (acells (tv y.tag (.slice E1 y.bytes.length e1) (.slice E2 y.list.length e2))) ?s2 rfl hc6 (tv_ones _ _ _ _ _ _ _) ?s4 ?s5 ?s6 ?_
          case s1 => rfl
          case s2 => rfl
          case s4 => unfold maxLen; omega
          case s5 => omega
          case s6 => exact hs2
          intro lv5 w5 hown5 hgr5 _ hat5
          have HST5 := Lib.hid (HS.out.elem hbW hvs hel hJ2 hown5 hgr5 hat5)
          have hV5 := hVl.grown hgr5 (fun e => by have := (HLC.out _ e.symm).1; omega)
          have u5 := hV5.cell 2
          have g5 := hV5.free 2
          obtain ⟨A6, c6, e6⟩ := HST5.out.form
          obtain ⟨L, eL⟩ : ∃ L, l ++ [y] = L := ⟨_, rfl⟩
          rw [eL] at e6
          subst e6
          have hLl : L.length ≤ j + my := by rw [← eL, List.length_append, List.length_singleton]; omega
          rw [eL] at HST5 HNX
          clear hown5 hgr5 hat5 hbW hvs hel hJ2 ho hs2 hVl hV5 hc6 hst2 HJ HB3 HLC eL hi0 hz0 hz1 hz2
          go_frame
          go_wp2
          go_roundw
          case rel => exact ⟨j + my, L, _, by go_num, hmyn, hLl, HST5.out, HNX⟩
          case measure => simp [intOf]; omega
        · obtain rfl : j = n := by omega
          have hdj : decide ((j : Int) < (j : Int)) = false := by simp
          have hR : RES = .ok (.mk a [] l, 1 + k + j) := by rw [HRI.out, hat.out.fin (Nat.le_of_eq HXL.out)]; rfl
          have HE : Hid (ReadEnd RES w (.returned (.tuple #[tv a nilS (.slice A0 l.length c0), .int .i64 (1 + (k : Int) + (j : Int)), .int .i64 0])) (put3 wr w.heap.size (.int .u8 (a : Int)) nilS (.slice A0 l.length c0))) :=
            read_yes (t := .mk a [] l) (m := 1 + k + j) (C := V + 1) (A1 := none) (c1 := 0) hR (by omega) (hst.isT ha (by omega) (Nat.le_refl _)) (by omega) hst.below
          have HZ := Lib.hid (hst.res.put3 (a := .int .u8 (a : Int)) (b := nilS) (c := .slice A0 l.length c0))
          obtain ⟨⟨z0, z1, z2⟩, f0, f1, f2⟩ := hst.res.three
          obtain ⟨⟨y0, y1, y2⟩, _⟩ := hst.box.three
          clear hR hst hat
          go_wp2
          refine bodyPost_ret (v := .tuple #[tv a nilS (.slice A0 l.length c0), .int .i64 (1 + (k : Int) + (j : Int)), .int .i64 0]) ?_ rfl ?_
          · have hz := HZ.out
            unfold put3 at hz
            generalize World.setCell (World.setCell (World.setCell wr _ _) _ _) _ _ = w9 at hz ⊢
            obtain ⟨⟨z0, z1, z2⟩, _⟩ := hz.three
            simp [results, Try.results52, go_sem, z0, z1, z2]
          · exact HE.out
theorem refRead_all : ∀ lv, lv ≤ 16 → RReadOk lv
  | 0, h => refRead_step 0 h fun m e => by omega
  | n + 1, h => refRead_step (n + 1) h fun m e => by
    have : n = m := by omega
    subst this
    exact refRead_all n (by omega)
end Go.Proofs.Ytkjofadabaecfaa
