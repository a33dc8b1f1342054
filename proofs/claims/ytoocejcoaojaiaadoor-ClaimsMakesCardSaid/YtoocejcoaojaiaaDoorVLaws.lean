/-
  The laws ClaimsAdds, ClaimsOrder, ClaimsChecks, ClaimsLater, ClaimsAsks.
-/
import Derived.Test.YtoocejcoaojaiaaDoorVAlive
import Derived.Test.YtoocejcoaojaiaaDoorVCheckR
import Derived.Test.YtoocejcoaojaiaaDoorQK
namespace Go.Proofs.YtoocejcoaojaiaaDoor
open Go.RowKit Go.Sort

theorem lawAdds_any (a b : Int) (w : World) (hH : Held w) : Calls Tryd.prog 3 #[.int .i64 a, .int .i64 b] w (IsTrue w) := by
  have hA := alive10_any w hH
  have h1 := fun W => cadd_any a b W
  have h2 := fun W => refAdd_any a b W
  generalize Vq.add a b = S at *
  have H1 := Lib.hid h1
  have H2 := Lib.hid h2
  clear h1 h2 hH
  go_enter Tryd.func3, Tryd.ntmps3
  go_wp2_with fail
  refine hA.mono ?_
  rintro e w1 ⟨rfl, hb⟩
  have HE : Hid (IsTrue w (.returned (.bool true)) w1) := ⟨rfl, hb⟩
  clear hA hb
  go_wp2_with fail
  refine (H1.out _).mono ?_
  rintro e w2 ⟨rfl, rfl⟩
  go_wp2_with fail
  refine (H2.out _).mono ?_
  rintro e w2 ⟨rfl, rfl⟩
  go_wp2
  go_ret
  exact HE.out

set_option maxHeartbeats 1000000 in
theorem lawOrder_any (a b c : Int) (w : World) (hH : Held w) : Calls Tryd.prog 9 #[.int .i64 a, .int .i64 b, .int .i64 c] w (IsTrue w) := by
  have hA := alive10_any w hH
  have h1 := fun W => cadd_any a b W
  have h2 := fun W => cadd_any b a W
  have h3 := fun W => cadd_any (Vq.add a b) c W
  have h4 := fun W => cadd_any b c W
  have h5 := fun W => cadd_any a (Vq.add b c) W
  rw [← Vq.add_assoc] at h5
  rw [Vq.add_comm b a] at h2
  generalize Vq.add (Vq.add a b) c = T at *
  generalize Vq.add a b = S at *
  generalize Vq.add b c = U at *
  have H1 := Lib.hid h1
  have H2 := Lib.hid h2
  have H3 := Lib.hid h3
  have H4 := Lib.hid h4
  have H5 := Lib.hid h5
  clear h1 h2 h3 h4 h5 hH
  go_enter Tryd.func9, Tryd.ntmps9
  go_wp2_with fail
  refine hA.mono ?_
  rintro e w1 ⟨rfl, hb⟩
  have HE : Hid (IsTrue w (.returned (.bool true)) w1) := ⟨rfl, hb⟩
  clear hA hb
  go_wp2_with fail
  refine (H1.out _).mono ?_
  rintro e w2 ⟨rfl, rfl⟩
  go_wp2_with fail
  refine (H2.out _).mono ?_
  rintro e w2 ⟨rfl, rfl⟩
  go_wp2_with fail
  refine (H1.out _).mono ?_
  rintro e w2 ⟨rfl, rfl⟩
  go_wp2_with fail
  refine (H3.out _).mono ?_
  rintro e w2 ⟨rfl, rfl⟩
  go_wp2_with fail
  refine (H4.out _).mono ?_
  rintro e w2 ⟨rfl, rfl⟩
  go_wp2_with fail
  refine (H5.out _).mono ?_
  rintro e w2 ⟨rfl, rfl⟩
  go_wp2
  go_ret
  exact HE.out

set_option maxHeartbeats 1000000 in
set_option maxRecDepth 100000 in
theorem lawChecks_any {ok : Nat → Prop} {q : Vq.Want} (x : Jq.J) (v : Value) (w : World) (hH : Held w) (hJ : IsJ w ok v x) (hq : WantOk q) : Calls Tryd.prog 4 #[v, wantv q] w (IsTrue w) := by
  obtain ⟨A1, c1, A2, c2, rfl⟩ := hJ.form
  obtain ⟨W0, eW0⟩ : ∃ W0, W0 = (w.alloc (.cells #[.int .i64 x.kind, .bool x.bool, .int .i64 x.int, .string (strOf x.text), .slice A1 x.names.length c1, .slice A2 x.list.length c2] 28)).alloc (.cells #[.string (strOf q.issuer), .string (strOf q.aud), .string (strOf q.nonce), .int .i64 q.now, .int .i64 q.slack] 30) := ⟨_, rfl⟩
  have hb0 : Below w.heap.size w W0 := by rw [eW0]; exact (one_alloc _ _).alloc (by simp) _
  have hw0 : Lies W0 (w.heap.size + 1) 30 (wcells q) := by rw [eW0]; exact Lies.new_ (by simp)
  have hl0 : Lies W0 w.heap.size 28 [.int .i64 x.kind, .bool x.bool, .int .i64 x.int, .string (strOf x.text), .slice A1 x.names.length c1, .slice A2 x.list.length c2] := by rw [eW0]; exact (Lies.new_ rfl).alloc _
  obtain ⟨⟨z0, z1, z2, z3, z4, z5⟩, _⟩ := hl0.six
  have k0 := cell_regrown z0
  have k1 := cell_regrown z1
  have k2 := cell_regrown z2
  have k3 := cell_regrown z3
  have k4 := cell_regrown z4
  have k5 := cell_regrown z5
  have y0 := cell_regrown ((hw0.cell 0).trans rfl)
  have y1 := cell_regrown ((hw0.cell 1).trans rfl)
  have y2 := cell_regrown ((hw0.cell 2).trans rfl)
  have y3 := cell_regrown ((hw0.cell 3).trans rfl)
  have y4 := cell_regrown ((hw0.cell 4).trans rfl)
  have cA : ∀ d os, Calls Tryd.prog 10 #[] (grow (redrawn W0 d) os) fun e w2 => e = .returned (.bool true) ∧ ∃ r : Regrown, w2 = grow (redrawn W0 r.d) r.os := fun d os => Calls.regrown_of (alive10_any _ ((hH.below hb0).below (below_regrown W0 d os)))
  have cC : ∀ d os, Calls Tryd.prog 13 #[jv x.kind x.bool x.int (strOf x.text) (.slice A1 x.names.length c1) (.slice A2 x.list.length c2), wantv q] (grow (redrawn W0 d) os) fun e w2 => e = .returned (.int .i64 (Vq.check x q)) ∧ ∃ r : Regrown, w2 = grow (redrawn W0 r.d) r.os := fun d os => Calls.regrown_of (check_any x _ _ hq ((hJ.on hb0).on (below_regrown W0 d os)))
  have cR : ∀ d os, Calls Tryd.prog 14 #[jv x.kind x.bool x.int (strOf x.text) (.slice A1 x.names.length c1) (.slice A2 x.list.length c2), wantv q] (grow (redrawn W0 d) os) fun e w2 => e = .returned (.int .i64 (Vq.check x q)) ∧ ∃ r : Regrown, w2 = grow (redrawn W0 r.d) r.os := fun d os => Calls.regrown_of (refCheck_any x _ _ hq ((hJ.on hb0).on (below_regrown W0 d os)))
  have HB0 := Lib.hid hb0
  generalize Vq.check x q = CK at cC cR
  have HW0 := Lib.hid eW0
  clear hH hJ hq hb0 hw0 hl0 z0 z1 z2 z3 z4 z5 eW0
  go_enter Tryd.func4, Tryd.ntmps4
  go_upto_region 1 with (fail)
  rw [← HW0.out]
  refine wp_region_quiet_below (by kernel_rfl) (by kernel_rfl) ?_
  repeat (go_big_quiet_step (first | with_reducible exact cA _ _ | with_reducible exact cC _ _ | with_reducible exact cR _ _))
  refine wpQuiet_nil ?_
  intro w' hw'
  obtain ⟨⟨dq, osq⟩, hw''⟩ := hw'
  subst hw''
  have hfin := below_regrown W0 dq osq
  generalize hWq : grow (redrawn W0 dq) osq = W1 at hfin ⊢
  have HE : Hid (IsTrue w (.returned (.bool true)) W1) := ⟨rfl, below_more HB0.out hfin⟩
  clear k0 k1 k2 k3 k4 k5 y0 y1 y2 y3 y4 cA cC cR hWq hfin
  go_wp2
  go_ret
  exact HE.out

set_option maxHeartbeats 1000000 in
set_option maxRecDepth 100000 in
theorem lawLater_any {ok : Nat → Prop} {q : Vq.Want} (x : Jq.J) (v : Value) (n : Int) (w : World) (hH : Held w) (hJ : IsJ w ok v x) (hq : WantOk q) (hn : -9223372036854775808 ≤ n ∧ n ≤ 9223372036854775807) : Calls Tryd.prog 7 #[v, wantv q, .int .i64 n] w (IsTrue w) := by
  obtain ⟨A1, c1, A2, c2, rfl⟩ := hJ.form
  obtain ⟨W0, eW0⟩ : ∃ W0, W0 = (w.alloc (.cells #[.int .i64 x.kind, .bool x.bool, .int .i64 x.int, .string (strOf x.text), .slice A1 x.names.length c1, .slice A2 x.list.length c2] 28)).alloc (.cells #[.string (strOf q.issuer), .string (strOf q.aud), .string (strOf q.nonce), .int .i64 q.now, .int .i64 q.slack] 30) := ⟨_, rfl⟩
  have hb0 : Below w.heap.size w W0 := by rw [eW0]; exact (one_alloc _ _).alloc (by simp) _
  have hw0 : Lies W0 (w.heap.size + 1) 30 (wcells q) := by rw [eW0]; exact Lies.new_ (by simp)
  have hl0 : Lies W0 w.heap.size 28 [.int .i64 x.kind, .bool x.bool, .int .i64 x.int, .string (strOf x.text), .slice A1 x.names.length c1, .slice A2 x.list.length c2] := by rw [eW0]; exact (Lies.new_ rfl).alloc _
  have hC := check_any x _ W0 hq (hJ.on hb0)
  have HLT := Lib.hid (fun (h : Vq.check x q = 0) (hle : q.now ≤ n) => Vq.check_later (n := n) h hle)
  have hC2 : ∀ W, Below w.heap.size w W → Calls Tryd.prog 13 #[jv x.kind x.bool x.int (strOf x.text) (.slice A1 x.names.length c1) (.slice A2 x.list.length c2), wantv { q with now := n }] W (CheckEnd (Vq.check x { q with now := n }) W) := fun W hb => check_any x _ W ⟨hq.1, hq.2.1, hq.2.2.1, hn, hq.2.2.2.2⟩ (hJ.on hb)
  obtain ⟨CK, eCK⟩ : ∃ n, Vq.check x q = n := ⟨_, rfl⟩
  obtain ⟨CN, eCN⟩ : ∃ k, Vq.check x { q with now := n } = k := ⟨_, rfl⟩
  rw [eCK] at hC HLT
  rw [eCN] at HLT
  simp only [eCN] at hC2
  have HC2 := Lib.hid hC2
  have HH := Lib.hid hH
  have HB0 := Lib.hid hb0
  have HWT0 := Lib.hid hw0
  have HL0 := Lib.hid hl0
  obtain ⟨⟨z0, z1, z2, z3, z4, z5⟩, _⟩ := hl0.six
  have y0 : W0.cell? ⟨w.heap.size + 1, 0, none⟩ = some (.string (strOf q.issuer)) := hw0.cell 0
  have y1 : W0.cell? ⟨w.heap.size + 1, 1, none⟩ = some (.string (strOf q.aud)) := hw0.cell 1
  have y2 : W0.cell? ⟨w.heap.size + 1, 2, none⟩ = some (.string (strOf q.nonce)) := hw0.cell 2
  have y3 : W0.cell? ⟨w.heap.size + 1, 3, none⟩ = some (.int .i64 q.now) := hw0.cell 3
  have y4 : W0.cell? ⟨w.heap.size + 1, 4, none⟩ = some (.int .i64 q.slack) := hw0.cell 4
  rw [eW0] at hC z0 z1 z2 z3 z4 z5 y0 y1 y2 y3 y4
  have HW0 := Lib.hid eW0
  clear hH hJ hq hn hb0 hw0 hl0 hC2 eCK eCN eW0
  go_enter Tryd.func7, Tryd.ntmps7
  go_wp2_with fail
  refine hC.mono ?_
  rintro e w1 ⟨rfl, hb⟩
  clear hC z0 z1 z2 z3 z4 z5 y0 y1 y2 y3 y4
  rw [← HW0.out] at hb
  have HB1 := Lib.hid (below_more HB0.out hb)
  have HWT1 := Lib.hid (HWT0.out.below hb HWT0.out.lt)
  have HL1 := Lib.hid (HL0.out.below hb HL0.out.lt)
  clear hb
  have y3 : w1.cell? ⟨w.heap.size + 1, 3, none⟩ = some (.int .i64 q.now) := HWT1.out.cell 3
  have hA := alive10_any w1 (HH.out.below HB1.out)
  by_cases h0 : CK = 0
  rotate_left
  · have d : (CK != 0) = true := by rw [bne_iff_ne]; exact h0
    clear h0
    go_wp2_with fail
    refine hA.mono ?_
    rintro e w2 ⟨rfl, hb⟩
    have HE : Hid (IsTrue w (.returned (.bool true)) w2) := ⟨rfl, below_more HB1.out hb⟩
    clear hA hb
    go_wp2
    go_ret
    exact HE.out
  have d : (CK != 0) = false := by rw [h0]; rfl
  by_cases hle : q.now ≤ n
  rotate_left
  · have d2 : decide (n < q.now) = true := decide_eq_true (by omega)
    clear h0 hle
    go_wp2_with fail
    refine hA.mono ?_
    rintro e w2 ⟨rfl, hb⟩
    have HE : Hid (IsTrue w (.returned (.bool true)) w2) := ⟨rfl, below_more HB1.out hb⟩
    clear hA hb
    go_wp2
    go_ret
    exact HE.out
  have d2 : decide (n < q.now) = false := decide_eq_false (by omega)
  have HCN : Hid (CN = 0 ∨ CN = 103) := HLT.out h0 hle
  have f3 := HWT1.out.free 3
  obtain ⟨W2, eW2⟩ : ∃ W2, W2 = w1.setCell ⟨w.heap.size + 1, 3, none⟩ (.int .i64 n) := ⟨_, rfl⟩
  have hb2 : Below w.heap.size w W2 := by rw [eW2]; exact HB1.out.setCell (Nat.le_succ _) _
  have hw2 : Lies W2 (w.heap.size + 1) 30 [.string (strOf q.issuer), .string (strOf q.aud), .string (strOf q.nonce), .int .i64 n, .int .i64 q.slack] := by rw [eW2]; have := HWT1.out.put 3 (.int .i64 n); simpa using this
  have hl2 : Lies W2 w.heap.size 28 [.int .i64 x.kind, .bool x.bool, .int .i64 x.int, .string (strOf x.text), .slice A1 x.names.length c1, .slice A2 x.list.length c2] := by rw [eW2]; exact HL1.out.far (by simp) _
  have hC := HC2.out W2 hb2
  have HB2 := Lib.hid hb2
  have HWT2 := Lib.hid hw2
  have HL2 := Lib.hid hl2
  have HW2 := Lib.hid eW2
  clear h0 hle hA hb2 hw2 hl2 eW2
  go_upto_region 4 with (fail)
  rw [← HW2.out]
  clear y3 f3 d d2
  obtain ⟨⟨z0, z1, z2, z3, z4, z5⟩, _⟩ := HL2.out.six
  have y0 : W2.cell? ⟨w.heap.size + 1, 0, none⟩ = some (.string (strOf q.issuer)) := HWT2.out.cell 0
  have y1 : W2.cell? ⟨w.heap.size + 1, 1, none⟩ = some (.string (strOf q.aud)) := HWT2.out.cell 1
  have y2 : W2.cell? ⟨w.heap.size + 1, 2, none⟩ = some (.string (strOf q.nonce)) := HWT2.out.cell 2
  have y3 : W2.cell? ⟨w.heap.size + 1, 3, none⟩ = some (.int .i64 n) := HWT2.out.cell 3
  have y4 : W2.cell? ⟨w.heap.size + 1, 4, none⟩ = some (.int .i64 q.slack) := HWT2.out.cell 4
  go_wp2_with fail
  refine hC.mono ?_
  rintro e w3 ⟨rfl, hb⟩
  clear hC z0 z1 z2 z3 z4 z5 y0 y1 y2 y3 y4
  have HB3 := Lib.hid (below_more HB2.out hb)
  clear hb
  have hA := alive10_any w3 (HH.out.below HB3.out)
  rcases HCN.out with rfl | rfl
  all_goals
    go_wp2_with fail
    refine hA.mono ?_
    rintro e w4 ⟨rfl, hb⟩
    have HE : Hid (IsTrue w (.returned (.bool true)) w4) := ⟨rfl, below_more HB3.out hb⟩
    clear hA hb
    go_wp2
    go_ret
    exact HE.out

set_option maxHeartbeats 1000000 in
set_option maxRecDepth 100000 in
theorem lawAsks_any {ok : Nat → Prop} (x : Jq.J) (v : Value) (s : ByteArray) (w : World) (hH : Held w) (hJ : IsJ w ok v x) : Calls Tryd.prog 8 #[v, .string s] w (IsTrue w) := by
  obtain ⟨t, rfl, ht⟩ : ∃ t, s = strOf t ∧ ∀ y ∈ t, y < 256 := ⟨numsOf s, (strOf_numsOf s).symm, numsOf_lt s⟩
  obtain ⟨A1, c1, A2, c2, rfl⟩ := hJ.form
  obtain ⟨W0, eW0⟩ : ∃ W0, W0 = w.alloc (.cells #[.int .i64 x.kind, .bool x.bool, .int .i64 x.int, .string (strOf x.text), .slice A1 x.names.length c1, .slice A2 x.list.length c2] 28) := ⟨_, rfl⟩
  have hb0 : Below w.heap.size w W0 := by rw [eW0]; exact one_alloc _ _
  have hl0 : Lies W0 w.heap.size 28 [.int .i64 x.kind, .bool x.bool, .int .i64 x.int, .string (strOf x.text), .slice A1 x.names.length c1, .slice A2 x.list.length c2] := by rw [eW0]; exact Lies.new_ rfl
  have h1 : ∀ W, Below w.heap.size w W → _ := fun W hb => claimText_any x _ t ht W (hJ.on hb)
  have h2 : ∀ W, Below w.heap.size w W → _ := fun W hb => refClaimText_any x _ t ht W (hJ.on hb)
  have h3 : ∀ W, Below w.heap.size w W → _ := fun W hb => claimInt_any x _ t ht W (hJ.on hb)
  have h4 : ∀ W, Below w.heap.size w W → _ := fun W hb => refClaimInt_any x _ t ht W (hJ.on hb)
  have h5 := fun W => reserved_any t ht W
  have h6 := fun W => refReserved_any t ht W
  unfold TextEnd at h1 h2
  unfold IntEnd at h3 h4
  obtain ⟨s1, es1⟩ : ∃ r, strOf ((Vq.textOf x t).getD []) = r := ⟨_, rfl⟩
  obtain ⟨b1, eb1⟩ : ∃ r, (Vq.textOf x t).isSome = r := ⟨_, rfl⟩
  obtain ⟨n1, en1⟩ : ∃ r, (Vq.intOf x t).getD 0 = r := ⟨_, rfl⟩
  obtain ⟨b2, eb2⟩ : ∃ r, (Vq.intOf x t).isSome = r := ⟨_, rfl⟩
  obtain ⟨b3, eb3⟩ : ∃ r, decide (Vq.Reserved t) = r := ⟨_, rfl⟩
  simp only [es1, eb1] at h1 h2
  simp only [en1, eb2] at h3 h4
  simp only [eb3] at h5 h6
  generalize strOf t = S at *
  have H1 := Lib.hid h1
  have H2 := Lib.hid h2
  have H3 := Lib.hid h3
  have H4 := Lib.hid h4
  have H5 := Lib.hid h5
  have H6 := Lib.hid h6
  have HH := Lib.hid hH
  have HB0 := Lib.hid hb0
  have HL0 := Lib.hid hl0
  have hSS : (s1.toList == s1.toList) = true := by simp
  have hC := h1 W0 hb0
  obtain ⟨⟨z0, z1, z2, z3, z4, z5⟩, _⟩ := hl0.six
  rw [eW0] at hC z0 z1 z2 z3 z4 z5
  have HW0 := Lib.hid eW0
  clear hH hJ ht hb0 hl0 h1 h2 h3 h4 h5 h6 es1 eb1 en1 eb2 eb3 eW0
  go_enter Tryd.func8, Tryd.ntmps8
  go_wp2_with fail
  refine hC.mono ?_
  rintro e w1 ⟨rfl, hb⟩
  clear hC z0 z1 z2 z3 z4 z5
  rw [← HW0.out] at hb
  have HB1 := Lib.hid (below_more HB0.out hb)
  have HL1 := Lib.hid (HL0.out.below hb HL0.out.lt)
  clear hb
  obtain ⟨⟨z0, z1, z2, z3, z4, z5⟩, _⟩ := HL1.out.six
  have hC := H2.out w1 HB1.out
  go_wp2_with fail
  refine hC.mono ?_
  rintro e w2 ⟨rfl, hb⟩
  clear hC z0 z1 z2 z3 z4 z5
  have HB2 := Lib.hid (below_more HB1.out hb)
  have HL2 := Lib.hid (HL1.out.below hb HL1.out.lt)
  clear hb
  obtain ⟨⟨z0, z1, z2, z3, z4, z5⟩, _⟩ := HL2.out.six
  have hC := H3.out w2 HB2.out
  go_wp2_with fail
  refine hC.mono ?_
  rintro e w3 ⟨rfl, hb⟩
  clear hC z0 z1 z2 z3 z4 z5
  have HB3 := Lib.hid (below_more HB2.out hb)
  have HL3 := Lib.hid (HL2.out.below hb HL2.out.lt)
  clear hb
  obtain ⟨⟨z0, z1, z2, z3, z4, z5⟩, _⟩ := HL3.out.six
  have hC := H4.out w3 HB3.out
  go_wp2_with fail
  refine hC.mono ?_
  rintro e w4 ⟨rfl, hb⟩
  clear hC z0 z1 z2 z3 z4 z5
  have HB4 := Lib.hid (below_more HB3.out hb)
  clear hb
  have hA := alive10_any w4 (HH.out.below HB4.out)
  go_wp2_with fail
  refine hA.mono ?_
  rintro e w5 ⟨rfl, hb⟩
  have HB5 := Lib.hid (below_more HB4.out hb)
  clear hA hb
  go_wp2_with fail
  refine (H5.out _).mono ?_
  rintro e w6 ⟨rfl, rfl⟩
  go_wp2_with fail
  refine (H6.out _).mono ?_
  rintro e w6 ⟨rfl, hb⟩
  have HE : Hid (IsTrue w (.returned (.bool true)) w6) := ⟨rfl, below_more HB5.out hb⟩
  clear hb
  go_wp2
  go_ret
  exact HE.out
end Go.Proofs.YtoocejcoaojaiaaDoor
