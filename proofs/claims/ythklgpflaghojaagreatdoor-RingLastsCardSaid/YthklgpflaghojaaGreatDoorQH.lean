/-
  QH: JValueR JWhole JCatch JParse JParseL, side by side.
-/
import Derived.Test.YthklgpflaghojaaGreatDoorQG
import Derived.Test.YthklgpflaghojaaGreatDoorQE
import Derived.Recover

/-
  A value read.
-/
namespace Go.Proofs.YthklgpflaghojaaGreatDoor
open Go.RowKit

def lists (n : Nat) (l : List Nat) : Jq.R Jq.J := match n with | 0 => .error 55 | n + 1 => Jq.listOf (Jq.value n) l
def objects (n : Nat) (l : List Nat) : Jq.R Jq.J := match n with | 0 => .error 55 | n + 1 => Jq.objectOf (Jq.value n) l
theorem value_nil {n : Nat} {L : List Nat} (h : Jq.skip L = []) : Jq.value n L = .error 51 := by
  rw [Jq.value.eq_def]
  simp only [h]
theorem value_head {n c : Nat} {L : List Nat} (h : (Jq.skip L).head? = some c) : Jq.value n L = if c = 91 then lists n ((Jq.skip L).drop 1) else if c = 123 then objects n ((Jq.skip L).drop 1) else Jq.scalar c (Jq.skip L) := by
  rw [Jq.value.eq_def]
  cases hs : Jq.skip L with
  | nil => rw [hs] at h; cases h
  | cons a r =>
    rw [hs] at h
    obtain rfl : a = c := by simpa using h
    simp only [hs]
    cases n <;> rfl
theorem val_out {W w w1 w3 : World} {R d : Nat} {RES : Jq.R Jq.J} {x : Jq.J} {r : List Nat} {s3 : ByteArray} {z0 z1 z2 z3 z4 z5 v : Value} (hRes : RES = .ok (x, r)) (hJ : IsJ w3 (w1.heap.size ≤ ·) v x) (hs : numsOf s3 = r) (h3 : Rd W R s3 d w3) (hg : w.grownBy w3 (some R)) (hC : w.heap.size < w1.heap.size) (hW : W.heap.size ≤ w.heap.size) (hR : R < w.heap.size) :
    Ends W R d w (fun x v w' => IsJ w' (w.heap.size ≤ ·) v x) RES (.returned v) (put6 w3 w.heap.size z0 z1 z2 z3 z4 z5) :=
  Ends.ok hRes ((hJ.put6 hC).from (Nat.le_of_lt hC)) hs (h3.gb gb_put6 (by omega) hW) (gb_new hg gb_put6 (Nat.le_refl _))
abbrev Read (W : World) (R d : Nat) (w : World) (res : Jq.R Jq.J) (e : Ending) (w' : World) : Prop := Ends W R d w (fun x v w' => IsJ w' (w.heap.size ≤ ·) v x) res e w'

set_option maxHeartbeats 16000000 in
set_option maxRecDepth 100000 in
theorem value_step (n : Nat)
    (hLi : ∀ W R s w, 0 < s.size → Rd W R s (16 - n) w → Calls Tryz.prog 119 #[.pointer (some ⟨R, 0, none⟩)] w (Read W R (16 - n) w (lists n ((numsOf s).drop 1))))
    (hOb : ∀ W R s w, 0 < s.size → Rd W R s (16 - n) w → Calls Tryz.prog 120 #[.pointer (some ⟨R, 0, none⟩)] w (Read W R (16 - n) w (objects n ((numsOf s).drop 1)))) : ValueOk n := by
  intro W R s w h
  obtain ⟨d, ed⟩ : ∃ d, 16 - n = d := ⟨_, rfl⟩
  rw [ed] at h hLi hOb ⊢
  have hWle : W.heap.size ≤ w.heap.size := h.below.size
  have hRlt := h.lt
  have hS := space_any W R d s _ (h.alloc (.cells #[.int .i64 0, .bool false, .int .i64 0, .string { data := #[] }, .slice none 0 0, .slice none 0 0] 26))
  have hc0 : Lies (w.alloc (.cells #[.int .i64 0, .bool false, .int .i64 0, .string { data := #[] }, .slice none 0 0, .slice none 0 0] 26)) w.heap.size 26 zero6 := Lies.new_ (cs := zero6) rfl
  have hsz : w.heap.size < (w.alloc (.cells #[.int .i64 0, .bool false, .int .i64 0, .string { data := #[] }, .slice none 0 0, .slice none 0 0] 26)).heap.size := by simp
  have hgw : w.grownBy (w.alloc (.cells #[.int .i64 0, .bool false, .int .i64 0, .string { data := #[] }, .slice none 0 0, .slice none 0 0] 26)) (some R) := World.grownBy_alloc w _ _
  obtain ⟨RES, eRES⟩ : ∃ RES, Jq.value n (numsOf s) = RES := ⟨_, rfl⟩
  rw [eRES]
  have HLi := Lib.hid hLi
  have HOb := Lib.hid hOb
  clear hLi hOb ed h
  go_enter Tryz.func95, Tryz.ntmps95
  go_wp2_with fail
  refine hS.mono ?_
  rintro e w1 ⟨rfl, s1, hs1, h1, hg1⟩
  clear hS
  have hN := next_any W R d s1 w1 h1
  have hh := nums_head s1
  have hc1 := hc0.gb hg1 (by omega)
  have hs1z : w.heap.size < w1.heap.size := Nat.lt_of_lt_of_le hsz hg1.size
  have hgA := gb_trans hgw hg1
  obtain ⟨x, ex⟩ : ∃ x, (numsOf s1).getD 0 0 = x := ⟨_, rfl⟩
  rw [ex] at hN
  have hVH : ∀ c, c ≠ 0 → x = c → RES = if c = 91 then lists n ((numsOf s1).drop 1) else if c = 123 then objects n ((numsOf s1).drop 1) else Jq.scalar c (numsOf s1) := fun c h0 hx => by
    rw [← eRES, hs1]
    exact value_head (by rw [← hs1]; exact (hh c h0).2 (ex.trans hx))
  have HVH := Lib.hid hVH
  have HHD : Hid (∀ c, c ≠ 0 → x = c → (numsOf s1).head? = some c) := fun c h0 hx => (hh c h0).2 (ex.trans hx)
  have HNO : Hid ((∀ c, x = c → Jq.scalar c (numsOf s1) = .error 51) → x ≠ 91 → x ≠ 123 → RES = .error 51) := fun k1 k2 k3 => by
    rw [← eRES]
    cases hc : numsOf s1 with
    | nil => exact value_nil (by rw [← hs1]; exact hc)
    | cons a r =>
      have ha : a = x := by rw [← ex, hc]; rfl
      rw [value_head (c := x) (by rw [← hs1, hc, ha]; rfl), if_neg k2, if_neg k3, ← hs1]
      exact k1 x rfl
  clear hVH hh hc0 hsz hgw hg1 eRES hs1 ex
  by_cases hx110 : x = 110
  · have hv := HVH.out 110 (by decide) hx110
    have hhd := HHD.out 110 (by decide) hx110
    rw [hx110] at hN
    clear HNO HVH HHD hx110
    have hA := word_any W R d s1 { data := #[110, 117, 108, 108] } 0 false (by decide) w1 h1
    have HV : Hid (RES = Jq.word (numsOf { data := #[110, 117, 108, 108] }) (.mk 0 false 0 [] [] []) (numsOf s1)) := hv
    clear hv hhd HLi HOb
    go_wp2_with fail
    refine hN.mono ?_
    rintro e w2 ⟨rfl, rfl⟩
    clear hN
    go_wp2_with fail
    refine hA.mono ?_
    intro e w3 hh3
    clear hA
    rcases Ends.cases hh3 with ⟨y, r, v, s3, hres, rfl, hJ, hs3, h3, hg3⟩ | ⟨m, hres, rfl, hg3⟩
    rotate_left
    · exact ⟨rfl, Ends.err (HV.out.trans hres) (gb_trans hgA hg3)⟩
    have hRes := HV.out.trans hres
    have hgB := gb_trans hgA hg3
    have hc3 := hc1.gb hg3 (by omega)
    obtain ⟨A1, cap1, A2, cap2, rfl⟩ := IsJ.form hJ
    clear hh3 hres hg3 HV
    have HE := Lib.hid (val_out (z0 := .int .i64 y.kind) (z1 := .bool y.bool) (z2 := .int .i64 y.int) (z3 := .string (strOf y.text)) (z4 := .slice A1 y.names.length cap1) (z5 := .slice A2 y.list.length cap2) hRes hJ hs3 h3 hgB hs1z hWle hRlt)
    have hz := hc3.put6 (a := .int .i64 y.kind) (b := .bool y.bool) (c := .int .i64 y.int) (d := .string (strOf y.text)) (e := .slice A1 y.names.length cap1) (f := .slice A2 y.list.length cap2)
    have HZ := Lib.hid hz
    obtain ⟨⟨b0, b1, b2, b3, b4, b5⟩, g0, g1, g2, g3, g4, g5⟩ := hc3.six
    clear hz hRes hJ hs3 h3 hgB hc3 hc1 hgA h1
    go_wp2
    refine bodyPost_ret (v := .agg #[.int .i64 y.kind, .bool y.bool, .int .i64 y.int, .string (strOf y.text), .slice A1 y.names.length cap1, .slice A2 y.list.length cap2]) ?_ rfl ?_
    · have hz := HZ.out
      unfold put6 at hz
      generalize World.setCell (World.setCell (World.setCell (World.setCell (World.setCell (World.setCell _ _ _) _ _) _ _) _ _) _ _) _ _ = w9 at hz ⊢
      obtain ⟨⟨z0, z1, z2, z3, z4, z5⟩, _⟩ := hz.six
      simp [results, Tryz.results95, go_sem, z0, z1, z2, z3, z4, z5]
    · exact HE.out
  by_cases hx116 : x = 116
  · have hv := HVH.out 116 (by decide) hx116
    have hhd := HHD.out 116 (by decide) hx116
    rw [hx116] at hN
    clear HNO HVH HHD hx116
    have hA := word_any W R d s1 { data := #[116, 114, 117, 101] } 1 true (by decide) w1 h1
    have HV : Hid (RES = Jq.word (numsOf { data := #[116, 114, 117, 101] }) (.mk 1 true 0 [] [] []) (numsOf s1)) := hv
    clear hv hhd HLi HOb
    go_wp2_with fail
    refine hN.mono ?_
    rintro e w2 ⟨rfl, rfl⟩
    clear hN
    go_wp2_with fail
    refine hA.mono ?_
    intro e w3 hh3
    clear hA
    rcases Ends.cases hh3 with ⟨y, r, v, s3, hres, rfl, hJ, hs3, h3, hg3⟩ | ⟨m, hres, rfl, hg3⟩
    rotate_left
    · exact ⟨rfl, Ends.err (HV.out.trans hres) (gb_trans hgA hg3)⟩
    have hRes := HV.out.trans hres
    have hgB := gb_trans hgA hg3
    have hc3 := hc1.gb hg3 (by omega)
    obtain ⟨A1, cap1, A2, cap2, rfl⟩ := IsJ.form hJ
    clear hh3 hres hg3 HV
    have HE := Lib.hid (val_out (z0 := .int .i64 y.kind) (z1 := .bool y.bool) (z2 := .int .i64 y.int) (z3 := .string (strOf y.text)) (z4 := .slice A1 y.names.length cap1) (z5 := .slice A2 y.list.length cap2) hRes hJ hs3 h3 hgB hs1z hWle hRlt)
    have hz := hc3.put6 (a := .int .i64 y.kind) (b := .bool y.bool) (c := .int .i64 y.int) (d := .string (strOf y.text)) (e := .slice A1 y.names.length cap1) (f := .slice A2 y.list.length cap2)
    have HZ := Lib.hid hz
    obtain ⟨⟨b0, b1, b2, b3, b4, b5⟩, g0, g1, g2, g3, g4, g5⟩ := hc3.six
    clear hz hRes hJ hs3 h3 hgB hc3 hc1 hgA h1
    go_wp2
    refine bodyPost_ret (v := .agg #[.int .i64 y.kind, .bool y.bool, .int .i64 y.int, .string (strOf y.text), .slice A1 y.names.length cap1, .slice A2 y.list.length cap2]) ?_ rfl ?_
    · have hz := HZ.out
      unfold put6 at hz
      generalize World.setCell (World.setCell (World.setCell (World.setCell (World.setCell (World.setCell _ _ _) _ _) _ _) _ _) _ _) _ _ = w9 at hz ⊢
      obtain ⟨⟨z0, z1, z2, z3, z4, z5⟩, _⟩ := hz.six
      simp [results, Tryz.results95, go_sem, z0, z1, z2, z3, z4, z5]
    · exact HE.out
  by_cases hx102 : x = 102
  · have hv := HVH.out 102 (by decide) hx102
    have hhd := HHD.out 102 (by decide) hx102
    rw [hx102] at hN
    clear HNO HVH HHD hx102
    have hA := word_any W R d s1 { data := #[102, 97, 108, 115, 101] } 1 false (by decide) w1 h1
    have HV : Hid (RES = Jq.word (numsOf { data := #[102, 97, 108, 115, 101] }) (.mk 1 false 0 [] [] []) (numsOf s1)) := hv
    clear hv hhd HLi HOb
    go_wp2_with fail
    refine hN.mono ?_
    rintro e w2 ⟨rfl, rfl⟩
    clear hN
    go_wp2_with fail
    refine hA.mono ?_
    intro e w3 hh3
    clear hA
    rcases Ends.cases hh3 with ⟨y, r, v, s3, hres, rfl, hJ, hs3, h3, hg3⟩ | ⟨m, hres, rfl, hg3⟩
    rotate_left
    · exact ⟨rfl, Ends.err (HV.out.trans hres) (gb_trans hgA hg3)⟩
    have hRes := HV.out.trans hres
    have hgB := gb_trans hgA hg3
    have hc3 := hc1.gb hg3 (by omega)
    obtain ⟨A1, cap1, A2, cap2, rfl⟩ := IsJ.form hJ
    clear hh3 hres hg3 HV
    have HE := Lib.hid (val_out (z0 := .int .i64 y.kind) (z1 := .bool y.bool) (z2 := .int .i64 y.int) (z3 := .string (strOf y.text)) (z4 := .slice A1 y.names.length cap1) (z5 := .slice A2 y.list.length cap2) hRes hJ hs3 h3 hgB hs1z hWle hRlt)
    have hz := hc3.put6 (a := .int .i64 y.kind) (b := .bool y.bool) (c := .int .i64 y.int) (d := .string (strOf y.text)) (e := .slice A1 y.names.length cap1) (f := .slice A2 y.list.length cap2)
    have HZ := Lib.hid hz
    obtain ⟨⟨b0, b1, b2, b3, b4, b5⟩, g0, g1, g2, g3, g4, g5⟩ := hc3.six
    clear hz hRes hJ hs3 h3 hgB hc3 hc1 hgA h1
    go_wp2
    refine bodyPost_ret (v := .agg #[.int .i64 y.kind, .bool y.bool, .int .i64 y.int, .string (strOf y.text), .slice A1 y.names.length cap1, .slice A2 y.list.length cap2]) ?_ rfl ?_
    · have hz := HZ.out
      unfold put6 at hz
      generalize World.setCell (World.setCell (World.setCell (World.setCell (World.setCell (World.setCell _ _ _) _ _) _ _) _ _) _ _) _ _ = w9 at hz ⊢
      obtain ⟨⟨z0, z1, z2, z3, z4, z5⟩, _⟩ := hz.six
      simp [results, Tryz.results95, go_sem, z0, z1, z2, z3, z4, z5]
    · exact HE.out
  by_cases hx34 : x = 34
  · have hv := HVH.out 34 (by decide) hx34
    have hhd := HHD.out 34 (by decide) hx34
    rw [hx34] at hN
    clear HNO HVH HHD hx34 HLi HOb
    have hA := textR_any W R d s1 w1 h1 hhd
    have HV : Hid (RES = (Jq.text ((numsOf s1).drop 1)).map fun q => (Jq.textJ q.1, q.2)) := hv
    clear hv hhd
    go_wp2_with fail
    refine hN.mono ?_
    rintro e w2 ⟨rfl, rfl⟩
    clear hN
    go_wp2_with fail
    refine hA.mono ?_
    intro e w2 hh3
    clear hA
    rcases Ends.cases hh3 with ⟨y, r, v, s3, hres, rfl, hJ, hs3, h2, hg3⟩ | ⟨m, hres, rfl, hg3⟩
    rotate_left
    · exact ⟨rfl, Ends.err (by rw [HV.out, hres]; rfl) (gb_trans hgA hg3)⟩
    have hRes : RES = .ok (Jq.textJ y, r) := by rw [HV.out, hres]; rfl
    have hc2 := hc1.gb hg3 (by omega)
    have hgB := gb_trans hgA hg3
    obtain ⟨rfl, hy⟩ := hJ
    have hB := textJ_any (strOf y) (by rw [← numsOf_length, numsOf_strOf hy.2]; omega) w2
    rw [numsOf_strOf hy.2] at hB
    clear hh3 hres hg3 HV hy
    go_wp2_with fail
    refine hB.mono ?_
    rintro e w3 ⟨rfl, hJ, hb3⟩
    clear hB
    have h3 := h2.more hb3
    have hc3 := hc2.below hb3 hc2.lt
    have hgB := gb_trans hgB (gb_below hb3)
    have hs1z : w.heap.size < w2.heap.size := hc2.lt
    clear h2 hc2 hb3
    have HE := Lib.hid (val_out (z0 := .int .i64 3) (z1 := .bool false) (z2 := .int .i64 0) (z3 := .string (strOf y)) (z4 := nilS) (z5 := nilS) hRes hJ hs3 h3 hgB hs1z hWle hRlt)
    have hz := hc3.put6 (a := .int .i64 3) (b := .bool false) (c := .int .i64 0) (d := .string (strOf y)) (e := nilS) (f := nilS)
    have HZ := Lib.hid hz
    obtain ⟨⟨b0, b1, b2, b3, b4, b5⟩, g0, g1, g2, g3, g4, g5⟩ := hc3.six
    clear hz hRes hJ hs3 h3 hgB hc3 hc1 hgA h1
    go_wp2
    refine bodyPost_ret (v := .agg #[.int .i64 3, .bool false, .int .i64 0, .string (strOf y), nilS, nilS]) ?_ rfl ?_
    · have hz := HZ.out
      unfold put6 at hz
      generalize World.setCell (World.setCell (World.setCell (World.setCell (World.setCell (World.setCell _ _ _) _ _) _ _) _ _) _ _) _ _ = w9 at hz ⊢
      obtain ⟨⟨z0, z1, z2, z3, z4, z5⟩, _⟩ := hz.six
      simp [results, Tryz.results95, go_sem, z0, z1, z2, z3, z4, z5]
    · exact HE.out
  by_cases hx91 : x = 91
  · have hv := HVH.out 91 (by decide) hx91
    have hhd := HHD.out 91 (by decide) hx91
    rw [hx91] at hN
    clear HNO HVH HHD hx91
    have hA := HLi.out W R s1 w1 (head_pos hhd) h1
    have HV : Hid (RES = lists n ((numsOf s1).drop 1)) := hv
    clear hv hhd HLi HOb
    go_wp2_with fail
    refine hN.mono ?_
    rintro e w2 ⟨rfl, rfl⟩
    clear hN
    go_wp2_with fail
    refine hA.mono ?_
    intro e w3 hh3
    clear hA
    rcases Ends.cases hh3 with ⟨y, r, v, s3, hres, rfl, hJ, hs3, h3, hg3⟩ | ⟨m, hres, rfl, hg3⟩
    rotate_left
    · exact ⟨rfl, Ends.err (HV.out.trans hres) (gb_trans hgA hg3)⟩
    have hRes := HV.out.trans hres
    have hgB := gb_trans hgA hg3
    have hc3 := hc1.gb hg3 (by omega)
    obtain ⟨A1, cap1, A2, cap2, rfl⟩ := IsJ.form hJ
    clear hh3 hres hg3 HV
    have HE := Lib.hid (val_out (z0 := .int .i64 y.kind) (z1 := .bool y.bool) (z2 := .int .i64 y.int) (z3 := .string (strOf y.text)) (z4 := .slice A1 y.names.length cap1) (z5 := .slice A2 y.list.length cap2) hRes hJ hs3 h3 hgB hs1z hWle hRlt)
    have hz := hc3.put6 (a := .int .i64 y.kind) (b := .bool y.bool) (c := .int .i64 y.int) (d := .string (strOf y.text)) (e := .slice A1 y.names.length cap1) (f := .slice A2 y.list.length cap2)
    have HZ := Lib.hid hz
    obtain ⟨⟨b0, b1, b2, b3, b4, b5⟩, g0, g1, g2, g3, g4, g5⟩ := hc3.six
    clear hz hRes hJ hs3 h3 hgB hc3 hc1 hgA h1
    go_wp2
    refine bodyPost_ret (v := .agg #[.int .i64 y.kind, .bool y.bool, .int .i64 y.int, .string (strOf y.text), .slice A1 y.names.length cap1, .slice A2 y.list.length cap2]) ?_ rfl ?_
    · have hz := HZ.out
      unfold put6 at hz
      generalize World.setCell (World.setCell (World.setCell (World.setCell (World.setCell (World.setCell _ _ _) _ _) _ _) _ _) _ _) _ _ = w9 at hz ⊢
      obtain ⟨⟨z0, z1, z2, z3, z4, z5⟩, _⟩ := hz.six
      simp [results, Tryz.results95, go_sem, z0, z1, z2, z3, z4, z5]
    · exact HE.out
  by_cases hx123 : x = 123
  · have hv := HVH.out 123 (by decide) hx123
    have hhd := HHD.out 123 (by decide) hx123
    rw [hx123] at hN
    clear HNO HVH HHD hx123
    have hA := HOb.out W R s1 w1 (head_pos hhd) h1
    have HV : Hid (RES = objects n ((numsOf s1).drop 1)) := hv
    clear hv hhd HLi HOb
    go_wp2_with fail
    refine hN.mono ?_
    rintro e w2 ⟨rfl, rfl⟩
    clear hN
    go_wp2_with fail
    refine hA.mono ?_
    intro e w3 hh3
    clear hA
    rcases Ends.cases hh3 with ⟨y, r, v, s3, hres, rfl, hJ, hs3, h3, hg3⟩ | ⟨m, hres, rfl, hg3⟩
    rotate_left
    · exact ⟨rfl, Ends.err (HV.out.trans hres) (gb_trans hgA hg3)⟩
    have hRes := HV.out.trans hres
    have hgB := gb_trans hgA hg3
    have hc3 := hc1.gb hg3 (by omega)
    obtain ⟨A1, cap1, A2, cap2, rfl⟩ := IsJ.form hJ
    clear hh3 hres hg3 HV
    have HE := Lib.hid (val_out (z0 := .int .i64 y.kind) (z1 := .bool y.bool) (z2 := .int .i64 y.int) (z3 := .string (strOf y.text)) (z4 := .slice A1 y.names.length cap1) (z5 := .slice A2 y.list.length cap2) hRes hJ hs3 h3 hgB hs1z hWle hRlt)
    have hz := hc3.put6 (a := .int .i64 y.kind) (b := .bool y.bool) (c := .int .i64 y.int) (d := .string (strOf y.text)) (e := .slice A1 y.names.length cap1) (f := .slice A2 y.list.length cap2)
    have HZ := Lib.hid hz
    obtain ⟨⟨b0, b1, b2, b3, b4, b5⟩, g0, g1, g2, g3, g4, g5⟩ := hc3.six
    clear hz hRes hJ hs3 h3 hgB hc3 hc1 hgA h1
    go_wp2
    refine bodyPost_ret (v := .agg #[.int .i64 y.kind, .bool y.bool, .int .i64 y.int, .string (strOf y.text), .slice A1 y.names.length cap1, .slice A2 y.list.length cap2]) ?_ rfl ?_
    · have hz := HZ.out
      unfold put6 at hz
      generalize World.setCell (World.setCell (World.setCell (World.setCell (World.setCell (World.setCell _ _ _) _ _) _ _) _ _) _ _) _ _ = w9 at hz ⊢
      obtain ⟨⟨z0, z1, z2, z3, z4, z5⟩, _⟩ := hz.six
      simp [results, Tryz.results95, go_sem, z0, z1, z2, z3, z4, z5]
    · exact HE.out
  by_cases hx45 : x = 45
  · have hv := HVH.out 45 (by decide) hx45
    have hhd := HHD.out 45 (by decide) hx45
    rw [hx45] at hN
    clear HNO HVH HHD hx45 HLi HOb
    have hA := number_any W R d s1 w1 h1
    have HV : Hid (RES = (numV (numsOf s1)).map fun q => (Jq.intJ q.1, q.2)) := hv.trans (number_V _)
    clear hv hhd
    go_wp2_with fail
    refine hN.mono ?_
    rintro e w2 ⟨rfl, rfl⟩
    clear hN
    go_wp2_with fail
    refine hA.mono ?_
    intro e w2 hh3
    clear hA
    rcases Ends.cases hh3 with ⟨y, r, v, s3, hres, rfl, hJ, hs3, h2, hg3⟩ | ⟨m, hres, rfl, hg3⟩
    rotate_left
    · exact ⟨rfl, Ends.err (by rw [HV.out, hres]; rfl) (gb_trans hgA hg3)⟩
    have hRes : RES = .ok (Jq.intJ y, r) := by rw [HV.out, hres]; rfl
    have hc2 := hc1.gb hg3 (by omega)
    have hgB := gb_trans hgA hg3
    obtain ⟨rfl, hy⟩ := hJ
    have hB := intJ_any y (by omega) w2
    clear hh3 hres hg3 HV hy
    go_wp2_with fail
    refine hB.mono ?_
    rintro e w3 ⟨rfl, hJ, hb3⟩
    clear hB
    have h3 := h2.more hb3
    have hc3 := hc2.below hb3 hc2.lt
    have hgB := gb_trans hgB (gb_below hb3)
    have hs1z : w.heap.size < w2.heap.size := hc2.lt
    clear h2 hc2 hb3
    have HE := Lib.hid (val_out (z0 := .int .i64 2) (z1 := .bool false) (z2 := .int .i64 y) (z3 := .string ByteArray.empty) (z4 := nilS) (z5 := nilS) hRes hJ hs3 h3 hgB hs1z hWle hRlt)
    have hz := hc3.put6 (a := .int .i64 2) (b := .bool false) (c := .int .i64 y) (d := .string ByteArray.empty) (e := nilS) (f := nilS)
    have HZ := Lib.hid hz
    obtain ⟨⟨b0, b1, b2, b3, b4, b5⟩, g0, g1, g2, g3, g4, g5⟩ := hc3.six
    clear hz hRes hJ hs3 h3 hgB hc3 hc1 hgA h1
    go_wp2
    refine bodyPost_ret (v := .agg #[.int .i64 2, .bool false, .int .i64 y, .string ByteArray.empty, nilS, nilS]) ?_ rfl ?_
    · have hz := HZ.out
      unfold put6 at hz
      generalize World.setCell (World.setCell (World.setCell (World.setCell (World.setCell (World.setCell _ _ _) _ _) _ _) _ _) _ _) _ _ = w9 at hz ⊢
      obtain ⟨⟨z0, z1, z2, z3, z4, z5⟩, _⟩ := hz.six
      simp [results, Tryz.results95, go_sem, z0, z1, z2, z3, z4, z5]
    · exact HE.out
  by_cases hx48 : x = 48
  · have hv := HVH.out 48 (by decide) hx48
    have hhd := HHD.out 48 (by decide) hx48
    rw [hx48] at hN
    clear HNO HVH HHD hx48 HLi HOb
    have hA := number_any W R d s1 w1 h1
    have HV : Hid (RES = (numV (numsOf s1)).map fun q => (Jq.intJ q.1, q.2)) := hv.trans (number_V _)
    clear hv hhd
    go_wp2_with fail
    refine hN.mono ?_
    rintro e w2 ⟨rfl, rfl⟩
    clear hN
    go_wp2_with fail
    refine hA.mono ?_
    intro e w2 hh3
    clear hA
    rcases Ends.cases hh3 with ⟨y, r, v, s3, hres, rfl, hJ, hs3, h2, hg3⟩ | ⟨m, hres, rfl, hg3⟩
    rotate_left
    · exact ⟨rfl, Ends.err (by rw [HV.out, hres]; rfl) (gb_trans hgA hg3)⟩
    have hRes : RES = .ok (Jq.intJ y, r) := by rw [HV.out, hres]; rfl
    have hc2 := hc1.gb hg3 (by omega)
    have hgB := gb_trans hgA hg3
    obtain ⟨rfl, hy⟩ := hJ
    have hB := intJ_any y (by omega) w2
    clear hh3 hres hg3 HV hy
    go_wp2_with fail
    refine hB.mono ?_
    rintro e w3 ⟨rfl, hJ, hb3⟩
    clear hB
    have h3 := h2.more hb3
    have hc3 := hc2.below hb3 hc2.lt
    have hgB := gb_trans hgB (gb_below hb3)
    have hs1z : w.heap.size < w2.heap.size := hc2.lt
    clear h2 hc2 hb3
    have HE := Lib.hid (val_out (z0 := .int .i64 2) (z1 := .bool false) (z2 := .int .i64 y) (z3 := .string ByteArray.empty) (z4 := nilS) (z5 := nilS) hRes hJ hs3 h3 hgB hs1z hWle hRlt)
    have hz := hc3.put6 (a := .int .i64 2) (b := .bool false) (c := .int .i64 y) (d := .string ByteArray.empty) (e := nilS) (f := nilS)
    have HZ := Lib.hid hz
    obtain ⟨⟨b0, b1, b2, b3, b4, b5⟩, g0, g1, g2, g3, g4, g5⟩ := hc3.six
    clear hz hRes hJ hs3 h3 hgB hc3 hc1 hgA h1
    go_wp2
    refine bodyPost_ret (v := .agg #[.int .i64 2, .bool false, .int .i64 y, .string ByteArray.empty, nilS, nilS]) ?_ rfl ?_
    · have hz := HZ.out
      unfold put6 at hz
      generalize World.setCell (World.setCell (World.setCell (World.setCell (World.setCell (World.setCell _ _ _) _ _) _ _) _ _) _ _) _ _ = w9 at hz ⊢
      obtain ⟨⟨z0, z1, z2, z3, z4, z5⟩, _⟩ := hz.six
      simp [results, Tryz.results95, go_sem, z0, z1, z2, z3, z4, z5]
    · exact HE.out
  by_cases hx49 : x = 49
  · have hv := HVH.out 49 (by decide) hx49
    have hhd := HHD.out 49 (by decide) hx49
    rw [hx49] at hN
    clear HNO HVH HHD hx49 HLi HOb
    have hA := number_any W R d s1 w1 h1
    have HV : Hid (RES = (numV (numsOf s1)).map fun q => (Jq.intJ q.1, q.2)) := hv.trans (number_V _)
    clear hv hhd
    go_wp2_with fail
    refine hN.mono ?_
    rintro e w2 ⟨rfl, rfl⟩
    clear hN
    go_wp2_with fail
    refine hA.mono ?_
    intro e w2 hh3
    clear hA
    rcases Ends.cases hh3 with ⟨y, r, v, s3, hres, rfl, hJ, hs3, h2, hg3⟩ | ⟨m, hres, rfl, hg3⟩
    rotate_left
    · exact ⟨rfl, Ends.err (by rw [HV.out, hres]; rfl) (gb_trans hgA hg3)⟩
    have hRes : RES = .ok (Jq.intJ y, r) := by rw [HV.out, hres]; rfl
    have hc2 := hc1.gb hg3 (by omega)
    have hgB := gb_trans hgA hg3
    obtain ⟨rfl, hy⟩ := hJ
    have hB := intJ_any y (by omega) w2
    clear hh3 hres hg3 HV hy
    go_wp2_with fail
    refine hB.mono ?_
    rintro e w3 ⟨rfl, hJ, hb3⟩
    clear hB
    have h3 := h2.more hb3
    have hc3 := hc2.below hb3 hc2.lt
    have hgB := gb_trans hgB (gb_below hb3)
    have hs1z : w.heap.size < w2.heap.size := hc2.lt
    clear h2 hc2 hb3
    have HE := Lib.hid (val_out (z0 := .int .i64 2) (z1 := .bool false) (z2 := .int .i64 y) (z3 := .string ByteArray.empty) (z4 := nilS) (z5 := nilS) hRes hJ hs3 h3 hgB hs1z hWle hRlt)
    have hz := hc3.put6 (a := .int .i64 2) (b := .bool false) (c := .int .i64 y) (d := .string ByteArray.empty) (e := nilS) (f := nilS)
    have HZ := Lib.hid hz
    obtain ⟨⟨b0, b1, b2, b3, b4, b5⟩, g0, g1, g2, g3, g4, g5⟩ := hc3.six
    clear hz hRes hJ hs3 h3 hgB hc3 hc1 hgA h1
    go_wp2
    refine bodyPost_ret (v := .agg #[.int .i64 2, .bool false, .int .i64 y, .string ByteArray.empty, nilS, nilS]) ?_ rfl ?_
    · have hz := HZ.out
      unfold put6 at hz
      generalize World.setCell (World.setCell (World.setCell (World.setCell (World.setCell (World.setCell _ _ _) _ _) _ _) _ _) _ _) _ _ = w9 at hz ⊢
      obtain ⟨⟨z0, z1, z2, z3, z4, z5⟩, _⟩ := hz.six
      simp [results, Tryz.results95, go_sem, z0, z1, z2, z3, z4, z5]
    · exact HE.out
  by_cases hx50 : x = 50
  · have hv := HVH.out 50 (by decide) hx50
    have hhd := HHD.out 50 (by decide) hx50
    rw [hx50] at hN
    clear HNO HVH HHD hx50 HLi HOb
    have hA := number_any W R d s1 w1 h1
    have HV : Hid (RES = (numV (numsOf s1)).map fun q => (Jq.intJ q.1, q.2)) := hv.trans (number_V _)
    clear hv hhd
    go_wp2_with fail
    refine hN.mono ?_
    rintro e w2 ⟨rfl, rfl⟩
    clear hN
    go_wp2_with fail
    refine hA.mono ?_
    intro e w2 hh3
    clear hA
    rcases Ends.cases hh3 with ⟨y, r, v, s3, hres, rfl, hJ, hs3, h2, hg3⟩ | ⟨m, hres, rfl, hg3⟩
    rotate_left
    · exact ⟨rfl, Ends.err (by rw [HV.out, hres]; rfl) (gb_trans hgA hg3)⟩
    have hRes : RES = .ok (Jq.intJ y, r) := by rw [HV.out, hres]; rfl
    have hc2 := hc1.gb hg3 (by omega)
    have hgB := gb_trans hgA hg3
    obtain ⟨rfl, hy⟩ := hJ
    have hB := intJ_any y (by omega) w2
    clear hh3 hres hg3 HV hy
    go_wp2_with fail
    refine hB.mono ?_
    rintro e w3 ⟨rfl, hJ, hb3⟩
    clear hB
    have h3 := h2.more hb3
    have hc3 := hc2.below hb3 hc2.lt
    have hgB := gb_trans hgB (gb_below hb3)
    have hs1z : w.heap.size < w2.heap.size := hc2.lt
    clear h2 hc2 hb3
    have HE := Lib.hid (val_out (z0 := .int .i64 2) (z1 := .bool false) (z2 := .int .i64 y) (z3 := .string ByteArray.empty) (z4 := nilS) (z5 := nilS) hRes hJ hs3 h3 hgB hs1z hWle hRlt)
    have hz := hc3.put6 (a := .int .i64 2) (b := .bool false) (c := .int .i64 y) (d := .string ByteArray.empty) (e := nilS) (f := nilS)
    have HZ := Lib.hid hz
    obtain ⟨⟨b0, b1, b2, b3, b4, b5⟩, g0, g1, g2, g3, g4, g5⟩ := hc3.six
    clear hz hRes hJ hs3 h3 hgB hc3 hc1 hgA h1
    go_wp2
    refine bodyPost_ret (v := .agg #[.int .i64 2, .bool false, .int .i64 y, .string ByteArray.empty, nilS, nilS]) ?_ rfl ?_
    · have hz := HZ.out
      unfold put6 at hz
      generalize World.setCell (World.setCell (World.setCell (World.setCell (World.setCell (World.setCell _ _ _) _ _) _ _) _ _) _ _) _ _ = w9 at hz ⊢
      obtain ⟨⟨z0, z1, z2, z3, z4, z5⟩, _⟩ := hz.six
      simp [results, Tryz.results95, go_sem, z0, z1, z2, z3, z4, z5]
    · exact HE.out
  by_cases hx51 : x = 51
  · have hv := HVH.out 51 (by decide) hx51
    have hhd := HHD.out 51 (by decide) hx51
    rw [hx51] at hN
    clear HNO HVH HHD hx51 HLi HOb
    have hA := number_any W R d s1 w1 h1
    have HV : Hid (RES = (numV (numsOf s1)).map fun q => (Jq.intJ q.1, q.2)) := hv.trans (number_V _)
    clear hv hhd
    go_wp2_with fail
    refine hN.mono ?_
    rintro e w2 ⟨rfl, rfl⟩
    clear hN
    go_wp2_with fail
    refine hA.mono ?_
    intro e w2 hh3
    clear hA
    rcases Ends.cases hh3 with ⟨y, r, v, s3, hres, rfl, hJ, hs3, h2, hg3⟩ | ⟨m, hres, rfl, hg3⟩
    rotate_left
    · exact ⟨rfl, Ends.err (by rw [HV.out, hres]; rfl) (gb_trans hgA hg3)⟩
    have hRes : RES = .ok (Jq.intJ y, r) := by rw [HV.out, hres]; rfl
    have hc2 := hc1.gb hg3 (by omega)
    have hgB := gb_trans hgA hg3
    obtain ⟨rfl, hy⟩ := hJ
    have hB := intJ_any y (by omega) w2
    clear hh3 hres hg3 HV hy
    go_wp2_with fail
    refine hB.mono ?_
    rintro e w3 ⟨rfl, hJ, hb3⟩
    clear hB
    have h3 := h2.more hb3
    have hc3 := hc2.below hb3 hc2.lt
    have hgB := gb_trans hgB (gb_below hb3)
    have hs1z : w.heap.size < w2.heap.size := hc2.lt
    clear h2 hc2 hb3
    have HE := Lib.hid (val_out (z0 := .int .i64 2) (z1 := .bool false) (z2 := .int .i64 y) (z3 := .string ByteArray.empty) (z4 := nilS) (z5 := nilS) hRes hJ hs3 h3 hgB hs1z hWle hRlt)
    have hz := hc3.put6 (a := .int .i64 2) (b := .bool false) (c := .int .i64 y) (d := .string ByteArray.empty) (e := nilS) (f := nilS)
    have HZ := Lib.hid hz
    obtain ⟨⟨b0, b1, b2, b3, b4, b5⟩, g0, g1, g2, g3, g4, g5⟩ := hc3.six
    clear hz hRes hJ hs3 h3 hgB hc3 hc1 hgA h1
    go_wp2
    refine bodyPost_ret (v := .agg #[.int .i64 2, .bool false, .int .i64 y, .string ByteArray.empty, nilS, nilS]) ?_ rfl ?_
    · have hz := HZ.out
      unfold put6 at hz
      generalize World.setCell (World.setCell (World.setCell (World.setCell (World.setCell (World.setCell _ _ _) _ _) _ _) _ _) _ _) _ _ = w9 at hz ⊢
      obtain ⟨⟨z0, z1, z2, z3, z4, z5⟩, _⟩ := hz.six
      simp [results, Tryz.results95, go_sem, z0, z1, z2, z3, z4, z5]
    · exact HE.out
  by_cases hx52 : x = 52
  · have hv := HVH.out 52 (by decide) hx52
    have hhd := HHD.out 52 (by decide) hx52
    rw [hx52] at hN
    clear HNO HVH HHD hx52 HLi HOb
    have hA := number_any W R d s1 w1 h1
    have HV : Hid (RES = (numV (numsOf s1)).map fun q => (Jq.intJ q.1, q.2)) := hv.trans (number_V _)
    clear hv hhd
    go_wp2_with fail
    refine hN.mono ?_
    rintro e w2 ⟨rfl, rfl⟩
    clear hN
    go_wp2_with fail
    refine hA.mono ?_
    intro e w2 hh3
    clear hA
    rcases Ends.cases hh3 with ⟨y, r, v, s3, hres, rfl, hJ, hs3, h2, hg3⟩ | ⟨m, hres, rfl, hg3⟩
    rotate_left
    · exact ⟨rfl, Ends.err (by rw [HV.out, hres]; rfl) (gb_trans hgA hg3)⟩
    have hRes : RES = .ok (Jq.intJ y, r) := by rw [HV.out, hres]; rfl
    have hc2 := hc1.gb hg3 (by omega)
    have hgB := gb_trans hgA hg3
    obtain ⟨rfl, hy⟩ := hJ
    have hB := intJ_any y (by omega) w2
    clear hh3 hres hg3 HV hy
    go_wp2_with fail
    refine hB.mono ?_
    rintro e w3 ⟨rfl, hJ, hb3⟩
    clear hB
    have h3 := h2.more hb3
    have hc3 := hc2.below hb3 hc2.lt
    have hgB := gb_trans hgB (gb_below hb3)
    have hs1z : w.heap.size < w2.heap.size := hc2.lt
    clear h2 hc2 hb3
    have HE := Lib.hid (val_out (z0 := .int .i64 2) (z1 := .bool false) (z2 := .int .i64 y) (z3 := .string ByteArray.empty) (z4 := nilS) (z5 := nilS) hRes hJ hs3 h3 hgB hs1z hWle hRlt)
    have hz := hc3.put6 (a := .int .i64 2) (b := .bool false) (c := .int .i64 y) (d := .string ByteArray.empty) (e := nilS) (f := nilS)
    have HZ := Lib.hid hz
    obtain ⟨⟨b0, b1, b2, b3, b4, b5⟩, g0, g1, g2, g3, g4, g5⟩ := hc3.six
    clear hz hRes hJ hs3 h3 hgB hc3 hc1 hgA h1
    go_wp2
    refine bodyPost_ret (v := .agg #[.int .i64 2, .bool false, .int .i64 y, .string ByteArray.empty, nilS, nilS]) ?_ rfl ?_
    · have hz := HZ.out
      unfold put6 at hz
      generalize World.setCell (World.setCell (World.setCell (World.setCell (World.setCell (World.setCell _ _ _) _ _) _ _) _ _) _ _) _ _ = w9 at hz ⊢
      obtain ⟨⟨z0, z1, z2, z3, z4, z5⟩, _⟩ := hz.six
      simp [results, Tryz.results95, go_sem, z0, z1, z2, z3, z4, z5]
    · exact HE.out
  by_cases hx53 : x = 53
  · have hv := HVH.out 53 (by decide) hx53
    have hhd := HHD.out 53 (by decide) hx53
    rw [hx53] at hN
    clear HNO HVH HHD hx53 HLi HOb
    have hA := number_any W R d s1 w1 h1
    have HV : Hid (RES = (numV (numsOf s1)).map fun q => (Jq.intJ q.1, q.2)) := hv.trans (number_V _)
    clear hv hhd
    go_wp2_with fail
    refine hN.mono ?_
    rintro e w2 ⟨rfl, rfl⟩
    clear hN
    go_wp2_with fail
    refine hA.mono ?_
    intro e w2 hh3
    clear hA
    rcases Ends.cases hh3 with ⟨y, r, v, s3, hres, rfl, hJ, hs3, h2, hg3⟩ | ⟨m, hres, rfl, hg3⟩
    rotate_left
    · exact ⟨rfl, Ends.err (by rw [HV.out, hres]; rfl) (gb_trans hgA hg3)⟩
    have hRes : RES = .ok (Jq.intJ y, r) := by rw [HV.out, hres]; rfl
    have hc2 := hc1.gb hg3 (by omega)
    have hgB := gb_trans hgA hg3
    obtain ⟨rfl, hy⟩ := hJ
    have hB := intJ_any y (by omega) w2
    clear hh3 hres hg3 HV hy
    go_wp2_with fail
    refine hB.mono ?_
    rintro e w3 ⟨rfl, hJ, hb3⟩
    clear hB
    have h3 := h2.more hb3
    have hc3 := hc2.below hb3 hc2.lt
    have hgB := gb_trans hgB (gb_below hb3)
    have hs1z : w.heap.size < w2.heap.size := hc2.lt
    clear h2 hc2 hb3
    have HE := Lib.hid (val_out (z0 := .int .i64 2) (z1 := .bool false) (z2 := .int .i64 y) (z3 := .string ByteArray.empty) (z4 := nilS) (z5 := nilS) hRes hJ hs3 h3 hgB hs1z hWle hRlt)
    have hz := hc3.put6 (a := .int .i64 2) (b := .bool false) (c := .int .i64 y) (d := .string ByteArray.empty) (e := nilS) (f := nilS)
    have HZ := Lib.hid hz
    obtain ⟨⟨b0, b1, b2, b3, b4, b5⟩, g0, g1, g2, g3, g4, g5⟩ := hc3.six
    clear hz hRes hJ hs3 h3 hgB hc3 hc1 hgA h1
    go_wp2
    refine bodyPost_ret (v := .agg #[.int .i64 2, .bool false, .int .i64 y, .string ByteArray.empty, nilS, nilS]) ?_ rfl ?_
    · have hz := HZ.out
      unfold put6 at hz
      generalize World.setCell (World.setCell (World.setCell (World.setCell (World.setCell (World.setCell _ _ _) _ _) _ _) _ _) _ _) _ _ = w9 at hz ⊢
      obtain ⟨⟨z0, z1, z2, z3, z4, z5⟩, _⟩ := hz.six
      simp [results, Tryz.results95, go_sem, z0, z1, z2, z3, z4, z5]
    · exact HE.out
  by_cases hx54 : x = 54
  · have hv := HVH.out 54 (by decide) hx54
    have hhd := HHD.out 54 (by decide) hx54
    rw [hx54] at hN
    clear HNO HVH HHD hx54 HLi HOb
    have hA := number_any W R d s1 w1 h1
    have HV : Hid (RES = (numV (numsOf s1)).map fun q => (Jq.intJ q.1, q.2)) := hv.trans (number_V _)
    clear hv hhd
    go_wp2_with fail
    refine hN.mono ?_
    rintro e w2 ⟨rfl, rfl⟩
    clear hN
    go_wp2_with fail
    refine hA.mono ?_
    intro e w2 hh3
    clear hA
    rcases Ends.cases hh3 with ⟨y, r, v, s3, hres, rfl, hJ, hs3, h2, hg3⟩ | ⟨m, hres, rfl, hg3⟩
    rotate_left
    · exact ⟨rfl, Ends.err (by rw [HV.out, hres]; rfl) (gb_trans hgA hg3)⟩
    have hRes : RES = .ok (Jq.intJ y, r) := by rw [HV.out, hres]; rfl
    have hc2 := hc1.gb hg3 (by omega)
    have hgB := gb_trans hgA hg3
    obtain ⟨rfl, hy⟩ := hJ
    have hB := intJ_any y (by omega) w2
    clear hh3 hres hg3 HV hy
    go_wp2_with fail
    refine hB.mono ?_
    rintro e w3 ⟨rfl, hJ, hb3⟩
    clear hB
    have h3 := h2.more hb3
    have hc3 := hc2.below hb3 hc2.lt
    have hgB := gb_trans hgB (gb_below hb3)
    have hs1z : w.heap.size < w2.heap.size := hc2.lt
    clear h2 hc2 hb3
    have HE := Lib.hid (val_out (z0 := .int .i64 2) (z1 := .bool false) (z2 := .int .i64 y) (z3 := .string ByteArray.empty) (z4 := nilS) (z5 := nilS) hRes hJ hs3 h3 hgB hs1z hWle hRlt)
    have hz := hc3.put6 (a := .int .i64 2) (b := .bool false) (c := .int .i64 y) (d := .string ByteArray.empty) (e := nilS) (f := nilS)
    have HZ := Lib.hid hz
    obtain ⟨⟨b0, b1, b2, b3, b4, b5⟩, g0, g1, g2, g3, g4, g5⟩ := hc3.six
    clear hz hRes hJ hs3 h3 hgB hc3 hc1 hgA h1
    go_wp2
    refine bodyPost_ret (v := .agg #[.int .i64 2, .bool false, .int .i64 y, .string ByteArray.empty, nilS, nilS]) ?_ rfl ?_
    · have hz := HZ.out
      unfold put6 at hz
      generalize World.setCell (World.setCell (World.setCell (World.setCell (World.setCell (World.setCell _ _ _) _ _) _ _) _ _) _ _) _ _ = w9 at hz ⊢
      obtain ⟨⟨z0, z1, z2, z3, z4, z5⟩, _⟩ := hz.six
      simp [results, Tryz.results95, go_sem, z0, z1, z2, z3, z4, z5]
    · exact HE.out
  by_cases hx55 : x = 55
  · have hv := HVH.out 55 (by decide) hx55
    have hhd := HHD.out 55 (by decide) hx55
    rw [hx55] at hN
    clear HNO HVH HHD hx55 HLi HOb
    have hA := number_any W R d s1 w1 h1
    have HV : Hid (RES = (numV (numsOf s1)).map fun q => (Jq.intJ q.1, q.2)) := hv.trans (number_V _)
    clear hv hhd
    go_wp2_with fail
    refine hN.mono ?_
    rintro e w2 ⟨rfl, rfl⟩
    clear hN
    go_wp2_with fail
    refine hA.mono ?_
    intro e w2 hh3
    clear hA
    rcases Ends.cases hh3 with ⟨y, r, v, s3, hres, rfl, hJ, hs3, h2, hg3⟩ | ⟨m, hres, rfl, hg3⟩
    rotate_left
    · exact ⟨rfl, Ends.err (by rw [HV.out, hres]; rfl) (gb_trans hgA hg3)⟩
    have hRes : RES = .ok (Jq.intJ y, r) := by rw [HV.out, hres]; rfl
    have hc2 := hc1.gb hg3 (by omega)
    have hgB := gb_trans hgA hg3
    obtain ⟨rfl, hy⟩ := hJ
    have hB := intJ_any y (by omega) w2
    clear hh3 hres hg3 HV hy
    go_wp2_with fail
    refine hB.mono ?_
    rintro e w3 ⟨rfl, hJ, hb3⟩
    clear hB
    have h3 := h2.more hb3
    have hc3 := hc2.below hb3 hc2.lt
    have hgB := gb_trans hgB (gb_below hb3)
    have hs1z : w.heap.size < w2.heap.size := hc2.lt
    clear h2 hc2 hb3
    have HE := Lib.hid (val_out (z0 := .int .i64 2) (z1 := .bool false) (z2 := .int .i64 y) (z3 := .string ByteArray.empty) (z4 := nilS) (z5 := nilS) hRes hJ hs3 h3 hgB hs1z hWle hRlt)
    have hz := hc3.put6 (a := .int .i64 2) (b := .bool false) (c := .int .i64 y) (d := .string ByteArray.empty) (e := nilS) (f := nilS)
    have HZ := Lib.hid hz
    obtain ⟨⟨b0, b1, b2, b3, b4, b5⟩, g0, g1, g2, g3, g4, g5⟩ := hc3.six
    clear hz hRes hJ hs3 h3 hgB hc3 hc1 hgA h1
    go_wp2
    refine bodyPost_ret (v := .agg #[.int .i64 2, .bool false, .int .i64 y, .string ByteArray.empty, nilS, nilS]) ?_ rfl ?_
    · have hz := HZ.out
      unfold put6 at hz
      generalize World.setCell (World.setCell (World.setCell (World.setCell (World.setCell (World.setCell _ _ _) _ _) _ _) _ _) _ _) _ _ = w9 at hz ⊢
      obtain ⟨⟨z0, z1, z2, z3, z4, z5⟩, _⟩ := hz.six
      simp [results, Tryz.results95, go_sem, z0, z1, z2, z3, z4, z5]
    · exact HE.out
  by_cases hx56 : x = 56
  · have hv := HVH.out 56 (by decide) hx56
    have hhd := HHD.out 56 (by decide) hx56
    rw [hx56] at hN
    clear HNO HVH HHD hx56 HLi HOb
    have hA := number_any W R d s1 w1 h1
    have HV : Hid (RES = (numV (numsOf s1)).map fun q => (Jq.intJ q.1, q.2)) := hv.trans (number_V _)
    clear hv hhd
    go_wp2_with fail
    refine hN.mono ?_
    rintro e w2 ⟨rfl, rfl⟩
    clear hN
    go_wp2_with fail
    refine hA.mono ?_
    intro e w2 hh3
    clear hA
    rcases Ends.cases hh3 with ⟨y, r, v, s3, hres, rfl, hJ, hs3, h2, hg3⟩ | ⟨m, hres, rfl, hg3⟩
    rotate_left
    · exact ⟨rfl, Ends.err (by rw [HV.out, hres]; rfl) (gb_trans hgA hg3)⟩
    have hRes : RES = .ok (Jq.intJ y, r) := by rw [HV.out, hres]; rfl
    have hc2 := hc1.gb hg3 (by omega)
    have hgB := gb_trans hgA hg3
    obtain ⟨rfl, hy⟩ := hJ
    have hB := intJ_any y (by omega) w2
    clear hh3 hres hg3 HV hy
    go_wp2_with fail
    refine hB.mono ?_
    rintro e w3 ⟨rfl, hJ, hb3⟩
    clear hB
    have h3 := h2.more hb3
    have hc3 := hc2.below hb3 hc2.lt
    have hgB := gb_trans hgB (gb_below hb3)
    have hs1z : w.heap.size < w2.heap.size := hc2.lt
    clear h2 hc2 hb3
    have HE := Lib.hid (val_out (z0 := .int .i64 2) (z1 := .bool false) (z2 := .int .i64 y) (z3 := .string ByteArray.empty) (z4 := nilS) (z5 := nilS) hRes hJ hs3 h3 hgB hs1z hWle hRlt)
    have hz := hc3.put6 (a := .int .i64 2) (b := .bool false) (c := .int .i64 y) (d := .string ByteArray.empty) (e := nilS) (f := nilS)
    have HZ := Lib.hid hz
    obtain ⟨⟨b0, b1, b2, b3, b4, b5⟩, g0, g1, g2, g3, g4, g5⟩ := hc3.six
    clear hz hRes hJ hs3 h3 hgB hc3 hc1 hgA h1
    go_wp2
    refine bodyPost_ret (v := .agg #[.int .i64 2, .bool false, .int .i64 y, .string ByteArray.empty, nilS, nilS]) ?_ rfl ?_
    · have hz := HZ.out
      unfold put6 at hz
      generalize World.setCell (World.setCell (World.setCell (World.setCell (World.setCell (World.setCell _ _ _) _ _) _ _) _ _) _ _) _ _ = w9 at hz ⊢
      obtain ⟨⟨z0, z1, z2, z3, z4, z5⟩, _⟩ := hz.six
      simp [results, Tryz.results95, go_sem, z0, z1, z2, z3, z4, z5]
    · exact HE.out
  by_cases hx57 : x = 57
  · have hv := HVH.out 57 (by decide) hx57
    have hhd := HHD.out 57 (by decide) hx57
    rw [hx57] at hN
    clear HNO HVH HHD hx57 HLi HOb
    have hA := number_any W R d s1 w1 h1
    have HV : Hid (RES = (numV (numsOf s1)).map fun q => (Jq.intJ q.1, q.2)) := hv.trans (number_V _)
    clear hv hhd
    go_wp2_with fail
    refine hN.mono ?_
    rintro e w2 ⟨rfl, rfl⟩
    clear hN
    go_wp2_with fail
    refine hA.mono ?_
    intro e w2 hh3
    clear hA
    rcases Ends.cases hh3 with ⟨y, r, v, s3, hres, rfl, hJ, hs3, h2, hg3⟩ | ⟨m, hres, rfl, hg3⟩
    rotate_left
    · exact ⟨rfl, Ends.err (by rw [HV.out, hres]; rfl) (gb_trans hgA hg3)⟩
    have hRes : RES = .ok (Jq.intJ y, r) := by rw [HV.out, hres]; rfl
    have hc2 := hc1.gb hg3 (by omega)
    have hgB := gb_trans hgA hg3
    obtain ⟨rfl, hy⟩ := hJ
    have hB := intJ_any y (by omega) w2
    clear hh3 hres hg3 HV hy
    go_wp2_with fail
    refine hB.mono ?_
    rintro e w3 ⟨rfl, hJ, hb3⟩
    clear hB
    have h3 := h2.more hb3
    have hc3 := hc2.below hb3 hc2.lt
    have hgB := gb_trans hgB (gb_below hb3)
    have hs1z : w.heap.size < w2.heap.size := hc2.lt
    clear h2 hc2 hb3
    have HE := Lib.hid (val_out (z0 := .int .i64 2) (z1 := .bool false) (z2 := .int .i64 y) (z3 := .string ByteArray.empty) (z4 := nilS) (z5 := nilS) hRes hJ hs3 h3 hgB hs1z hWle hRlt)
    have hz := hc3.put6 (a := .int .i64 2) (b := .bool false) (c := .int .i64 y) (d := .string ByteArray.empty) (e := nilS) (f := nilS)
    have HZ := Lib.hid hz
    obtain ⟨⟨b0, b1, b2, b3, b4, b5⟩, g0, g1, g2, g3, g4, g5⟩ := hc3.six
    clear hz hRes hJ hs3 h3 hgB hc3 hc1 hgA h1
    go_wp2
    refine bodyPost_ret (v := .agg #[.int .i64 2, .bool false, .int .i64 y, .string ByteArray.empty, nilS, nilS]) ?_ rfl ?_
    · have hz := HZ.out
      unfold put6 at hz
      generalize World.setCell (World.setCell (World.setCell (World.setCell (World.setCell (World.setCell _ _ _) _ _) _ _) _ _) _ _) _ _ = w9 at hz ⊢
      obtain ⟨⟨z0, z1, z2, z3, z4, z5⟩, _⟩ := hz.six
      simp [results, Tryz.results95, go_sem, z0, z1, z2, z3, z4, z5]
    · exact HE.out
  · have HQ : Hid (RES = .error 51) := HNO.out (fun c hc => by
      subst hc
      rw [Jq.scalar, if_neg hx110, if_neg hx116, if_neg hx102, if_neg hx34, if_neg]
      rintro (h | h)
      · exact hx45 h
      · have := (Jq.dig_iff _).1 h
        omega) hx91 hx123
    have t110 : ((x : Int) == 110) = false := by rw [beq_eq_false_iff_ne]; omega
    have t116 : ((x : Int) == 116) = false := by rw [beq_eq_false_iff_ne]; omega
    have t102 : ((x : Int) == 102) = false := by rw [beq_eq_false_iff_ne]; omega
    have t34 : ((x : Int) == 34) = false := by rw [beq_eq_false_iff_ne]; omega
    have t91 : ((x : Int) == 91) = false := by rw [beq_eq_false_iff_ne]; omega
    have t123 : ((x : Int) == 123) = false := by rw [beq_eq_false_iff_ne]; omega
    have t45 : ((x : Int) == 45) = false := by rw [beq_eq_false_iff_ne]; omega
    have t48 : ((x : Int) == 48) = false := by rw [beq_eq_false_iff_ne]; omega
    have t49 : ((x : Int) == 49) = false := by rw [beq_eq_false_iff_ne]; omega
    have t50 : ((x : Int) == 50) = false := by rw [beq_eq_false_iff_ne]; omega
    have t51 : ((x : Int) == 51) = false := by rw [beq_eq_false_iff_ne]; omega
    have t52 : ((x : Int) == 52) = false := by rw [beq_eq_false_iff_ne]; omega
    have t53 : ((x : Int) == 53) = false := by rw [beq_eq_false_iff_ne]; omega
    have t54 : ((x : Int) == 54) = false := by rw [beq_eq_false_iff_ne]; omega
    have t55 : ((x : Int) == 55) = false := by rw [beq_eq_false_iff_ne]; omega
    have t56 : ((x : Int) == 56) = false := by rw [beq_eq_false_iff_ne]; omega
    have t57 : ((x : Int) == 57) = false := by rw [beq_eq_false_iff_ne]; omega
    clear HNO HVH HHD HLi HOb hx110 hx116 hx102 hx34 hx91 hx123 hx45 hx48 hx49 hx50 hx51 hx52 hx53 hx54 hx55 hx56 hx57
    go_wp2_with fail
    refine hN.mono ?_
    rintro e w2 ⟨rfl, rfl⟩
    clear hN
    go_wp2
    exact ⟨rfl, Ends.err HQ.out hgA⟩
end Go.Proofs.YthklgpflaghojaaGreatDoor

/-
  Values of every depth are read as they must be; the whole text.
-/
namespace Go.Proofs.YthklgpflaghojaaGreatDoor
open Go.RowKit

theorem value_ok : ∀ n, n ≤ 16 → ValueOk n
  | 0, _ => value_step 0 (fun W R s w _ h => (list_deep W R s w h).mono fun e w' ⟨he, hg⟩ => by subst he; exact Ends.err rfl hg)
      (fun W R s w _ h => (object_deep W R s w h).mono fun e w' ⟨he, hg⟩ => by subst he; exact Ends.err rfl hg)
  | n + 1, hn => value_step (n + 1)
      (fun W R s w hs h => listR_any n hn (fun W R B0 B Rb V l s w h1 h2 h3 h4 => itemL_any n (value_ok n (by omega)) W R B0 B Rb V l s w h1 h2 h3 h4) W R s hs w h)
      (fun W R s w hs h => objectR_any n hn (fun W R B0 B Rb V p s w h1 h2 h3 h4 => itemO_any n (value_ok n (by omega)) W R B0 B Rb V p.1 p.2 s w h1 h2 h3 h4) W R s hs w h)
/-- The whole text. -/
def wholeP (S : List Nat) : Jq.R Jq.J := match Jq.value 16 S with
  | .error e => .error e
  | .ok (v, r) => if Jq.skip r = [] then .ok (v, []) else .error 51
set_option maxHeartbeats 4000000 in
set_option maxRecDepth 100000 in
theorem whole_any (W : World) (R : Nat) (s : ByteArray) (w : World) (h : Rd W R s 0 w) :
    Calls Tryz.prog 74 #[.pointer (some ⟨R, 0, none⟩)] w (Read W R 0 w (wholeP (numsOf s))) := by
  have hWle : W.heap.size ≤ w.heap.size := h.below.size
  have hRlt := h.lt
  have hV : Calls _ _ _ _ _ := value_ok 16 (Nat.le_refl _) W R s _ (h.alloc (.cells #[.int .i64 0, .bool false, .int .i64 0, .string { data := #[] }, .slice none 0 0, .slice none 0 0] 26))
  have hc0 : Lies (w.alloc (.cells #[.int .i64 0, .bool false, .int .i64 0, .string { data := #[] }, .slice none 0 0, .slice none 0 0] 26)) w.heap.size 26 zero6 := Lies.new_ (cs := zero6) rfl
  have hsz : w.heap.size < (w.alloc (.cells #[.int .i64 0, .bool false, .int .i64 0, .string { data := #[] }, .slice none 0 0, .slice none 0 0] 26)).heap.size := by simp
  have hgw : w.grownBy (w.alloc (.cells #[.int .i64 0, .bool false, .int .i64 0, .string { data := #[] }, .slice none 0 0, .slice none 0 0] 26)) (some R) := World.grownBy_alloc w _ _
  obtain ⟨RES, eRES⟩ : ∃ RES, wholeP (numsOf s) = RES := ⟨_, rfl⟩
  rw [eRES]
  have HW1 : Hid (∀ m, Jq.value 16 (numsOf s) = .error m → RES = .error m) := fun m hm => by rw [← eRES, wholeP, hm]
  have HW2 : Hid (∀ v r, Jq.value 16 (numsOf s) = .ok (v, r) → RES = if Jq.skip r = [] then .ok (v, []) else .error 51) := fun v r hm => by rw [← eRES, wholeP, hm]
  clear h eRES
  generalize ew0 : w.alloc (.cells #[.int .i64 0, .bool false, .int .i64 0, .string { data := #[] }, .slice none 0 0, .slice none 0 0] 26) = w0 at hV hc0 hsz hgw
  go_enter Tryz.func74, Tryz.ntmps74
  go_wp2_with fail
  refine hV.mono ?_
  intro e w1 hh
  clear hV
  rcases Ends.cases hh with ⟨y, r, v, s1, hres, rfl, hJ, hs1, h1, hg1⟩ | ⟨m, hres, rfl, hg1⟩
  rotate_left
  · exact ⟨rfl, Ends.err (HW1.out m hres) (gb_trans hgw hg1)⟩
  obtain ⟨A1, cap1, A2, cap2, rfl⟩ := IsJ.form hJ
  have hS := space_any W R (16 - 16) s1 _ (h1.alloc (.cells #[.int .i64 y.kind, .bool y.bool, .int .i64 y.int, .string (strOf y.text), .slice A1 y.names.length cap1, .slice A2 y.list.length cap2] 26))
  have hv : Lies (w1.alloc (.cells #[.int .i64 y.kind, .bool y.bool, .int .i64 y.int, .string (strOf y.text), .slice A1 y.names.length cap1, .slice A2 y.list.length cap2] 26)) w1.heap.size 26 [.int .i64 y.kind, .bool y.bool, .int .i64 y.int, .string (strOf y.text), .slice A1 y.names.length cap1, .slice A2 y.list.length cap2] := Lies.new_ (cs := [.int .i64 y.kind, .bool y.bool, .int .i64 y.int, .string (strOf y.text), .slice A1 y.names.length cap1, .slice A2 y.list.length cap2]) rfl
  have hc1 := (hc0.gb hg1 (by omega)).alloc (.cells #[.int .i64 y.kind, .bool y.bool, .int .i64 y.int, .string (strOf y.text), .slice A1 y.names.length cap1, .slice A2 y.list.length cap2] 26)
  have hR1 := h1.lt
  have hRes := HW2.out _ _ hres
  have HR := Lib.hid hRes
  have HS1 := Lib.hid hs1
  have hJ2 := hJ.keep (w' := w1.alloc (.cells #[.int .i64 y.kind, .bool y.bool, .int .i64 y.int, .string (strOf y.text), .slice A1 y.names.length cap1, .slice A2 y.list.length cap2] 26)) (ok' := (w0.heap.size ≤ ·)) (fun b hb hlt => ⟨hb, Below.heap_alloc _ _ b hlt⟩) (by simp)
  have hgB := gb_trans (gb_trans hgw hg1) (World.grownBy_alloc w1 (.cells #[.int .i64 y.kind, .bool y.bool, .int .i64 y.int, .string (strOf y.text), .slice A1 y.names.length cap1, .slice A2 y.list.length cap2] 26) (some R))
  clear hh hres hRes hs1 hJ hc0 hgw hg1 HW1 HW2 h1
  go_wp2_with fail
  refine hS.mono ?_
  rintro e w2 ⟨rfl, s2, hs2, h2, hg2⟩
  clear hS
  have hv2 := hv.gb hg2 (by omega)
  have hc2 := hc1.gb hg2 (by omega)
  have hJ3 := hJ2.keep (w' := w2) (ok' := (w0.heap.size ≤ ·)) (fun b hb hlt => ⟨hb, hg2.block b hlt (fun e => by injection e with e; have : w0.heap.size ≤ b := hb; omega)⟩) hg2.size
  have hgC := gb_trans hgB hg2
  obtain ⟨c0, _, f0, _⟩ := h2.cells
  rw [HS1.out] at hs2
  by_cases h0 : s2.size = 0
  · have hn : Jq.skip r = [] := by
      rw [← hs2]
      exact List.eq_nil_of_length_eq_zero (by rw [numsOf_length]; exact h0)
    have hRes : RES = .ok (y, []) := by rw [HR.out, if_pos hn]
    have he : s2 = { data := #[] } := by
      have e := strOf_numsOf s2
      rw [hs2, hn] at e
      exact e.symm
    have HE := Lib.hid (val_out (z0 := .int .i64 y.kind) (z1 := .bool y.bool) (z2 := .int .i64 y.int) (z3 := .string (strOf y.text)) (z4 := .slice A1 y.names.length cap1) (z5 := .slice A2 y.list.length cap2) hRes hJ3 (hs2.trans hn) h2 hgC hsz hWle hRlt)
    have HZ := Lib.hid (hc2.put6 (a := .int .i64 y.kind) (b := .bool y.bool) (c := .int .i64 y.int) (d := .string (strOf y.text)) (e := .slice A1 y.names.length cap1) (f := .slice A2 y.list.length cap2))
    obtain ⟨⟨b0, b1, b2, b3, b4, b5⟩, g0, g1, g2, g3, g4, g5⟩ := hc2.six
    obtain ⟨⟨v0, v1, v2, v3, v4, v5⟩, _⟩ := hv2.six
    rw [he] at c0
    clear hRes hn he h0 hs2 h2 hg2 hWle hRlt hR1 hsz ew0 hv hv2 hc1 hc2 hJ2 hJ3 hgB hgC HR HS1
    go_wp2
    refine bodyPost_ret (v := .agg #[.int .i64 y.kind, .bool y.bool, .int .i64 y.int, .string (strOf y.text), .slice A1 y.names.length cap1, .slice A2 y.list.length cap2]) ?_ rfl ?_
    · have hz := HZ.out
      unfold put6 at hz
      generalize World.setCell (World.setCell (World.setCell (World.setCell (World.setCell (World.setCell _ _ _) _ _) _ _) _ _) _ _) _ _ = w9 at hz ⊢
      obtain ⟨⟨z0, z1, z2, z3, z4, z5⟩, _⟩ := hz.six
      simp [results, Tryz.results74, go_sem, z0, z1, z2, z3, z4, z5]
    · exact HE.out
  · have hn : ¬ Jq.skip r = [] := fun hn => h0 (by rw [← numsOf_length, hs2, hn]; rfl)
    have hRes : Hid (RES = .error 51) := by unfold Hid; rw [HR.out, if_neg hn]
    have he : s2.toList.isEmpty = false := by
      rw [ByteArray.toList_eq]
      cases hh : s2.data.toList with
      | nil => exact absurd (by have := congrArg List.length hh; rw [Array.length_toList] at this; exact this) h0
      | cons a r => rfl
    have he2 : ¬ (s2.toList = []) := fun e => by rw [e] at he; cases he
    clear hn h0 hs2 h2 hg2 hv hv2 hc1 hc2 hJ2 hJ3 hgB HR HS1 hWle hRlt hR1 hsz ew0
    go_wp2
    exact ⟨rfl, Ends.err hRes.out hgC⟩
end Go.Proofs.YthklgpflaghojaaGreatDoor

/-
  The closure that Parse defers.
-/
namespace Go.Proofs.YthklgpflaghojaaGreatDoor
open Go.RowKit

theorem catch_idle (p q : Addr) (w : World) :
    CallsD Tryz.prog 73 #[.pointer (some p), .pointer (some q)] .returning w fun e u' w' => e = .returned (.tuple #[]) ∧ u' = .returning ∧ w' = w := by
  refine callsD_of_wpS Tryz.func73 rfl fun c₀ cs hu => ?_
  apply wpS_seq
  apply wpS_region
  simp [wpOpsS, go_sem, recoverD, hu, Tryz.ntmps73, Exit.thenS]
  apply wpS_seq
  apply wpS_region
  simp [wpOpsS, go_sem, Exit.thenS, Array.replicate]
  refine wpS_cond (t := false) (by simp [Act.eval]) ?_
  simp only [Bool.false_eq_true, if_false]
  refine wpS_of_wp (wp_skip ?_)
  cases c₀
  simp_all [bodyPostS, results, Tryz.results73]
theorem catch_world {p q : Nat} {n : Nat} {x0 x1 x2 x3 x4 x5 y0 : Value} {w w3 : World} (hp : Lies w p 26 [x0, x1, x2, x3, x4, x5]) (hq : Lies w q 30 [y0]) (hpq : p ≠ q)
    (h : w3 = (put6 w p (.int .i64 0) (.bool false) (.int .i64 0) (.string { data := #[] }) (.slice none 0 0) (.slice none 0 0)).setCell ⟨q, 0, none⟩ (.int .i64 (n : Int)) ∨ w3 = put6 (w.setCell ⟨q, 0, none⟩ (.int .i64 (n : Int))) p (.int .i64 0) (.bool false) (.int .i64 0) (.string { data := #[] }) (.slice none 0 0) (.slice none 0 0)) :
    w3.heap.size = w.heap.size ∧ Below (min p q) w w3 ∧ Lies w3 p 26 zero6 ∧ Lies w3 q 30 [.int .i64 (n : Int)] := by
  have e1 : min p q ≤ p := Nat.min_le_left _ _
  have e2 : min p q ≤ q := Nat.min_le_right _ _
  rcases h with rfl | rfl
  · refine ⟨by simp [World.setCell], ((((((((Below.refl _ _).setCell e1 _).setCell e1 _).setCell e1 _).setCell e1 _).setCell e1 _).setCell e1 _).setCell e2 _), (hp.put6).gb (gb_set _ _ _ _) hpq, ?_⟩
    have : Lies (put6 w p (.int .i64 0) (.bool false) (.int .i64 0) (.string { data := #[] }) (.slice none 0 0) (.slice none 0 0)) q 30 [y0] := hq.gb gb_put6 hpq.symm
    exact this.put 0 _
  · refine ⟨by simp [World.setCell], ((((((((Below.refl _ _).setCell e2 _).setCell e1 _).setCell e1 _).setCell e1 _).setCell e1 _).setCell e1 _).setCell e1 _), (hp.gb (gb_set _ _ _ _) hpq).put6, ?_⟩
    exact (show Lies (w.setCell ⟨q, 0, none⟩ (.int .i64 (n : Int))) q 30 [.int .i64 (n : Int)] from hq.put 0 _).gb gb_put6 hpq.symm
set_option maxRecDepth 100000 in
set_option maxHeartbeats 1000000 in
theorem catch_panicking (p q : Nat) (n : Nat) (x0 x1 x2 x3 x4 x5 y0 : Value) (older : List PanicEntry) (w : World) (hp : Lies w p 26 [x0, x1, x2, x3, x4, x5]) (hq : Lies w q 30 [y0]) (hpq : p ≠ q) :
    CallsD Tryz.prog 73 #[.pointer (some ⟨p, 0, none⟩), .pointer (some ⟨q, 0, none⟩)] (.panicking ({ v := .iface 30 (.int .i64 (n : Int)), recovered := false } :: older)) w fun e u' w' =>
      e = .returned (.tuple #[]) ∧ u' = .panicking ({ v := .iface 30 (.int .i64 (n : Int)), recovered := true } :: older) ∧ w'.heap.size = w.heap.size ∧ Below (min p q) w w' ∧ Lies w' p 26 zero6 ∧ Lies w' q 30 [.int .i64 (n : Int)] := by
  refine callsD_of_wpS Tryz.func73 rfl fun c₀ cs hu => ?_
  apply wpS_seq
  apply wpS_region
  simp [wpOpsS, go_sem, recoverD, hu, Tryz.ntmps73, Exit.thenS]
  apply wpS_seq
  apply wpS_region
  simp [wpOpsS, go_sem, Exit.thenS, Array.replicate]
  refine wpS_cond (t := true) (by simp [Act.eval]) ?_
  simp only [if_true]
  obtain ⟨⟨b0, b1, b2, b3, b4, b5⟩, g0, g1, g2, g3, g4, g5⟩ := hp.six
  have c0 := hq.cell 0
  have f0 := hq.free 0
  have hqp : ¬ q = p := fun e => hpq e.symm
  have HE : Hid (∀ w3, (w3 = (put6 w p (.int .i64 0) (.bool false) (.int .i64 0) (.string { data := #[] }) (.slice none 0 0) (.slice none 0 0)).setCell ⟨q, 0, none⟩ (.int .i64 (n : Int)) ∨ w3 = put6 (w.setCell ⟨q, 0, none⟩ (.int .i64 (n : Int))) p (.int .i64 0) (.bool false) (.int .i64 0) (.string { data := #[] }) (.slice none 0 0) (.slice none 0 0)) → w3.drew.heap.size = w.heap.size ∧ Below (min p q) w w3.drew ∧ Lies w3.drew p 26 zero6 ∧ Lies w3.drew q 30 [.int .i64 (n : Int)]) := fun w3 h => by
    obtain ⟨k1, k2, k3⟩ := catch_world hp hq hpq h
    exact ⟨k1, k2.drew, k3⟩
  have hta : ∀ w, (Instr.typeAssert (.iface 30 (.int .i64 (n : Int))) 20 30 false).run Tryz.prog w = .ok (.int .i64 (n : Int)) w := fun w => by
    kernel_rfl
  clear hp hq
  refine wpS_of_wp ?_
  go_region_law (fail)
  all_goals (cases c₀; simp_all only [bodyPostS])
  all_goals (refine ⟨trivial, _, rfl, .tuple #[], by simp [results, Tryz.results73, go_sem], rfl, rfl, ?_⟩; refine HE.out _ ?_; first | exact .inl rfl | exact .inr rfl)
end Go.Proofs.YthklgpflaghojaaGreatDoor

/-
  Parse.
-/
namespace Go.Proofs.YthklgpflaghojaaGreatDoor
open Go.RowKit

/-- How Parse ends. -/
def ParsedAs (w : World) (res : Jq.R Jq.J) (e : Ending) (w' : World) : Prop := Below w.heap.size w w' ∧ match res with
  | .ok (v, _) => ∃ u, e = .returned (.tuple #[u, .int .i64 0]) ∧ IsJ w' (w.heap.size ≤ ·) u v
  | .error m => e = .returned (.tuple #[jv 0 false 0 ByteArray.empty nilS nilS, .int .i64 (m : Int)])
def laid3 (s : ByteArray) (w : World) : World := (((w.alloc (.cells #[.int .i64 0, .bool false, .int .i64 0, .string { data := #[] }, .slice none 0 0, .slice none 0 0] 26)).alloc (.cells #[.int .i64 0] 30)).alloc (.cells #[.string s, .int .i64 0] 106))
set_option maxRecDepth 100000 in
set_option maxHeartbeats 2000000 in
theorem parse_any (s : ByteArray) (hs : s.size ≤ 4096) (w : World) (hH : Held w) :
    Calls Tryz.prog 54 #[.string s] w (ParsedAs w (wholeP (numsOf s))) := by
  have hmf : ∀ (fn : Fn) (first cap : Array Value) (w : World), (Instr.makeFunc fn first cap).run Tryz.prog w = .ok (.func fn first cap) w := fun _ _ _ _ => rfl
  have hd : decide ((4096 : Int) < (s.size : Int)) = false := decide_eq_false (by omega)
  have hb0 : Below w.heap.size w (laid3 s w) := (((Below.refl _ _).alloc (Nat.le_refl _) _).alloc (by simp) _).alloc (by simp; omega) _
  have hRd : Rd w (w.heap.size + 1 + 1) s 0 (laid3 s w) := ⟨hH, hb0, by omega, Lies.new_ (cs := [.string s, .int .i64 0]) (by simp), hs, by omega⟩
  have hp : Lies (laid3 s w) w.heap.size 26 zero6 := ((Lies.new_ (cs := zero6) rfl).alloc _).alloc _
  have hq : Lies (laid3 s w) (w.heap.size + 1) 30 [.int .i64 0] := (Lies.new_ (cs := [.int .i64 0]) (by simp)).alloc _
  have hW := whole_any w (w.heap.size + 1 + 1) s (laid3 s w) hRd
  have hsz : (laid3 s w).heap.size = w.heap.size + 3 := by simp [laid3]
  obtain ⟨RES, eRES⟩ : ∃ RES, wholeP (numsOf s) = RES := ⟨_, rfl⟩
  rw [eRES] at hW ⊢
  clear eRES hRd
  have HB0 := Lib.hid hb0
  have HP := Lib.hid hp
  have HQ := Lib.hid hq
  have HSZ := Lib.hid hsz
  clear hb0 hp hq hsz
  unfold laid3 at hW
  go_enter_defers Tryz.func54, Tryz.ntmps54
  go_wp2_with fail
  refine hW.mono ?_
  intro e w1 hh
  clear hW
  have hb0 := HB0.out
  have hp := HP.out
  have hq := HQ.out
  have hsz := HSZ.out
  clear HB0 HP HQ HSZ
  have hpq : w.heap.size ≠ w.heap.size + 1 := by omega
  rcases Ends.cases hh with ⟨y, r, v, s1, hres, rfl, hJ, hs1, h1, hg1⟩ | ⟨m, hres, rfl, hg1⟩
  · have hg1 : (laid3 s w).grownBy w1 (some (w.heap.size + 1 + 1)) := hg1
    have hp1 := hp.gb hg1 (by omega)
    have hq1 := hq.gb hg1 (by omega)
    obtain ⟨A1, cap1, A2, cap2, rfl⟩ := IsJ.form hJ
    have hb1 : Below w.heap.size w w1 := hb0.trans (gb_down hg1 (by omega) (by omega))
    have hz : Lies ((put6 w1 w.heap.size (.int .i64 y.kind) (.bool y.bool) (.int .i64 y.int) (.string (strOf y.text)) (.slice A1 y.names.length cap1) (.slice A2 y.list.length cap2)).setCell ⟨w.heap.size + 1, 0, none⟩ (.int .i64 0)) w.heap.size 26 [.int .i64 y.kind, .bool y.bool, .int .i64 y.int, .string (strOf y.text), .slice A1 y.names.length cap1, .slice A2 y.list.length cap2] := (hp1.put6).gb (gb_set _ _ _ _) hpq
    have hy : Lies ((put6 w1 w.heap.size (.int .i64 y.kind) (.bool y.bool) (.int .i64 y.int) (.string (strOf y.text)) (.slice A1 y.names.length cap1) (.slice A2 y.list.length cap2)).setCell ⟨w.heap.size + 1, 0, none⟩ (.int .i64 0)) (w.heap.size + 1) 30 [.int .i64 0] := (show Lies (put6 w1 w.heap.size (.int .i64 y.kind) (.bool y.bool) (.int .i64 y.int) (.string (strOf y.text)) (.slice A1 y.names.length cap1) (.slice A2 y.list.length cap2)) (w.heap.size + 1) 30 [.int .i64 0] from hq1.gb gb_put6 hpq.symm).put 0 _
    have HZ := Lib.hid hz
    have HY := Lib.hid hy
    have HE : Hid (ParsedAs w RES (.returned (.tuple #[jv y.kind y.bool y.int (strOf y.text) (.slice A1 y.names.length cap1) (.slice A2 y.list.length cap2), .int .i64 0])) ((put6 w1 w.heap.size (.int .i64 y.kind) (.bool y.bool) (.int .i64 y.int) (.string (strOf y.text)) (.slice A1 y.names.length cap1) (.slice A2 y.list.length cap2)).setCell ⟨w.heap.size + 1, 0, none⟩ (.int .i64 0))) := by
      refine ⟨(hb1.trans (gb_down gb_put6 hb1.size (Nat.le_refl _))).setCell (by show w.heap.size ≤ w.heap.size + 1; omega) _, ?_⟩
      rw [hres]
      exact ⟨_, rfl, (((hJ.from (C := w.heap.size + 2) (by show w.heap.size + 2 ≤ (laid3 s w).heap.size; omega)).put6 (by omega)).keep (ok' := (w.heap.size ≤ ·)) (fun b hb _ => ⟨Nat.le_trans (Nat.le_add_right _ _) hb, Below.heap_setCell _ _ _ _ (by have : w.heap.size + 2 ≤ b := hb; show b ≠ w.heap.size + 1; omega)⟩) (by simp [World.setCell]))⟩
    obtain ⟨⟨b0, b1, b2, b3, b4, b5⟩, g0, g1, g2, g3, g4, g5⟩ := hp1.six
    have c0 := hq1.cell 0
    have f0 := hq1.free 0
    clear hz hy hb1 hh hres hs1 h1 hp hq hJ hd hs hsz hp1 hq1 hb0 hg1
    go_wp2
    refine leaves_cons (f := 73) (args := #[.pointer (some ⟨w.heap.size, 0, none⟩), .pointer (some ⟨w.heap.size + 1, 0, none⟩)]) (by simp) (by simp [go_sem]) ?_
    refine (catch_idle ⟨w.heap.size, 0, none⟩ ⟨w.heap.size + 1, 0, none⟩ _).mono ?_
    rintro e u' w2 ⟨rfl, rfl, hw2⟩
    have hz := HZ.out
    have hy := HY.out
    have he := HE.out
    unfold put6 at hz hy he
    rw [← hw2] at hz hy he
    have HE2 := Lib.hid he
    obtain ⟨⟨z0, z1, z2, z3, z4, z5⟩, _⟩ := hz.six
    have y0 := hy.cell 0
    clear hw2 hz hy he HZ HY HE b0 b1 b2 b3 b4 b5 g0 g1 g2 g3 g4 g5 c0 f0
    simp [Leaves, settle, results, Tryz.results54, go_sem, z0, z1, z2, z3, z4, z5, y0]
    exact HE2.out
  · have hg1 : (laid3 s w).grownBy w1 (some (w.heap.size + 1 + 1)) := hg1
    have hp1 := hp.gb hg1 (by omega)
    have hq1 := hq.gb hg1 (by omega)
    have hb1 : Below w.heap.size w w1 := hb0.trans (gb_down hg1 (by omega) (by omega))
    refine leaves_cons (f := 73) (args := #[.pointer (some ⟨w.heap.size, 0, none⟩), .pointer (some ⟨w.heap.size + 1, 0, none⟩)]) (by simp) (by simp [go_sem]) ?_
    refine (catch_panicking w.heap.size (w.heap.size + 1) m _ _ _ _ _ _ _ [] w1 hp1 hq1 hpq).mono ?_
    rintro e u' w2 ⟨rfl, rfl, hz, hb, hp2, hq2⟩
    obtain ⟨⟨z0, z1, z2, z3, z4, z5⟩, _⟩ := hp2.six
    have y0 := hq2.cell 0
    have HE : Hid (ParsedAs w RES (.returned (.tuple #[jv 0 false 0 ByteArray.empty nilS nilS, .int .i64 (m : Int)])) w2) := by
      refine ⟨hb1.trans (hb.mono (by omega)), ?_⟩
      rw [hres]
    clear hh hp hq hp1 hq1 hp2 hq2 hz hb hb0 hb1 hg1 hres
    simp [Leaves, settle, results, Tryz.results54, go_sem, z0, z1, z2, z3, z4, z5, y0]
    exact HE.out
end Go.Proofs.YthklgpflaghojaaGreatDoor

/-
  Parse of a text that is too long; Parse and the plain reading.
-/
namespace Go.Proofs.YthklgpflaghojaaGreatDoor
open Go.RowKit

theorem parse_whole {S : List Nat} (h : S.length ≤ 4096) : Jq.parse S = match wholeP S with | .error e => .error e | .ok (v, _) => .ok v := by
  rw [Jq.parse, if_neg (by omega), wholeP]
  cases Jq.value 16 S with
  | error e => rfl
  | ok p =>
    obtain ⟨v, r⟩ := p
    simp only
    split <;> rfl
set_option maxRecDepth 100000 in
set_option maxHeartbeats 1000000 in
theorem parse_long (s : ByteArray) (hs : 4096 < s.size) (w : World) :
    Calls Tryz.prog 54 #[.string s] w fun e w' => e = .returned (.tuple #[jv 0 false 0 ByteArray.empty nilS nilS, .int .i64 50]) ∧ Below w.heap.size w w' := by
  have hd : decide ((4096 : Int) < (s.size : Int)) = true := decide_eq_true (by omega)
  have HB : Hid (∀ a b, Below w.heap.size w ((w.alloc a).alloc b)) := fun a b => ((Below.refl _ _).alloc (Nat.le_refl _) _).alloc (by simp) _
  clear hs
  go_enter_defers Tryz.func54, Tryz.ntmps54
  go_wp2
  simp [bodyPostD, Leaves, results, Tryz.results54, go_sem]
  exact ⟨rfl, HB.out _ _⟩
end Go.Proofs.YthklgpflaghojaaGreatDoor
