/-
  The document's Decode.
-/
import Derived.Test.YtkjofadabaecfaaTRRead
namespace Go.Proofs.Ytkjofadabaecfaa
open Go.RowKit

/-- How Decode ends. -/
def DecEnd (res : Except Nat Bq.T) (w : World) (e : Ending) (w' : World) : Prop := Below w.heap.size w w' ∧ match res with
  | .ok t => ∃ A1 c1 A2 c2, e = .returned (.tuple #[tv t.tag (.slice A1 t.bytes.length c1) (.slice A2 t.list.length c2), .int .i64 0]) ∧ IsT w' (w.heap.size ≤ ·) (tv t.tag (.slice A1 t.bytes.length c1) (.slice A2 t.list.length c2)) t
  | .error n => 0 < n ∧ e = .returned (.tuple #[tv 0 nilS nilS, .int .i64 (n : Int)])
section
variable {res : Except Nat Bq.T} {w w' wr : World} {e : Ending}
theorem DecEnd.cases (h : DecEnd res w e w') :
    (∃ t A1 c1 A2 c2, res = .ok t ∧ e = .returned (.tuple #[tv t.tag (.slice A1 t.bytes.length c1) (.slice A2 t.list.length c2), .int .i64 0]) ∧ IsT w' (w.heap.size ≤ ·) (tv t.tag (.slice A1 t.bytes.length c1) (.slice A2 t.list.length c2)) t ∧ Below w.heap.size w w') ∨
    (∃ n, res = .error n ∧ 0 < n ∧ e = .returned (.tuple #[tv 0 nilS nilS, .int .i64 (n : Int)]) ∧ Below w.heap.size w w') := by
  obtain ⟨hb, h⟩ := h
  cases hr : res with
  | ok t =>
    rw [hr] at h
    obtain ⟨A1, c1, A2, c2, h1, h2⟩ := h
    exact .inl ⟨t, A1, c1, A2, c2, rfl, h1, h2, hb⟩
  | error n =>
    rw [hr] at h
    exact .inr ⟨n, rfl, h.1, h.2, hb⟩
theorem dec_no {n : Nat} {i : Int} {a b c : Value} (h : res = .error n) (hi : i = (n : Int)) (hn : 0 < n) (hb : Below w.heap.size w wr) : DecEnd res w (.returned (.tuple #[tv 0 nilS nilS, .int .i64 i])) (put3 wr w.heap.size a b c) := by
  subst hi; rw [h]; exact ⟨below_put3 hb (Nat.le_refl _), hn, rfl⟩
theorem dec_yes {t : Bq.T} {C : Nat} {A1 A2 : Option Addr} {c1 c2 : Nat} {a b c : Value} (h : res = .ok t) (hJ : IsT wr (C ≤ ·) (tv t.tag (.slice A1 t.bytes.length c1) (.slice A2 t.list.length c2)) t) (hC : w.heap.size < C) (hb : Below w.heap.size w wr) :
    DecEnd res w (.returned (.tuple #[tv t.tag (.slice A1 t.bytes.length c1) (.slice A2 t.list.length c2), .int .i64 0])) (put3 wr w.heap.size a b c) := by
  rw [h]; exact ⟨below_put3 hb (Nat.le_refl _), A1, c1, A2, c2, rfl, (hJ.put3 hC).from (Nat.le_of_lt hC)⟩
end

set_option maxHeartbeats 1000000 in
set_option maxRecDepth 100000 in
theorem refDecode_any (q : List Nat) (A : Option Addr) (c : Nat) (w : World) (hq : ArgIs w A c q) :
    Calls Try.prog 42 #[.slice A q.length c] w (DecEnd (Bq.decode q) w) := by
  obtain ⟨RES, eRES⟩ : ∃ RES, Bq.decode q = RES := ⟨_, rfl⟩
  rw [eRES]
  obtain ⟨W0, eW0⟩ : ∃ W0, W0 = w.alloc (.cells zero3.toArray 60) := ⟨_, rfl⟩
  have hb0 : Below w.heap.size w W0 := by rw [eW0]; exact (Below.refl _ _).alloc (Nat.le_refl _) _
  have hl0 : Lies W0 w.heap.size 60 zero3 := by rw [eW0]; exact Lies.new_ rfl
  have hR := refRead_all 16 (Nat.le_refl _) q A c W0 (hq.on hb0)
  rw [show ((16 - 16 : Nat) : Int) = 0 from rfl, eW0] at hR
  obtain ⟨N, eN⟩ : ∃ N, q.length = N := ⟨_, rfl⟩
  unfold Bq.decode at eRES
  rw [eN] at eRES hR ⊢
  have HRES := Lib.hid eRES
  have HW0 := Lib.hid eW0
  have HB0 := Lib.hid hb0
  have HL0 := Lib.hid hl0
  clear eRES eN eW0 hb0 hl0 hq
  go_enter Try.func42, Try.ntmps42
  go_wp2_with fail
  refine hR.mono ?_
  intro e w1 hh
  rw [← HW0.out] at hh
  clear hR
  rcases hh.cases with ⟨t, m, A1, c1, A2, c2, hr, rfl, hJ, hb1⟩ | ⟨m, hr, hm, rfl, hb1⟩
  rotate_left
  · have hd : ((m : Int) != 0) = true := by rw [bne_iff_ne]; omega
    have hl1 : ∀ o, Lies (w1.alloc o) w.heap.size 60 zero3 := fun o => (HL0.out.below hb1 HL0.out.lt).alloc o
    have hbw : ∀ o, Below w.heap.size w (w1.alloc o) := fun o => below_alloc (below_more HB0.out hb1) o
    have hRR : RES = .error m := by rw [← HRES.out, hr]
    have HL1 := Lib.hid hl1
    have HBW := Lib.hid hbw
    have HRR := Lib.hid hRR
    have HM := Lib.hid hm
    have hlt : w.heap.size < w1.heap.size := (HL0.out.below hb1 HL0.out.lt).lt
    clear hh hr hb1 hl1 hbw hRR hm
    repeat ((fail_if_success (with_reducible show wpList _ _ _ (⟨some 13, _, _, _, _, _⟩ :: _) _ _)); first | go_values | go_skip | go_guarded | go_step | go_upon | go_back | go_simp)
    generalize hW2 : World.alloc w1 _ = W2
    have hl2 : Lies W2 w.heap.size 60 zero3 := by rw [← hW2]; exact HL1.out _
    have hb2 : Below w.heap.size w W2 := by rw [← hW2]; exact HBW.out _
    have HE : Hid (DecEnd RES w (.returned (.tuple #[tv 0 nilS nilS, .int .i64 m])) (put3 W2 w.heap.size (.int .u8 0) nilS nilS)) := dec_no (n := m) HRR.out rfl HM.out hb2
    have HZ := Lib.hid (Lies.put3 (a := .int .u8 0) (b := nilS) (c := nilS) hl2)
    obtain ⟨⟨z0, z1, z2⟩, f0, f1, f2⟩ := hl2.three
    clear hW2 hl2 hb2
    go_wp2
    refine bodyPost_ret (v := .tuple #[tv 0 nilS nilS, .int .i64 m]) ?_ rfl ?_
    · have hz := HZ.out
      unfold put3 at hz
      generalize World.setCell (World.setCell (World.setCell W2 _ _) _ _) _ _ = w9 at hz ⊢
      obtain ⟨⟨z0, z1, z2⟩, _⟩ := hz.three
      simp [results, Try.results42, go_sem, z0, z1, z2]
    · exact HE.out
  have hl1 := HL0.out.below hb1 HL0.out.lt
  have HBW := Lib.hid (below_more HB0.out hb1)
  have HJ := Lib.hid hJ
  have HL1 := Lib.hid hl1
  have hlt : w.heap.size < w1.heap.size := hl1.lt
  have hRR : RES = if m < N then .error 60 else .ok t := by rw [← HRES.out, hr]
  have HRR := Lib.hid hRR
  clear hh hr hb1 hl1 hJ hRR
  repeat ((fail_if_success (with_reducible show wpList _ _ _ (⟨some 13, _, _, _, _, _⟩ :: _) _ _)); first | go_values | go_skip | go_guarded | go_step | go_upon | go_back | go_simp)
  generalize hW2 : World.alloc w1 _ = W2
  have hl2 : Lies W2 w.heap.size 60 zero3 := by rw [← hW2]; exact HL1.out.alloc _
  have hv2 : Lies W2 w1.heap.size 60 [.int .u8 (t.tag : Int), .slice A1 t.bytes.length c1, .slice A2 t.list.length c2] := by rw [← hW2]; exact Lies.new_ rfl
  have hb2 : Below w.heap.size w W2 := by rw [← hW2]; exact below_alloc HBW.out _
  have hJ2 := HJ.out.on (w' := W2) (by rw [← hW2]; exact (Below.refl _ _).alloc (Nat.le_refl _) _)
  obtain ⟨⟨z0, z1, z2⟩, f0, f1, f2⟩ := hl2.three
  obtain ⟨⟨y0, y1, y2⟩, _⟩ := hv2.three
  by_cases hmN : m < N
  · have HE : Hid (DecEnd RES w (.returned (.tuple #[tv 0 nilS nilS, .int .i64 60])) (put3 W2 w.heap.size (.int .u8 0) nilS nilS)) := dec_no (n := 60) (by rw [HRR.out, if_pos hmN]) rfl (by decide) hb2
    have HZ := Lib.hid (Lies.put3 (a := .int .u8 0) (b := nilS) (c := nilS) hl2)
    clear hW2 hl2 hb2 hv2 hJ2
    go_wp2
    refine bodyPost_ret (v := .tuple #[tv 0 nilS nilS, .int .i64 60]) ?_ rfl ?_
    · have hz := HZ.out
      unfold put3 at hz
      generalize World.setCell (World.setCell (World.setCell W2 _ _) _ _) _ _ = w9 at hz ⊢
      obtain ⟨⟨z0, z1, z2⟩, _⟩ := hz.three
      simp [results, Try.results42, go_sem, z0, z1, z2]
    · exact HE.out
  · have HE : Hid (DecEnd RES w (.returned (.tuple #[tv t.tag (.slice A1 t.bytes.length c1) (.slice A2 t.list.length c2), .int .i64 0])) (put3 W2 w.heap.size (.int .u8 (t.tag : Int)) (.slice A1 t.bytes.length c1) (.slice A2 t.list.length c2))) := dec_yes (by rw [HRR.out, if_neg hmN]) hJ2 HL0.out.lt hb2
    have HZ := Lib.hid (Lies.put3 (a := .int .u8 (t.tag : Int)) (b := .slice A1 t.bytes.length c1) (c := .slice A2 t.list.length c2) hl2)
    clear hW2 hl2 hb2 hv2 hJ2
    go_wp2
    refine bodyPost_ret (v := .tuple #[tv t.tag (.slice A1 t.bytes.length c1) (.slice A2 t.list.length c2), .int .i64 0]) ?_ rfl ?_
    · have hz := HZ.out
      unfold put3 at hz
      generalize World.setCell (World.setCell (World.setCell W2 _ _) _ _) _ _ = w9 at hz ⊢
      obtain ⟨⟨z0, z1, z2⟩, _⟩ := hz.three
      simp [results, Try.results42, go_sem, z0, z1, z2]
    · exact HE.out
end Go.Proofs.Ytkjofadabaecfaa
