/-
  The program's GetBound.
-/
import Derived.Test.YtkjofadabaecfaaLGet
namespace Go.Proofs.Ytkjofadabaecfaa
open Go.RowKit

section
variable {w w' : World} {g : Nat} {ty : TypeId} {a b c d x0 x1 x2 x3 : Value}
abbrev put4 (w : World) (g : Nat) (a b c d : Value) : World := (((w.setCell ⟨g, 0, none⟩ a).setCell ⟨g, 1, none⟩ b).setCell ⟨g, 2, none⟩ c).setCell ⟨g, 3, none⟩ d
theorem Lies.put4 (h : Lies w g ty [x0, x1, x2, x3]) : Lies (put4 w g a b c d) g ty [a, b, c, d] := by
  have := (((h.put 0 a).put 1 b).put 2 c).put 3 d
  simpa using this
theorem Lies.four (h : Lies w g ty [a, b, c, d]) : (w.cell? ⟨g, 0, none⟩ = some a ∧ w.cell? ⟨g, 1, none⟩ = some b ∧ w.cell? ⟨g, 2, none⟩ = some c ∧ w.cell? ⟨g, 3, none⟩ = some d) ∧ (w.frozen? ⟨g, 0, none⟩ = false ∧ w.frozen? ⟨g, 1, none⟩ = false ∧ w.frozen? ⟨g, 2, none⟩ = false ∧ w.frozen? ⟨g, 3, none⟩ = false) :=
  ⟨⟨h.cell 0, h.cell 1, h.cell 2, h.cell 3⟩, h.free 0, h.free 1, h.free 2, h.free 3⟩
theorem below_put4 {w0 : World} {B : Nat} (hb : Below B w0 w) (hg : B ≤ g) : Below B w0 (Go.Proofs.Ytkjofadabaecfaa.put4 w g a b c d) := (((hb.setCell hg _).setCell hg _).setCell hg _).setCell hg _
end
/-- What came of a bind, as a value. -/
abbrev boundV (n c : Int) (s t : ByteArray) : Value := .agg #[.int .i64 n, .int .i64 c, .string s, .string t]
/-- How its reading ends. -/
def BoundEnd (S : List Nat) (w : World) (e : Ending) (w' : World) : Prop := Below w.heap.size w w' ∧
  ((∃ (n c : Int) (q r : List Nat), Bq.boundP n c q r = some S ∧ ((∀ x ∈ q, x < 256) ∧ ∀ x ∈ r, x < 256) ∧ e = .returned (.tuple #[boundV n c (strOf q) (strOf r), .int .i64 0])) ∨
   ((∀ n c q r, Bq.boundP n c q r ≠ some S) ∧ e = .returned (.tuple #[boundV 0 0 { data := #[] } { data := #[] }, .int .i64 70])))

set_option maxHeartbeats 1000000 in
set_option maxRecDepth 100000 in
theorem getBound_any (S : List Nat) (A : Option Addr) (c : Nat) (w : World) (hS : ArgIs w A c S) :
    Calls Try.prog 17 #[.slice A S.length c] w (BoundEnd S w) := by
  obtain ⟨R, eR⟩ : ∃ R, w.heap.size = R := ⟨_, rfl⟩
  have HL0 : Hid (∀ W0, w.alloc (.cells #[.int .i64 0, .int .i64 0, .string ByteArray.empty, .string ByteArray.empty] 34) = W0 → Below w.heap.size w W0 ∧ Lies W0 R 34 [.int .i64 0, .int .i64 0, .string ByteArray.empty, .string ByteArray.empty]) := by
    intro W0 h
    subst h
    exact ⟨(Below.refl _ _).alloc (Nat.le_refl _) _, Lies.new_ eR.symm⟩
  go_enter Try.func17, Try.ntmps17
  go_upto_region 1 with (fail)
  generalize hW0 : World.alloc w _ = W0
  obtain ⟨hb0, hR⟩ := HL0.out _ hW0
  have hwR : w.heap.size ≤ R := Nat.le_of_eq eR
  have HS := Lib.hid (hS.on hb0)
  have HB0 := Lib.hid hb0
  have HR := Lib.hid hR
  have hRlt : R < W0.heap.size := hR.lt
  clear hb0 hR hW0 HL0 eR hS
  have hO := ofBound_any W0
  go_wp2_with fail
  refine hO.mono ?_
  rintro e w1 ⟨rfl, hw1⟩
  subst hw1
  clear hO
  have hbk : Below W0.heap.size W0 (kindW Bq.boundK W0) := (Below.refl _ _).alloc (Nat.le_refl _) _
  have hRd := read_any (k := Bq.boundK) (.inr rfl) S A c _ (HS.out.on hbk)
  have HBK := Lib.hid hbk
  clear hbk
  go_wp2_with fail
  refine hRd.mono ?_
  rintro e w2 ⟨hb2, ⟨n, p, q, r, A1, A2, A3, c1, c2, c3, hput, rfl, hp, hq, hr⟩ | ⟨hno, rfl⟩⟩
  rotate_left
  · have hb02 : Below W0.heap.size W0 w2 := below_more HBK.out hb2
    have hno' : ∀ n c q r, Bq.boundP n c q r ≠ some S := fun n c q r h => hno n _ q r (Bq.boundP_ok h).2
    clear hRd
    have hN := number_any [] none 0 (w2.alloc (.cells #[nilS, nilS, nilS] 50)) ⟨Nat.le_refl _, by omega, (fun x h => nomatch h), fun h => absurd h (Nat.lt_irrefl _)⟩
    have HBA : Hid (Below W0.heap.size W0 (w2.alloc (.cells #[nilS, nilS, nilS] 50))) := below_alloc hb02 _
    rw [show (([] : List Nat).length) = 0 from rfl, show numberP [] = (0, false) from rfl] at hN
    clear hb02 hb2 hno
    go_wp2_with fail
    refine hN.mono ?_
    rintro e W9 ⟨rfl, hb9⟩
    have HBW9 := Lib.hid (below_more HBA.out hb9)
    clear hN hb9
    go_upto_region 4 with (fail)
    have hRR := HR.out.below HBW9.out hRlt
    have HE : Hid (BoundEnd S w (.returned (.tuple #[boundV 0 0 { data := #[] } { data := #[] }, .int .i64 70])) (put4 W9 R (.int .i64 0) (.int .i64 0) (.string { data := #[] }) (.string { data := #[] }))) := ⟨below_put4 (below_more HB0.out HBW9.out) hwR, .inr ⟨hno', rfl⟩⟩
    have HZ := Lib.hid (Lies.put4 (a := .int .i64 0) (b := .int .i64 0) (c := .string { data := #[] }) (d := .string { data := #[] }) hRR)
    obtain ⟨⟨y0, y1, y2, y3⟩, f0, f1, f2, f3⟩ := hRR.four
    clear hRR hno'
    go_wp2
    refine bodyPost_ret (v := .tuple #[boundV 0 0 { data := #[] } { data := #[] }, .int .i64 70]) ?_ rfl ?_
    · have hz := HZ.out
      unfold put4 at hz
      generalize World.setCell (World.setCell (World.setCell (World.setCell W9 _ _) _ _) _ _) _ _ = w9 at hz ⊢
      obtain ⟨⟨x0, x1, x2, x3⟩, _⟩ := hz.four
      simp [results, Try.results17, go_sem, x0, x1, x2, x3]
    · exact HE.out
  obtain ⟨W3, eW3⟩ : ∃ W3, W3 = w2.alloc (.cells #[.slice A1 p.length c1, .slice A2 q.length c2, .slice A3 r.length c3] 50) := ⟨_, rfl⟩
  have hb3 : Below w2.heap.size w2 W3 := by rw [eW3]; exact (Below.refl _ _).alloc (Nat.le_refl _) _
  have hL3 : Lies W3 w2.heap.size 50 [.slice A1 p.length c1, .slice A2 q.length c2, .slice A3 r.length c3] := by rw [eW3]; exact Lies.new_ rfl
  have hN := number_any p A1 c1 W3 (hp.on hb3)
  have HQ3 := Lib.hid (hq.on hb3)
  have HR3 := Lib.hid (hr.on hb3)
  have HL3 := Lib.hid hL3
  have HBW3 := Lib.hid (below_more HBK.out (below_more hb2 hb3))
  have HPUT := Lib.hid hput
  have H256 := Lib.hid (And.intro hq.2.2.1 hr.2.2.1)
  obtain ⟨⟨x0, _, _⟩, _⟩ := hL3.three
  have HW3 := Lib.hid eW3
  rw [eW3] at hN x0
  obtain ⟨m, ok, hnp⟩ : ∃ m ok, numberP p = (m, ok) := ⟨_, _, rfl⟩
  rw [hnp] at hN
  have HNP := Lib.hid hnp
  clear hRd hb2 hp hq hr hput hb3 hL3 eW3 hnp
  go_wp2_with fail
  refine hN.mono ?_
  rw [← HW3.out]
  rintro e W4 ⟨rfl, hb4⟩
  clear hN x0
  have HBW4 := Lib.hid (below_more HBW3.out hb4)
  cases ok
  · have hno' : ∀ n c q r, Bq.boundP n c q r ≠ some S := fun n' c' q' r' h => by
      obtain ⟨h1, h2⟩ := Bq.boundP_ok h
      have h3 := (Bq.put_inj HPUT.out h2).2.2.1
      have h4 := Bq.number_whole h1
      rw [← h3, HNP.out] at h4
      simp at h4
    clear hb4
    go_upto_region 4 with (fail)
    have hRR := HR.out.below HBW4.out hRlt
    have HE : Hid (BoundEnd S w (.returned (.tuple #[boundV 0 0 { data := #[] } { data := #[] }, .int .i64 70])) (put4 W4 R (.int .i64 0) (.int .i64 0) (.string { data := #[] }) (.string { data := #[] }))) := ⟨below_put4 (below_more HB0.out HBW4.out) hwR, .inr ⟨hno', rfl⟩⟩
    have HZ := Lib.hid (Lies.put4 (a := .int .i64 0) (b := .int .i64 0) (c := .string { data := #[] }) (d := .string { data := #[] }) hRR)
    obtain ⟨⟨y0, y1, y2, y3⟩, f0, f1, f2, f3⟩ := hRR.four
    clear hRR hno'
    go_wp2
    refine bodyPost_ret (v := .tuple #[boundV 0 0 { data := #[] } { data := #[] }, .int .i64 70]) ?_ rfl ?_
    · have hz := HZ.out
      unfold put4 at hz
      generalize World.setCell (World.setCell (World.setCell (World.setCell W4 _ _) _ _) _ _) _ _ = w9 at hz ⊢
      obtain ⟨⟨x0, x1, x2, x3⟩, _⟩ := hz.four
      simp [results, Try.results17, go_sem, x0, x1, x2, x3]
    · exact HE.out
  have hc2 := conv_str (HQ3.out.on hb4)
  have hc3 := conv_str (HR3.out.on hb4)
  obtain ⟨⟨z0, z1, z2⟩, _⟩ := (HL3.out.below hb4 HL3.out.lt).three
  have hRR := HR.out.below HBW4.out hRlt
  have HE : Hid (BoundEnd S w (.returned (.tuple #[boundV n m (strOf q) (strOf r), .int .i64 0])) (put4 W4 R (.int .i64 n) (.int .i64 m) (.string (strOf q)) (.string (strOf r)))) := ⟨below_put4 (below_more HB0.out HBW4.out) hwR, .inl ⟨n, m, q, r, by
    obtain ⟨h1, h2⟩ := Bq.number_yes HNP.out
    unfold Bq.boundP
    rw [h1, if_neg h2]
    exact HPUT.out, H256.out, rfl⟩⟩
  have HZ := Lib.hid (Lies.put4 (a := .int .i64 n) (b := .int .i64 m) (c := .string (strOf q)) (d := .string (strOf r)) hRR)
  obtain ⟨⟨y0, y1, y2, y3⟩, f0, f1, f2, f3⟩ := hRR.four
  clear hRR hb4
  go_wp2
  refine bodyPost_ret (v := .tuple #[boundV n m (strOf q) (strOf r), .int .i64 0]) ?_ rfl ?_
  · have hz := HZ.out
    unfold put4 at hz
    generalize World.setCell (World.setCell (World.setCell (World.setCell W4 _ _) _ _) _ _) _ _ = w9 at hz ⊢
    obtain ⟨⟨x0, x1, x2, x3⟩, _⟩ := hz.four
    simp [results, Try.results17, go_sem, x0, x1, x2, x3]
  · exact HE.out
end Go.Proofs.Ytkjofadabaecfaa
