/-
  The program's GetBind.
-/
import Derived.Test.YtkjofadabaecfaaLRead
namespace Go.Proofs.Ytkjofadabaecfaa
open Go.RowKit

/-- A bind as a value. -/
abbrev bindV (n : Int) (s t : ByteArray) : Value := .agg #[.int .i64 n, .string s, .string t]
/-- How the reading of a bind ends. -/
def BindEnd (S : List Nat) (w : World) (e : Ending) (w' : World) : Prop := Below w.heap.size w w' ∧
  ((∃ (n : Int) (q r : List Nat), Bq.bindP n q r = some S ∧ ((∀ x ∈ q, x < 256) ∧ ∀ x ∈ r, x < 256) ∧ e = .returned (.tuple #[bindV n (strOf q) (strOf r), .int .i64 0])) ∨
   ((∀ n q r, Bq.bindP n q r ≠ some S) ∧ e = .returned (.tuple #[bindV 0 { data := #[] } { data := #[] }, .int .i64 70])))

set_option maxHeartbeats 1000000 in
set_option maxRecDepth 100000 in
theorem getBind_any (S : List Nat) (A : Option Addr) (c : Nat) (w : World) (hS : ArgIs w A c S) :
    Calls Try.prog 12 #[.slice A S.length c] w (BindEnd S w) := by
  obtain ⟨R, eR⟩ : ∃ R, w.heap.size = R := ⟨_, rfl⟩
  have HL0 : Hid (∀ W0, w.alloc (.cells #[.int .i64 0, .string ByteArray.empty, .string ByteArray.empty] 23) = W0 → Below w.heap.size w W0 ∧ Lies W0 R 23 [.int .i64 0, .string ByteArray.empty, .string ByteArray.empty]) := by
    intro W0 h
    subst h
    exact ⟨(Below.refl _ _).alloc (Nat.le_refl _) _, Lies.new_ eR.symm⟩
  go_enter Try.func12, Try.ntmps12
  go_upto_region 1 with (fail)
  generalize hW0 : World.alloc w _ = W0
  obtain ⟨hb0, hR⟩ := HL0.out _ hW0
  have hwR : w.heap.size ≤ R := Nat.le_of_eq eR
  have HS := Lib.hid (hS.on hb0)
  have HB0 := Lib.hid hb0
  have HR := Lib.hid hR
  have hRlt : R < W0.heap.size := hR.lt
  clear hb0 hR hW0 HL0 eR hS
  have hO := ofBind_any W0
  go_wp2_with fail
  refine hO.mono ?_
  rintro e w1 ⟨rfl, hw1⟩
  subst hw1
  clear hO
  have hbk : Below W0.heap.size W0 (kindW Bq.bindK W0) := (Below.refl _ _).alloc (Nat.le_refl _) _
  have hRd := read_any (k := Bq.bindK) (.inl rfl) S A c _ (HS.out.on hbk)
  have HBK := Lib.hid hbk
  clear hbk
  go_wp2_with fail
  refine hRd.mono ?_
  rintro e w2 ⟨hb2, ⟨n, p, q, r, A1, A2, A3, c1, c2, c3, hput, rfl, hp, hq, hr⟩ | ⟨hno, rfl⟩⟩
  rotate_left
  · have hb02 : Below W0.heap.size W0 w2 := below_more HBK.out hb2
    have hno' : ∀ n q r, Bq.bindP n q r ≠ some S := fun n q r => hno n [3] q r
    clear hRd
    go_upto_region 3 with (fail)
    generalize hW9 : World.alloc w2 _ = W9
    have HBW9 : Hid (Below W0.heap.size W0 W9) := by unfold Hid; rw [← hW9]; exact below_more hb02 ((Below.refl _ _).alloc (Nat.le_refl _) _)
    clear hb02 hb2 hW9 hno
    have hRR := HR.out.below HBW9.out hRlt
    have HE : Hid (BindEnd S w (.returned (.tuple #[bindV 0 { data := #[] } { data := #[] }, .int .i64 70])) (put3 W9 R (.int .i64 0) (.string { data := #[] }) (.string { data := #[] }))) := ⟨below_put3 (below_more HB0.out HBW9.out) hwR, .inr ⟨hno', rfl⟩⟩
    have HZ := Lib.hid (Lies.put3 (a := .int .i64 0) (b := .string { data := #[] }) (c := .string { data := #[] }) hRR)
    obtain ⟨⟨y0, y1, y2⟩, f0, f1, f2⟩ := hRR.three
    clear hRR hno'
    go_wp2
    refine bodyPost_ret (v := .tuple #[bindV 0 { data := #[] } { data := #[] }, .int .i64 70]) ?_ rfl ?_
    · have hz := HZ.out
      unfold put3 at hz
      generalize World.setCell (World.setCell (World.setCell W9 _ _) _ _) _ _ = w9 at hz ⊢
      obtain ⟨⟨x0, x1, x2⟩, _⟩ := hz.three
      simp [results, Try.results12, go_sem, x0, x1, x2]
    · exact HE.out
  obtain ⟨W3, eW3⟩ : ∃ W3, W3 = w2.alloc (.cells #[.slice A1 p.length c1, .slice A2 q.length c2, .slice A3 r.length c3] 50) := ⟨_, rfl⟩
  have hb3 : Below w2.heap.size w2 W3 := by rw [eW3]; exact (Below.refl _ _).alloc (Nat.le_refl _) _
  have hL3 : Lies W3 w2.heap.size 50 [.slice A1 p.length c1, .slice A2 q.length c2, .slice A3 r.length c3] := by rw [eW3]; exact Lies.new_ rfl
  obtain ⟨W4, eW4⟩ : ∃ W4, W4 = W3.alloc (.cells #[.int .u8 3] 5) := ⟨_, rfl⟩
  have hb4 : Below W3.heap.size W3 W4 := by rw [eW4]; exact (Below.refl _ _).alloc (Nat.le_refl _) _
  have h3 : ArgIs W4 (some ⟨w2.heap.size + 1, 0, none⟩) 1 [3] := by rw [eW4]; exact arg_made rfl (by rw [eW3]; simp) rfl (by simp) (by simp)
  have hb24 := below_more hb3 hb4
  have hE := bytesEqual_any p [3] A1 (some ⟨w2.heap.size + 1, 0, none⟩) c1 1 W4 (hp.on hb24) h3
  have hc2 := conv_str (hq.on hb24)
  have hc3 := conv_str (hr.on hb24)
  have HL4 := Lib.hid (hL3.below hb4 hL3.lt)
  have HBW4 := Lib.hid (below_more HBK.out (below_more hb2 hb24))
  have HPUT := Lib.hid hput
  have H256 := Lib.hid (And.intro hq.2.2.1 hr.2.2.1)
  obtain ⟨⟨x0, _, _⟩, _⟩ := hL3.three
  rw [eW3] at x0
  have HW4 : Hid (W4 = (w2.alloc (.cells #[.slice A1 p.length c1, .slice A2 q.length c2, .slice A3 r.length c3] 50)).alloc (.cells #[.int .u8 3] 5)) := by unfold Hid; rw [eW4, eW3]
  rw [HW4.out] at hE
  clear hRd hb2 hp hq hr hput hb3 hL3 hb4 h3 hb24 eW3 eW4
  go_wp2_with fail
  refine hE.mono ?_
  rintro e w5 ⟨hw5, hh⟩
  rw [← HW4.out] at hw5
  subst hw5
  clear hE x0
  rcases hh with ⟨hp3, rfl⟩ | ⟨hp3, rfl⟩
  rotate_left
  · have hno' : ∀ n q r, Bq.bindP n q r ≠ some S := fun n' q' r' h => hp3 (Bq.put_inj HPUT.out h).2.2.1
    clear hc2 hc3 hp3
    go_upto_region 3 with (fail)
    have hRR := HR.out.below HBW4.out hRlt
    have HE : Hid (BindEnd S w (.returned (.tuple #[bindV 0 { data := #[] } { data := #[] }, .int .i64 70])) (put3 W4 R (.int .i64 0) (.string { data := #[] }) (.string { data := #[] }))) := ⟨below_put3 (below_more HB0.out HBW4.out) hwR, .inr ⟨hno', rfl⟩⟩
    have HZ := Lib.hid (Lies.put3 (a := .int .i64 0) (b := .string { data := #[] }) (c := .string { data := #[] }) hRR)
    obtain ⟨⟨y0, y1, y2⟩, f0, f1, f2⟩ := hRR.three
    clear hRR hno'
    go_wp2
    refine bodyPost_ret (v := .tuple #[bindV 0 { data := #[] } { data := #[] }, .int .i64 70]) ?_ rfl ?_
    · have hz := HZ.out
      unfold put3 at hz
      generalize World.setCell (World.setCell (World.setCell W4 _ _) _ _) _ _ = w9 at hz ⊢
      obtain ⟨⟨x0, x1, x2⟩, _⟩ := hz.three
      simp [results, Try.results12, go_sem, x0, x1, x2]
    · exact HE.out
  have HP3 := Lib.hid hp3
  obtain ⟨⟨z0, z1, z2⟩, _⟩ := HL4.out.three
  have hRR := HR.out.below HBW4.out hRlt
  have HE : Hid (BindEnd S w (.returned (.tuple #[bindV n (strOf q) (strOf r), .int .i64 0])) (put3 W4 R (.int .i64 n) (.string (strOf q)) (.string (strOf r)))) := ⟨below_put3 (below_more HB0.out HBW4.out) hwR, .inl ⟨n, q, r, by unfold Bq.bindP; rw [← HP3.out]; exact HPUT.out, H256.out, rfl⟩⟩
  have HZ := Lib.hid (Lies.put3 (a := .int .i64 n) (b := .string (strOf q)) (c := .string (strOf r)) hRR)
  obtain ⟨⟨y0, y1, y2⟩, f0, f1, f2⟩ := hRR.three
  clear hRR hp3
  go_wp2
  refine bodyPost_ret (v := .tuple #[bindV n (strOf q) (strOf r), .int .i64 0]) ?_ rfl ?_
  · have hz := HZ.out
    unfold put3 at hz
    generalize World.setCell (World.setCell (World.setCell W4 _ _) _ _) _ _ = w9 at hz ⊢
    obtain ⟨⟨x0, x1, x2⟩, _⟩ := hz.three
    simp [results, Try.results12, go_sem, x0, x1, x2]
  · exact HE.out
end Go.Proofs.Ytkjofadabaecfaa
