/-
  Parse as the laws want it, and the law package's alive.
-/
import Derived.Test.YthhlmalpelgpeaaGreatDoorG20
import Derived.Test.YthhlmalpelgpeaaGreatDoorG19
import Derived.Test.YthhlmalpelgpeaaGreatDoorZZSm
namespace Go.Proofs.YthhlmalpelgpeaaGreatDoor
open Go.RowKit

theorem RowR.short {R S B : Nat} {rs : List Zq.Rl} {lv : Value} {w : World} (h : RowR R S B rs lv w) : ∀ r ∈ rs, r.expr.length ≤ 48 ∧ r.cond.length ≤ 48 := fun r hr => by
  obtain ⟨_, us, hus, _, h4⟩ := h
  obtain ⟨i, hi⟩ := List.getElem?_of_mem hr
  have hlt := (List.getElem?_eq_some_iff.1 hi).1
  exact (h4 i (us[i]'(by omega)) r (List.getElem?_eq_getElem (by omega)) hi).2.2.2
/-- How Parse ends: its rules can be written, and compared. -/
def ParseW (l : List Nat) (w : World) (e : Ending) (w' : World) : Prop :=
  Below w.heap.size w w' ∧ ((∃ rs A c, Zq.parse l = .ok rs ∧ e = .returned (.tuple #[.slice A rs.length c, .int .i64 0]) ∧ RsW w' (w.heap.size ≤ ·) (.slice A rs.length c) rs ∧ rs.length ≤ 16) ∨
    ((∃ er, Zq.parse l = .error er) ∧ ∃ f, f ≠ 0 ∧ e = .returned (.tuple #[.slice none 0 0, .int .i64 f])))
theorem parseW_any (s : ByteArray) (w : World) (hH : HeldZ w) :
    Calls Tryz.prog 14 #[.string s] w (ParseW (numsOf s) w) :=
  (parse_any s w hH).mono fun e w' ⟨hb, h⟩ => ⟨hb, by
    rcases h with ⟨rs, lv, R, S, hp, rfl, hrow, hn⟩ | h
    · obtain ⟨A, c, rfl⟩ := hrow.form
      have hE := hrow.toE (fun r hr => rule_bytes ((parse_ok hp).1 r hr))
      have hE2 : RsE w' (w.heap.size ≤ ·) (.slice A rs.length c) rs := hE.keep (Nat.le_refl _) (fun b hb' _ => ⟨by omega, rfl⟩)
      exact .inl ⟨rs, A, c, hp, rfl, hE2.toW (by omega) (fun r hr => ⟨parse_good hp r hr, by have := (hrow.short r hr).1; omega, by have := (hrow.short r hr).2; omega⟩), hn⟩
    · exact .inr h⟩
def alT : List Nat := [109, 97, 105, 108, 32, 61, 32, 108, 111, 119, 101, 114, 40, 36, 101, 109, 97, 105, 108, 41, 32, 101, 108, 115, 101, 32, 39, 120, 39]
def alR : Zq.Rl := ⟨[109, 97, 105, 108], [⟨3, 0, 0, 0, [101, 109, 97, 105, 108]⟩, ⟨6, 0, 0, 0, []⟩, ⟨1, 0, 0, 0, [120]⟩, ⟨16, 0, 1, 2, []⟩], []⟩
abbrev alS : ByteArray := { data := #[109, 97, 105, 108, 32, 61, 32, 108, 111, 119, 101, 114, 40, 36, 101, 109, 97, 105, 108, 41, 32, 101, 108, 115, 101, 32, 39, 120, 39] }
theorem al_nums : numsOf alS = alT := rfl
theorem al_str : strOf alT = alS := rfl
set_option maxRecDepth 100000 in
theorem al_parse : Zq.parse alT = .ok [alR] := by kernel_rfl
set_option maxRecDepth 100000 in
theorem al_print : Zq.print [alR] = alT := by kernel_rfl
theorem al_name : strOf alR.name = { data := #[109, 97, 105, 108] } := rfl
theorem al_node (w : World) : (binOp .eql 37 (.agg #[.int .i64 16, .int .i64 0, .int .i64 1, .int .i64 2, .string { data := #[] }]) (.agg #[.int .i64 16, .int .i64 0, .int .i64 1, .int .i64 2, .string { data := #[] }])).run Tryz.prog w = .ok (.bool true) w := by kernel_rfl
set_option maxHeartbeats 2000000 in
set_option maxRecDepth 100000 in
theorem alive11_any (w : World) (hH : HeldZ w) : Calls Tryz.prog 9 #[] w fun e w' => e = .returned (.bool true) ∧ Below w.heap.size w w' := by
  have hC := parseW_any alS w hH
  rw [al_nums] at hC
  have HH : Hid (HeldZ w) := hH
  clear hH
  go_enter Tryz.func9, Tryz.ntmps9
  go_wp2_with fail
  refine hC.mono ?_
  rintro e w1 ⟨hb1, ⟨rs, A, c, hp, rfl, hR, hn⟩ | ⟨⟨er, her⟩, _⟩⟩
  case inr => rw [al_parse] at her; cases her
  rw [al_parse] at hp
  injection hp with hp
  subst hp
  have HR := Lib.hid hR
  have HB1 := Lib.hid hb1
  obtain ⟨b, off, r, A1, c1, A2, c2, rfl, _, hblt, hx, hJ, p0, p1, p2⟩ := hR.toE.elem (i := 0) (by decide)
  simp only [List.getElem?_cons_zero, Option.some.injEq] at hx
  subst hx
  obtain ⟨b', off', x, rfl, _, hblt', hx, _, q0, q1, q2, q3, q4⟩ := hJ.2.2.1.elem (i := 3) (by decide)
  have hx' : x = ⟨16, 0, 1, 2, []⟩ := (Option.some.inj hx).symm
  subst hx'
  have hP := printR_any (HH.out.below hb1) hR
  rw [al_print, al_str] at hP
  rw [al_name] at p0
  have s0 : w1.cell? ⟨b, off, none⟩ = some (.string { data := #[109, 97, 105, 108] }) := p0
  have s1 : w1.cell? ⟨b, off + 1, none⟩ = some (.slice (some ⟨b', off', none⟩) 4 c1) := p1
  have t0 : w1.cell? ⟨b', off' + 15, none⟩ = some (.int .i64 16) := q0
  have t1 : w1.cell? ⟨b', off' + 16, none⟩ = some (.int .i64 0) := q1
  have t2 : w1.cell? ⟨b', off' + 17, none⟩ = some (.int .i64 1) := q2
  have t3 : w1.cell? ⟨b', off' + 18, none⟩ = some (.int .i64 2) := q3
  have t4 : w1.cell? ⟨b', off' + 19, none⟩ = some (.string { data := #[] }) := q4
  have hnd := al_node
  have hP : Calls Tryz.prog 10 #[.slice (some ⟨b, off, none⟩) 1 c] w1 (fun e w' => e = .returned (.string alS) ∧ Below w1.heap.size w1 w' ∧ ∀ x ∈ alT, x < 256) := hP
  have HRE : Hid (RsE w1 (w.heap.size ≤ ·) (.slice (some ⟨b, off, none⟩) 1 c) [alR]) := HR.out.toE
  clear hC hn hb1 hR hJ hx hblt hblt' p0 p1 p2 q0 q1 q2 q3 q4 HR
  go_wp2_with fail
  refine hP.mono ?_
  rintro e w2 ⟨rfl, hb2, _⟩
  have HB2 := Lib.hid (below_onZ HB1.out hb2)
  have hS := (sameR_any [alR] [alR] _ _ w2 (HRE.out.more hb2) (HRE.out.more hb2)).mono fun e w' h => h.dec
  rw [decide_eq_true (rfl : [alR] = [alR])] at hS
  clear hP hb2 s0 s1 t0 t1 t2 t3 t4
  go_wp2_with fail
  refine hS.mono ?_
  rintro e w3 ⟨rfl, hb3⟩
  have HE : Hid (Below w.heap.size w w3) := below_onZ HB2.out hb3
  clear hS hb3
  go_wp2
  go_ret
  exact ⟨rfl, HE.out⟩
end Go.Proofs.YthhlmalpelgpeaaGreatDoor
