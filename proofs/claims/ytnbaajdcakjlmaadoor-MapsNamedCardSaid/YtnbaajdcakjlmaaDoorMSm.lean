/-
  The law package's small: what it says of how many there are.
-/
import Derived.Test.YtnbaajdcakjlmaaDoorQS
namespace Go.Proofs.YtnbaajdcakjlmaaDoor
open Go.RowKit

/-- A bool; if it is true there are not too many. -/
def SmallEnd (x : Jq.J) (w : World) (e : Ending) (w' : World) : Prop := (∃ r : Bool, e = .returned (.bool r) ∧ (r = true → x.list.length ≤ 100 ∧ x.names.length ≤ 100)) ∧ Below w.heap.size w w'
def Small13Ok (x : Jq.J) : Prop := ∀ (ok : Nat → Prop) (v : Value) (d : Nat) (w : World), d ≤ 21 → IsJ w ok v x → Calls Tryd.prog 12 #[v, .int .i64 (d : Int)] w (SmallEnd x w)

set_option maxHeartbeats 4000000 in
set_option maxRecDepth 100000 in
theorem small13_step (x : Jq.J) (ih : ∀ z ∈ x.list, Small13Ok z) : Small13Ok x := by
  intro ok v d w hd hJ
  obtain ⟨nv, lv, rfl, _, _, _, hS, _, hnl, hL⟩ := hJ.parts
  obtain ⟨A0, c0, rfl⟩ := hL.form
  obtain ⟨A9, c9, rfl⟩ := hS.form
  obtain ⟨N, eN⟩ : ∃ N, x.names.length = N := ⟨_, rfl⟩
  obtain ⟨M, eM⟩ : ∃ M, x.list.length = M := ⟨_, rfl⟩
  have HM := Lib.hid eM
  have HN := Lib.hid eN
  have HL := Lib.hid hL
  have HI := Lib.hid ih
  rw [eN, eM]
  rw [eM] at HL
  have HB0 : Hid (∀ o, Below w.heap.size w (w.alloc o)) := fun o => (Below.refl _ _).alloc (Nat.le_refl _) o
  clear eN eM hL hS hnl hJ ih
  by_cases hbig : 20 < d ∨ 100 < M ∨ 100 < N
  · have hdd : decide ((20 : Int) < (d : Int)) = true ∨ (decide ((20 : Int) < (d : Int)) = false ∧ (decide ((100 : Int) < (M : Int)) = true ∨ (decide ((100 : Int) < (M : Int)) = false ∧ decide ((100 : Int) < (N : Int)) = true))) := by
      by_cases h1 : 20 < d
      · exact .inl (decide_eq_true (by omega))
      · refine .inr ⟨decide_eq_false (by omega), ?_⟩
        by_cases h2 : 100 < M
        · exact .inl (decide_eq_true (by omega))
        · exact .inr ⟨decide_eq_false (by omega), decide_eq_true (by omega)⟩
    clear hbig hd
    rcases hdd with d1 | ⟨d1, d2 | ⟨d2, d3⟩⟩
    all_goals
      go_enter Tryd.func12, Tryd.ntmps12
      go_wp2
      go_ret
      exact ⟨⟨_, rfl, fun h => by cases h⟩, HB0.out _⟩
  have d1 : decide ((20 : Int) < (d : Int)) = false := decide_eq_false (by omega)
  have d2 : decide ((100 : Int) < (M : Int)) = false := decide_eq_false (by omega)
  have d3 : decide ((100 : Int) < (N : Int)) = false := decide_eq_false (by omega)
  have hMs : M ≤ 100 := by omega
  have HSZ : Hid (x.list.length ≤ 100 ∧ x.names.length ≤ 100) := ⟨by rw [HM.out]; omega, by rw [HN.out]; omega⟩
  have hd20 : d ≤ 20 := by omega
  clear hbig hd
  go_enter Tryd.func12, Tryd.ntmps12
  go_wp2_with fail
  go_loopw [24] (fun i wr => ∃ k : Nat, i = .int .i64 k ∧ k ≤ M ∧ Below w.heap.size w wr) (fun i _ => M - (intOf i).toNat)
  case atStart => exact ⟨0, rfl, Nat.zero_le _, HB0.out _⟩
  case round =>
    obtain ⟨k, rfl, hk, hb⟩ := hrel
    by_cases hlt : k < M
    · obtain ⟨b, off, y, B1, e1, B2, e2, rfl, hbb, hblt, hx, hJ, s0, s1, s2, s3, s4, s5⟩ := (HL.out.on hb).elem (by rw [HM.out]; exact hlt)
      have hC := HI.out y (List.mem_of_getElem? hx) ok _ (d + 1) _ (by omega) (hJ.on ((Below.refl _ _).alloc (Nat.le_refl _) (.cells #[.int .i64 y.kind, .bool y.bool, .int .i64 y.int, .string (strOf y.text), .slice B1 y.names.length e1, .slice B2 y.list.length e2] 27)))
      rw [show ((d + 1 : Nat) : Int) = (d : Int) + 1 from by omega] at hC
      have hb1 := below_alloc hb (.cells #[.int .i64 y.kind, .bool y.bool, .int .i64 y.int, .string (strOf y.text), .slice B1 y.names.length e1, .slice B2 y.list.length e2] 27)
      clear hx hJ hb
      go_wp2_with fail
      refine hC.mono ?_
      rintro e w2 ⟨⟨r, rfl, _⟩, hb2⟩
      have hb3 := below_more hb1 hb2
      clear hC hb1 hb2 s0 s1 s2 s3 s4 s5
      cases r
      · go_wp2
        go_ret
        exact ⟨⟨_, rfl, fun h => by cases h⟩, hb3⟩
      · go_wp2
        go_roundw
        case rel => exact ⟨k + 1, by go_num, hlt, hb3⟩
        case measure => simp [intOf]; omega
    · obtain rfl : k = M := by omega
      have hd2 : decide ((k : Int) < (k : Int)) = false := by simp
      go_wp2
      go_ret
      exact ⟨⟨_, rfl, fun _ => HSZ.out⟩, hb⟩
theorem small13_any {ok : Nat → Prop} (x : Jq.J) (v : Value) (w : World) (h : IsJ w ok v x) : Calls Tryd.prog 12 #[v, .int .i64 0] w (SmallEnd x w) :=
  J_ind (P := Small13Ok) (fun x ih => small13_step x ih) x ok v 0 w (by omega) h
end Go.Proofs.YtnbaajdcakjlmaaDoor
