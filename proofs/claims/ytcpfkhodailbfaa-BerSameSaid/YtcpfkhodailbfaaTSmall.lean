/-
  The law package's small: it answers, whatever it says.
-/
import Derived.Test.YtcpfkhodailbfaaTVal
namespace Go.Proofs.Ytcpfkhodailbfaa
open Go.RowKit

/-- A bool, whatever it says. -/
def AnyBool (w : World) (e : Ending) (w' : World) : Prop := (∃ r : Bool, e = .returned (.bool r)) ∧ Below w.heap.size w w'
def SmallOk (x : Bq.T) : Prop := ∀ (ok : Nat → Prop) (v : Value) (d : Nat) (w : World), d ≤ 41 → IsT w ok v x → Calls Try.prog 15 #[v, .int .i64 (d : Int)] w (AnyBool w)

set_option maxHeartbeats 1000000 in
set_option maxRecDepth 100000 in
theorem small_step (x : Bq.T) (ih : ∀ z ∈ x.list, SmallOk z) : SmallOk x := by
  intro ok v d w hd hJ
  obtain ⟨bv, lst, rfl, hta, hB, hbt, hL⟩ := hJ.parts
  obtain ⟨A0, c0, rfl⟩ := hL.form
  obtain ⟨A9, c9, rfl⟩ := hB.form
  obtain ⟨N, eN⟩ : ∃ N, x.bytes.length = N := ⟨_, rfl⟩
  obtain ⟨M, eM⟩ : ∃ M, x.list.length = M := ⟨_, rfl⟩
  obtain ⟨a, ea⟩ : ∃ a, x.tag = a := ⟨_, rfl⟩
  have HM := Lib.hid eM
  have HL := Lib.hid hL
  have HI := Lib.hid ih
  rw [eN, eM, ea]
  rw [eM] at HL
  have HB0 : Hid (∀ o, Below w.heap.size w (w.alloc o)) := fun o => (Below.refl _ _).alloc (Nat.le_refl _) o
  clear eN eM ea hL hB hbt hJ ih hta
  by_cases hbig : 40 < d ∨ 200 < M ∨ 70000 < N
  · have hdd : decide ((40 : Int) < (d : Int)) = true ∨ (decide ((40 : Int) < (d : Int)) = false ∧ (decide ((200 : Int) < (M : Int)) = true ∨ (decide ((200 : Int) < (M : Int)) = false ∧ decide ((70000 : Int) < (N : Int)) = true))) := by
      by_cases h1 : 40 < d
      · exact .inl (decide_eq_true (by omega))
      · refine .inr ⟨decide_eq_false (by omega), ?_⟩
        by_cases h2 : 200 < M
        · exact .inl (decide_eq_true (by omega))
        · exact .inr ⟨decide_eq_false (by omega), decide_eq_true (by omega)⟩
    clear hbig hd
    rcases hdd with d1 | ⟨d1, d2 | ⟨d2, d3⟩⟩
    all_goals
      go_enter Try.func15, Try.ntmps15
      go_wp2
      go_ret
      exact ⟨⟨_, rfl⟩, HB0.out _⟩
  have d1 : decide ((40 : Int) < (d : Int)) = false := decide_eq_false (by omega)
  have d2 : decide ((200 : Int) < (M : Int)) = false := decide_eq_false (by omega)
  have d3 : decide ((70000 : Int) < (N : Int)) = false := decide_eq_false (by omega)
  have hMs : M ≤ 200 := by omega
  have hd40 : d ≤ 40 := by omega
  clear hbig hd
  go_enter Try.func15, Try.ntmps15
  go_wp2_with fail
  go_loopw [24] (fun i wr => ∃ k : Nat, i = .int .i64 k ∧ k ≤ M ∧ Below w.heap.size w wr) (fun i _ => M - (intOf i).toNat)
  case atStart => exact ⟨0, rfl, Nat.zero_le _, HB0.out _⟩
  case round =>
    obtain ⟨k, rfl, hk, hb⟩ := hrel
    by_cases hlt : k < M
    · obtain ⟨b, off, y, B1, e1, B2, e2, rfl, hbb, hblt, hx, hJ, s0, s1, s2⟩ := (HL.out.on hb).elem (by rw [HM.out]; exact hlt)
      have hC := HI.out y (List.mem_of_getElem? hx) ok _ (d + 1) _ (by omega) (hJ.on ((Below.refl _ _).alloc (Nat.le_refl _) (.cells #[.int .u8 (y.tag : Int), .slice B1 y.bytes.length e1, .slice B2 y.list.length e2] 25)))
      rw [show ((d + 1 : Nat) : Int) = (d : Int) + 1 from by omega] at hC
      have hb1 := below_alloc hb (.cells #[.int .u8 (y.tag : Int), .slice B1 y.bytes.length e1, .slice B2 y.list.length e2] 25)
      clear hx hJ hb
      go_wp2_with fail
      refine hC.mono ?_
      rintro e w1 ⟨⟨r, rfl⟩, hb2⟩
      have hb3 := below_more hb1 hb2
      clear hC hb1 hb2
      cases r
      · go_wp2
        go_ret
        exact ⟨⟨_, rfl⟩, hb3⟩
      · go_wp2
        go_roundw
        case rel => exact ⟨k + 1, by go_num, hlt, hb3⟩
        case measure => simp [intOf]; omega
    · obtain rfl : k = M := by omega
      have hd3 : decide ((k : Int) < (k : Int)) = false := by simp
      go_wp2
      go_ret
      exact ⟨⟨_, rfl⟩, hb⟩
theorem small_any {ok : Nat → Prop} (x : Bq.T) (v : Value) (w : World) (h : IsT w ok v x) : Calls Try.prog 15 #[v, .int .i64 0] w (AnyBool w) :=
  T_ind (P := SmallOk) (fun x ih => small_step x ih) x ok v 0 w (Nat.zero_le _) h
end Go.Proofs.Ytcpfkhodailbfaa
