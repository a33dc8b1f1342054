/-
  The contract of the law package's alive: it answers true.
-/
import Derived.Test.YtkfhfokeoieajaaDoorSame
import Derived.Lib.SlBytesConst
namespace Go.Proofs.YtkfhfokeoieajaaDoor
open Go.RowKit

theorem abc_cells : (u8s (Sha.sum [97, 98, 99]))[0]? = some (.int .u8 186) ∧ (u8s (Sha.sum [97, 98, 99]))[31]? = some (.int .u8 173) := by
  obtain ⟨h0, h1⟩ := Sha.abc
  constructor
  · simp [u8s, h0]
  · simp [u8s, h1]

/-- Bytes of a block that was just made. -/
theorem arg_lies {w : World} {g : Nat} {t : TypeId} {L : List Nat} {c : Nat} (h : Lies w g t (u8s L)) (hL : ∀ x ∈ L, x < 256) (hc : L.length ≤ c) (hcm : c ≤ 9223372036854775807) : ArgIs w (some ⟨g, 0, none⟩) c L :=
  ⟨hc, hcm, hL, fun _ => ⟨g, 0, rfl, h.lt, by
    have := h.bytes hL 0 L.length
    simpa using this⟩⟩

theorem arg_new {w : World} {g : Nat} (hg : g = w.heap.size) (t : TypeId) (fr : Nat × Nat) (L : List Nat) (c : Nat) (hL : ∀ x ∈ L, x < 256) (hc : L.length ≤ c) (hcm : c ≤ 9223372036854775807) :
    ArgIs (w.alloc (.cells (u8s L).toArray t fr)) (some ⟨g, 0, none⟩) c L :=
  ⟨hc, hcm, hL, fun _ => ⟨g, 0, rfl, by subst hg; simp, fun j x hj => ⟨hL x (List.mem_of_getElem? hj), by
    subst hg
    rw [Nat.zero_add, cell_of_row _ _ _ _ t fr (heap_alloc_new w _)]
    simp [u8s, hj]⟩⟩⟩

set_option maxHeartbeats 400000 in
set_option maxRecDepth 100000 in
theorem alive_any (w : World) (hT : Tab w) :
    Calls Tryd.prog 9 #[] w fun e w' => e = .returned (.bool true) ∧ Below w.heap.size w w' := by
  have hz := zero25
  have kc := fun (w : World) (C : Array Value) (n c : Nat) => Lib.run_convert_bytes_const (P := Tryd.prog) w 22 5 C n c Tryd.underlying22 Tryd.underlying5
  go_enter Tryd.func9, Tryd.ntmps9
  go_wp2_with fail
  have hTa : ∀ o, Tab (w.alloc o) := fun o => hT.below ((Below.refl _ _).alloc (Nat.le_refl _) o) hT.lt
  refine (sum_any [97, 98, 99] _ _ _ (hTa _) (arg_new rfl 5 (3, 4) [97, 98, 99] 3 (by decide) (by decide) (by decide)) (by decide)).mono ?_
  rintro e w1 ⟨rfl, hb1⟩
  have hbel1 : Below w.heap.size w w1 := ((Below.refl _ _).alloc (Nat.le_refl _) _).trans (hb1.mono (by simp))
  have hB1 := hbel1.size
  have hT1 : Tab w1 := hT.below hbel1 hT.lt
  obtain ⟨a0, a31⟩ := abc_cells
  have Hl32 : Hid ((u8s (Sha.sum [97, 98, 99])).length = 32) := by unfold Hid; rw [u8s_length, Sha.sum_length]
  have Hone : Hid ((u8s (Sha.sum [97, 98, 99])).all (·.oneCell') = true) := List.all_eq_true.2 (u8s_one _)
  obtain ⟨D, hDe⟩ : ∃ D, u8s (Sha.sum [97, 98, 99]) = D := ⟨_, rfl⟩
  rw [hDe] at Hl32 Hone a0 a31 ⊢
  clear hDe hb1 hTa kc
  repeat ((fail_if_success (with_reducible show wpList _ _ _ (⟨none, _, _, _, _, _⟩ :: _) _ _)); first | go_values | go_skip | go_guarded | go_step | go_upon | go_back | go_simp)
  with_reducible refine store_lies rfl 25 (.tmp 1) (.tmp 4) rfl w1.heap.size D 25 (z8 32) (Lies.new_ rfl) ?sx ?sy ?si ?sl ?s1 ?_
  case sx => rfl
  case sy => rfl
  case si => (rw [z8_length]; exact info25)
  case sl => rw [Hl32.out, z8_length]
  case s1 => exact Hone.out
  go_frame
  generalize hw2 : World.setRow _ _ _ = w2
  have h2 : Lies w2 w1.heap.size 25 D := by rw [← hw2]; exact Lies.row (cs := z8 32) (Lies.new_ rfl)
  have hbel2 : Below w.heap.size w w2 := by rw [← hw2]; exact below_row (hbel1.alloc hB1 _) hB1
  clear hw2 hz
  have c0 : w2.cell? ⟨w1.heap.size, 0, none⟩ = some (.int .u8 186) := (h2.cell 0).trans a0
  have c31 : w2.cell? ⟨w1.heap.size, 31, none⟩ = some (.int .u8 173) := (h2.cell 31).trans a31
  clear a0 a31
  go_wp2_with fail
  have g1 := (arg_new (w := w2) rfl 5 (0, 0) [1, 2] 2 (by decide) (by decide) (by decide)).alloc (.cells #[.int .u8 1, .int .u8 2] 5)
  have g2 := arg_new (w := w2.alloc (.cells #[.int .u8 1, .int .u8 2] 5)) (g := w2.heap.size + 1) (by simp) 5 (0, 0) [1, 2] 2 (by decide) (by decide) (by decide)
  have hbel3 : Below w.heap.size w ((w2.alloc (.cells #[.int .u8 1, .int .u8 2] 5)).alloc (.cells #[.int .u8 1, .int .u8 2] 5)) := (hbel2.alloc hbel2.size _).alloc (by have := hbel2.size; simp; omega) _
  refine (same_any [1, 2] [1, 2] _ _ 2 2 _ g1 g2).mono ?_
  rintro e w3 ⟨rfl, k, rfl⟩
  clear g1 g2 c0 c31
  go_wp2
  go_ret
  exact ⟨rfl, below_drewN hbel3 k⟩
end Go.Proofs.YtkfhfokeoieajaaDoor
