/-
  The contract of the document's Write: a rune's bytes.
-/
import Derived.Test.YtndkangfnojpoaaGreatDoorJFour
namespace Go.Proofs.YtndkangfnojpoaaGreatDoor
open Go.RowKit

/-- Bytes that were made. -/
def BytesEnd (q : List Nat) (w : World) (e : Ending) (w' : World) : Prop := ∃ A c, e = .returned (.slice A q.length c) ∧ ArgIs w' A c q ∧ Below w.heap.size w w'
theorem BytesEnd.new {q : List Nat} {w : World} {fr : Nat × Nat} {t : TypeId} {cs : Array Value} {n : Nat} (hcs : cs = (u8s q).toArray) (hn : n = q.length) (hq : ∀ x ∈ q, x < 256) (hl : q.length ≤ 9223372036854775807) :
    BytesEnd q w (.returned (.slice (some ⟨w.heap.size, 0, none⟩) n n)) (w.alloc (.cells cs t fr)) := by
  subst hcs hn
  exact ⟨_, _, rfl, arg_new rfl t fr q _ hq (Nat.le_refl _) hl, (Below.refl _ _).alloc (Nat.le_refl _) _⟩
theorem rune_lt (r : Nat) (hr : r ≤ 1114111) : ∀ x ∈ Jq.runeBytes r, x < 256 := by
  intro x hx
  unfold Jq.runeBytes at hx
  split at hx
  · simp at hx; omega
  · split at hx
    · simp at hx; omega
    · split at hx
      · simp at hx; omega
      · simp at hx; omega

set_option maxHeartbeats 2000000 in
set_option maxRecDepth 100000 in
theorem writeRune_any (r : Nat) (hr : r ≤ 1114111) (w : World) :
    Calls Tryz.prog 63 #[.int .i64 r] w fun e w' => BytesEnd (Jq.runeBytes r) w e w' := by
  have HL := Lib.hid (rune_lt r hr)
  by_cases h1 : r < 128
  · have HR : Hid (Jq.runeBytes r = [r]) := by unfold Hid Jq.runeBytes; rw [if_pos h1]
    have hd : decide ((r : Int) < 128) = true := decide_eq_true (by omega)
    go_enter Tryz.func63, Tryz.ntmps63
    go_wp2
    go_ret
    exact BytesEnd.new (by rw [HR.out]; simp [u8s]) (by rw [HR.out]; rfl) HL.out (by rw [HR.out]; simp)
  have hd : decide ((r : Int) < 128) = false := decide_eq_false (by omega)
  by_cases h2 : r < 2048
  · have HR : Hid (Jq.runeBytes r = [192 + r / 64, 128 + r % 64]) := by unfold Hid Jq.runeBytes; rw [if_neg h1, if_pos h2]
    have hd2 : decide ((r : Int) < 2048) = true := decide_eq_true (by omega)
    go_enter Tryz.func63, Tryz.ntmps63
    go_wp2
    go_ret
    exact BytesEnd.new (by rw [HR.out]; simp [u8s]) (by rw [HR.out]; rfl) HL.out (by rw [HR.out]; simp)
  have hd2 : decide ((r : Int) < 2048) = false := decide_eq_false (by omega)
  by_cases h3 : r < 65536
  · have HR : Hid (Jq.runeBytes r = [224 + r / 4096, 128 + r / 64 % 64, 128 + r % 64]) := by unfold Hid Jq.runeBytes; rw [if_neg h1, if_neg h2, if_pos h3]
    have hd3 : decide ((r : Int) < 65536) = true := decide_eq_true (by omega)
    go_enter Tryz.func63, Tryz.ntmps63
    go_wp2
    go_ret
    exact BytesEnd.new (by rw [HR.out]; simp [u8s]) (by rw [HR.out]; rfl) HL.out (by rw [HR.out]; simp)
  · have HR : Hid (Jq.runeBytes r = [240 + r / 262144, 128 + r / 4096 % 64, 128 + r / 64 % 64, 128 + r % 64]) := by unfold Hid Jq.runeBytes; rw [if_neg h1, if_neg h2, if_neg h3]
    have hd3 : decide ((r : Int) < 65536) = false := decide_eq_false (by omega)
    go_enter Tryz.func63, Tryz.ntmps63
    go_wp2
    go_ret
    exact BytesEnd.new (by rw [HR.out]; simp [u8s]) (by rw [HR.out]; rfl) HL.out (by rw [HR.out]; simp)
end Go.Proofs.YtndkangfnojpoaaGreatDoor
