/-
  The contract of the law package's alive: it answers true.
-/
import Derived.Test.YtejjjhehfpeilaaBDec
namespace Go.Proofs.Ytejjjhehfpeilaa
open Go.RowKit

theorem conv_str {w : World} {A : Option Addr} {c : Nat} {q : List Nat} (h : ArgIs w A c q) : (convert 22 9 (.slice A q.length c)).run Try.prog w = .ok (.string (strOf q)) w :=
  conv_any h _ 5 _ Try.underlying22 Try.underlying5 Try.underlying9
theorem fo_is : B64.IsDec (numsOf { data := #[90, 109, 56] }) (some [102, 111]) := ⟨by decide, by decide +kernel⟩
theorem fo_str : strOf [102, 111] = { data := #[102, 111] } := rfl
theorem two_str : strOf (B64.enc [251, 255]) = { data := #[45, 95, 56] } := by
  have : B64.enc [251, 255] = [45, 95, 56] := by decide +kernel
  rw [this]; rfl

/-- Decode at a text whose reading is known. -/
theorem decode_of (s : ByteArray) (q : List Nat) (hq : B64.IsDec (numsOf s) (some q)) (w : World) (hs : s.size ≤ 281474976710656) :
    Calls Try.prog 13 #[.string s] w fun e w' => ∃ A c, e = .returned (.tuple #[.slice A q.length c, .bool true]) ∧ ArgIs w' A c q ∧ Below w.heap.size w w' := by
  refine (decode_any s w hs).mono fun e w' h => ?_
  rcases h with ⟨q', A, c, h1, he, ha, hb⟩ | ⟨h1, _⟩
  · have e2 := B64.isDec_one hq h1
    injection e2 with e2
    subst e2
    exact ⟨A, c, he, ha, hb⟩
  · have := B64.isDec_one hq h1
    cases this

set_option maxHeartbeats 400000 in
set_option maxRecDepth 100000 in
theorem alive_any (w : World) :
    Calls Try.prog 10 #[] w fun e w' => e = .returned (.bool true) ∧ Below w.heap.size w w' := by
  go_enter Try.func10, Try.ntmps10
  go_wp2_with fail
  refine (decode_of _ _ fo_is _ (by decide)).mono ?_
  rintro e w1 ⟨A, c, rfl, ha, hb1⟩
  have hconv := conv_str ha
  rw [fo_str] at hconv
  rw [show [102, 111].length = 2 from rfl] at hconv ⊢
  clear ha
  go_wp2_with fail
  refine (encode_any [251, 255] _ _ _ (arg_new rfl 5 (0, 0) [251, 255] 2 (by decide) (by decide) (by decide)) (by decide)).mono ?_
  rintro e w2 ⟨rfl, hb2⟩
  rw [two_str]
  have hb3 : Below w.heap.size w w2 := (hb1.alloc hb1.size _).trans (hb2.mono (by have := hb1.size; simp; omega))
  clear hb1 hb2 hconv
  go_wp2
  go_ret
  exact ⟨rfl, hb3⟩
end Go.Proofs.Ytejjjhehfpeilaa
