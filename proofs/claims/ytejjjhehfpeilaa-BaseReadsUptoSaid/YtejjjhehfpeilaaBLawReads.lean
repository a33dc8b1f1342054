/-
  The walk of the law BaseReads.
-/
import Derived.Test.YtejjjhehfpeilaaBRefD
namespace Go.Proofs.Ytejjjhehfpeilaa
open Go.RowKit

set_option maxHeartbeats 400000 in
set_option maxRecDepth 100000 in
theorem lawReads (s : ByteArray) (w : World) (hn : s.size ≤ 1048576) :
    Calls Try.prog 4 #[.string s] w fun e w' => e = .returned (.bool true) ∧ Below w.heap.size w w' := by
  go_enter Try.func4, Try.ntmps4
  go_wp2_with fail
  refine (decode_any s w (by omega)).mono ?_
  intro e w1 h
  rcases h with ⟨q, A, c, hdec, rfl, ha, hb1⟩ | ⟨hdec, rfl, hb1⟩
  · go_wp2_with fail
    refine (refDecode_any s w1 hn).mono ?_
    intro e w2 h
    rcases h with ⟨q2, A2, c2, hdec2, rfl, ha2, hb2⟩ | ⟨hdec2, _⟩
    · have e2 := B64.isDec_one hdec hdec2
      injection e2 with e2
      subst e2
      have hb02 : Below w.heap.size w w2 := hb1.trans (hb2.mono hb1.size)
      have ha1 := ha.below hb2 (Nat.le_refl _)
      clear hdec hdec2 hb1 hb2 ha
      go_wp2_with fail
      refine (alive_any w2).mono ?_
      rintro e w3 ⟨rfl, hb3⟩
      have hb03 : Below w.heap.size w w3 := hb02.trans (hb3.mono hb02.size)
      have hc1 := conv_str (ha1.below hb3 (Nat.le_refl _))
      have hc2 := conv_str (ha2.below hb3 (Nat.le_refl _))
      have hse : ((strOf q).toList == (strOf q).toList) = true := by simp
      obtain ⟨S, eS⟩ : ∃ S, strOf q = S := ⟨_, rfl⟩
      rw [eS] at hc1 hc2 hse
      clear eS hb3 hb02 ha1 ha2
      go_wp2
      go_ret
      exact ⟨rfl, hb03⟩
    · have := B64.isDec_one hdec hdec2
      cases this
  · go_wp2_with fail
    refine (refDecode_any s w1 hn).mono ?_
    intro e w2 h
    rcases h with ⟨q2, A2, c2, hdec2, _⟩ | ⟨_, rfl, hb2⟩
    · have := B64.isDec_one hdec hdec2
      cases this
    · have hb02 : Below w.heap.size w w2 := hb1.trans (hb2.mono hb1.size)
      clear hdec hb1 hb2
      go_wp2_with fail
      refine (alive_any w2).mono ?_
      rintro e w3 ⟨rfl, hb3⟩
      have hb03 : Below w.heap.size w w3 := hb02.trans (hb3.mono hb02.size)
      have hc1 := conv_str (w := w3) (A := none) (c := 0) (q := []) ⟨Nat.le_refl _, by omega, (fun x hx => by cases hx), (fun h => by cases h)⟩
      rw [List.length_nil] at hc1
      have hse : ((strOf []).toList == (strOf []).toList) = true := by simp
      obtain ⟨S, eS⟩ : ∃ S, strOf [] = S := ⟨_, rfl⟩
      rw [eS] at hc1 hse
      clear eS hb3 hb02
      go_wp2
      go_ret
      exact ⟨rfl, hb03⟩
end Go.Proofs.Ytejjjhehfpeilaa
