/-
  The law JwsChallenges.
-/
import Derived.Test.YtgojpcoaahcbeaaGreatDoorWPD
import Derived.Test.YtgojpcoaahcbeaaGreatDoorWRChal
namespace Go.Proofs.YtgojpcoaahcbeaaGreatDoor
open Go.RowKit

set_option maxHeartbeats 4000000 in
set_option maxRecDepth 100000 in
theorem lawChallenges_any (s : ByteArray) (w : World) (hH : Held w) (hT : Tab w) :
    Calls Tryz.prog 8 #[.string s] w (IsTrue w) := by
  have hP := challenge_any s w hT
  have HQ := Lib.hid (fun W => refChallenge_any s W)
  have HH := Lib.hid hH
  have HTt := Lib.hid hT
  have hsh : ∃ (T : ByteArray) (r : Bool), ∀ (W W' : World) (e : Ending), ChalEnd (numsOf s) W e W' → Below W.heap.size W W' ∧ e = .returned (.tuple #[.string T, .bool r]) := by
    by_cases h : Wq.ChalOk (numsOf s)
    · refine ⟨strOf (B64.enc (Sha.sum (numsOf s))), true, fun W W' e hh => ⟨hh.1, ?_⟩⟩
      rcases hh.2 with ⟨_, he⟩ | ⟨hn, _⟩
      · exact he
      · exact absurd h hn
    · refine ⟨ByteArray.empty, false, fun W W' e hh => ⟨hh.1, ?_⟩⟩
      rcases hh.2 with ⟨hn, _⟩ | ⟨_, he⟩
      · exact absurd hn h
      · exact he
  obtain ⟨T, r, hsh⟩ := hsh
  have HSh := Lib.hid hsh
  clear hH hT hsh
  go_enter Tryz.func8, Tryz.ntmps8
  go_wp2_with fail
  refine hP.mono ?_
  intro e w1 hh
  clear hP
  obtain ⟨hb1, rfl⟩ := HSh.out _ _ _ hh
  have hQ := HQ.out w1
  clear hh
  go_wp2_with fail
  refine hQ.mono ?_
  intro e w2 hh
  clear hQ
  obtain ⟨hb2, rfl⟩ := HSh.out _ _ _ hh
  have hb3 := below_more hb1 hb2
  have hA := alive8_any w2 (HH.out.below hb3) (HTt.out.below hb3 HTt.out.lt)
  clear hh hb1 hb2
  go_wp2_with fail
  refine hA.mono ?_
  rintro e w3 ⟨rfl, hb4⟩
  have HE : Hid (IsTrue w (.returned (.bool true)) w3) := ⟨rfl, below_more hb3 hb4⟩
  clear hA hb3 hb4
  go_wp2
  go_ret
  exact HE.out

end Go.Proofs.YtgojpcoaahcbeaaGreatDoor
