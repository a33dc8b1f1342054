/-
  The law package's alive: it answers true.
-/
import Derived.Test.YthklgpflaghojaaYRot
import Derived.Test.YthklgpflaghojaaYRight
import Derived.Test.YthklgpflaghojaaYFind
import Derived.Lib.SlBytesConst
namespace Go.Proofs.Ythklgpflaghojaa
open Go.RowKit

abbrev keyA : ByteArray := { data := #[97] }
theorem Kq.al_fits : Kq.Fits [] ⟨keyA, [120], 5, 0⟩ := ⟨fun ⟨_, h, _⟩ => (nomatch h), by unfold Kq.IdOk; decide, by decide, fun _ h => (nomatch h)⟩
theorem Kq.al_rotate : Kq.rotate [] ⟨keyA, [120], 5, 0⟩ 10 = .ok [⟨keyA, [120], 5, 15⟩] := Kq.rot_ok ⟨by decide, by decide, Kq.al_fits⟩ (by decide)
theorem Kq.al_signs : Kq.signing [⟨keyA, [120], 5, 15⟩] 5 = some ⟨keyA, [120], 5, 15⟩ := by
  unfold Kq.signing
  rw [List.reverse_singleton, List.find?_cons_of_pos (by decide)]
theorem Kq.al_late : Kq.signing [⟨keyA, [120], 5, 15⟩] 15 = none := by
  unfold Kq.signing
  rw [List.reverse_singleton, List.find?_cons_of_neg (by decide), List.find?_nil]
theorem Kq.al_right : Kq.Right [⟨keyA, [120], 5, 15⟩] := Kq.rotate_right Kq.right_nil Kq.al_rotate

theorem alK_is {w : World} {g : Nat} (h : ArgIs w (some ⟨g, 0, none⟩) 1 [120]) : IsK w (fun _ => True) (kv keyA (.slice (some ⟨g, 0, none⟩) 1 1) 5 0) ⟨keyA, [120], 5, 0⟩ :=
  ⟨_, 1, rfl, argIs_slIs h, ⟨by decide, by decide⟩, ⟨by decide, by decide⟩, by decide, by decide⟩
/-- What alive's calls answer. -/
theorem al_rot {ok : Nat → Prop} {w w' : World} {e : Ending} (h : RotEnd ok (Kq.rotate [] ⟨keyA, [120], 5, 0⟩ 10) w e w') : Below w.heap.size w w' ∧ ∃ A c, e = .returned (.tuple #[.slice A 1 c, .int .i64 0]) ∧ KsIs w' ok (.slice A 1 c) [⟨keyA, [120], 5, 15⟩] := by
  rw [Kq.al_rotate] at h
  exact h
theorem al_sig {ok : Nat → Prop} {w w' : World} {e : Ending} (h : FoundEnd ok (Kq.signing [⟨keyA, [120], 5, 15⟩] 5) w e w') : Below w.heap.size w w' ∧ ∃ A c, e = .returned (.tuple #[kv keyA (.slice A 1 c) 5 15, .bool true]) := by
  rw [Kq.al_signs] at h
  obtain ⟨hb, A, c, he, _⟩ := h
  exact ⟨hb, A, c, he⟩
theorem al_sig2 {ok : Nat → Prop} {w w' : World} {e : Ending} (h : FoundEnd ok (Kq.signing [⟨keyA, [120], 5, 15⟩] 15) w e w') : Below w.heap.size w w' ∧ e = .returned (.tuple #[kv ByteArray.empty nilS 0 0, .bool false]) := by
  rw [Kq.al_late] at h
  exact h
theorem al_cells {w : World} {ok : Nat → Prop} {A : Option Addr} {c : Nat} (h : KsIs w ok (.slice A 1 c) [⟨keyA, [120], 5, 15⟩]) : ∃ b off, A = some ⟨b, off, none⟩ ∧ w.cell? ⟨b, off + 3, none⟩ = some (.int .i64 15) := by
  obtain ⟨b, off, x, A1, c1, e, _, _, hx, _, _, _, _, s3⟩ := h.elem (i := 0) (by simp)
  simp at hx
  subst hx
  refine ⟨b, off, e, ?_⟩
  simpa using s3

set_option maxHeartbeats 1000000 in
set_option maxRecDepth 100000 in
theorem alive9_any (w : World) :
    Calls Try.prog 11 #[] w (IsTrue w) := by
  have kc := Lib.hid (fun (w : World) (C : Array Value) (n c : Nat) => Lib.run_convert_bytes_const (P := Try.prog) w 25 5 C n c Try.underlying25 Try.underlying5)
  have k1 := kc.out w #[.int .u8 120] 1 1
  obtain ⟨W1, eW1⟩ : ∃ W1, W1 = w.alloc (.cells #[.int .u8 120] 5 (1, 2)) := ⟨_, rfl⟩
  have hb1 : Below w.heap.size w W1 := by rw [eW1]; exact below_new _ _
  have hA1 : ArgIs W1 (some ⟨w.heap.size, 0, none⟩) 1 [120] := by rw [eW1]; exact arg_new rfl 5 (1, 2) [120] 1 (by decide) (by decide) (by decide)
  have hR := rotate_any [] none 0 0 _ _ 10 W1 (KsIs.nil W1 (fun _ => True)) rfl (alK_is hA1) ⟨by decide, by decide⟩
  have HB1 := Lib.hid hb1
  rw [eW1] at hR
  have HW1 := Lib.hid eW1
  clear hb1 hA1 eW1
  go_enter Try.func11, Try.ntmps11
  go_wp2_with fail
  refine hR.mono ?_
  intro e w2 hh
  rw [← HW1.out] at hh
  clear hR k1
  obtain ⟨hb2, A2, c2, rfl, hK2⟩ := al_rot hh
  have HB2 := Lib.hid (below_more HB1.out hb2)
  have HK2 := Lib.hid hK2
  have hS := signing_any _ A2 c2 1 5 w2 hK2 rfl
  clear hh hb2 hK2
  go_wp2_with fail
  refine hS.mono ?_
  intro e w3 hh
  clear hS
  obtain ⟨hb3, A3, c3, rfl⟩ := al_sig hh
  obtain ⟨W4, eW4⟩ : ∃ W4, W4 = w3.alloc (.cells #[.string keyA, .slice A3 1 c3, .int .i64 5, .int .i64 15] 27) := ⟨_, rfl⟩
  have hb4 : Below w3.heap.size w3 W4 := by rw [eW4]; exact below_new _ _
  have hl4 : Lies W4 w3.heap.size 27 [.string keyA, .slice A3 1 c3, .int .i64 5, .int .i64 15] := by rw [eW4]; exact Lies.new_ rfl
  have hK4 := (HK2.out.on hb3).on hb4
  have hS := signing_any _ A2 c2 1 15 W4 hK4 rfl
  have HB4 := Lib.hid (below_more (below_more HB2.out hb3) hb4)
  have HL4 := Lib.hid hl4
  have HK4 := Lib.hid hK4
  rw [eW4] at hS
  have HW4 := Lib.hid eW4
  clear hh hb3 hb4 hl4 hK4 eW4
  go_wp2_with fail
  refine hS.mono ?_
  intro e w5 hh
  rw [← HW4.out] at hh
  clear hS
  obtain ⟨hb5, rfl⟩ := al_sig2 hh
  obtain ⟨W6, eW6⟩ : ∃ W6, W6 = w5.alloc (.cells #[.string ByteArray.empty, nilS, .int .i64 0, .int .i64 0] 27) := ⟨_, rfl⟩
  have hb6 : Below w5.heap.size w5 W6 := by rw [eW6]; exact below_new _ _
  have hl6 := (HL4.out.below hb5 HL4.out.lt).below hb6 (HL4.out.below hb5 HL4.out.lt).lt
  have hK6 := (HK4.out.on hb5).on hb6
  have hR := right_any _ A2 c2 1 W6 hK6 rfl
  obtain ⟨b, off, rfl, s3⟩ := al_cells hK6
  obtain ⟨⟨y0, _⟩, _⟩ := hl6.four
  have HB6 := Lib.hid (below_more (below_more HB4.out hb5) hb6)
  rw [eW6] at hR s3 y0
  have HW6 := Lib.hid eW6
  have hka : (keyA.toList == [97]) = true := by rw [ByteArray.toList_eq]; decide
  clear hh hb5 hb6 hl6 hK6 eW6
  go_wp2_with fail
  refine hR.mono ?_
  intro e w7 hh
  rw [← HW6.out] at hh
  clear hR
  obtain ⟨rfl, hb7⟩ := hh.is_yes Kq.al_right
  have HE : Hid (IsTrue w (.returned (.bool true)) w7) := ⟨rfl, below_more HB6.out hb7⟩
  clear hh hb7 s3 y0 hka
  go_wp2
  go_ret
  exact HE.out
end Go.Proofs.Ythklgpflaghojaa
