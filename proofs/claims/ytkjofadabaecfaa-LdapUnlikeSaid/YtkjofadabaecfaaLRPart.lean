/-
  The document's part and whole: a message put together byte by byte.
-/
import Derived.Test.YtkjofadabaecfaaLKind
import Derived.Test.YtkjofadabaecfaaTRWhole
namespace Go.Proofs.Ytkjofadabaecfaa
open Go.RowKit

/-- Bytes in a row of the call's own. -/
def OwnEnd (q : List Nat) (w : World) (e : Ending) (w' : World) : Prop :=
  ∃ A c, e = .returned (.slice A q.length c) ∧ w'.ownsRow w.heap.size 5 1 (.slice A q.length c) q.length (u8s q) ∧ (∀ x ∈ q, x < 256) ∧ Below w.heap.size w w'
theorem part_lt {t : Nat} {q : List Nat} (ht : t < 256) (hq : ∀ x ∈ q, x < 256) (hl : q.length ≤ 65535) : ∀ x ∈ Bq.part t q, x < 256 := by
  intro x hx
  unfold Bq.part at hx
  rcases List.mem_cons.1 hx with rfl | hx
  · exact ht
  rcases List.mem_append.1 hx with hx | hx
  · exact size_lt hl x hx
  · exact hq x hx

set_option maxHeartbeats 1000000 in
set_option maxRecDepth 100000 in
theorem part_any (t : Nat) (q : List Nat) (A : Option Addr) (c : Nat) (w : World) (ht : t < 256) (hq : ArgIs w A c q) (hl : q.length ≤ 65535) :
    Calls Try.prog 23 #[.int .u8 (t : Int), .slice A q.length c] w (OwnEnd (Bq.part t q) w) := by
  obtain ⟨N, eN⟩ : ∃ N, q.length = N := ⟨_, rfl⟩
  obtain ⟨W0, eW0⟩ : ∃ W0, W0 = w.alloc (.cells #[.int .u8 (t : Int)] 5) := ⟨_, rfl⟩
  have hb0 : Below w.heap.size w W0 := by rw [eW0]; exact (Below.refl _ _).alloc (Nat.le_refl _) _
  have hown0 : W0.ownsRow w.heap.size 5 1 (.slice (some ⟨w.heap.size, 0, none⟩) 1 1) 1 (u8s [t]) := by rw [eW0]; exact own_new1 rfl (Nat.le_refl _)
  have hS := refSize_any q.length hl W0
  have HL := Lib.hid (part_lt ht hq.2.2.1 hl)
  have HQ := Lib.hid hq
  have HN := Lib.hid eN
  rw [eN] at hS hl ⊢
  have HS0 := Lib.hid (Bq.size_len N)
  rw [eW0] at hS
  have HW0 := Lib.hid eW0
  have HB0 := Lib.hid hb0
  have HO0 := Lib.hid hown0
  clear eN hq eW0 hb0 hown0
  go_enter Try.func23, Try.ntmps23
  go_wp2_with fail
  refine hS.mono ?_
  rw [← HW0.out]
  rintro e w1 ⟨A1, c1, rfl, hq1, hb1⟩
  clear hS
  have hown1 := own_below HO0.out hb1
  have hbw := below_more HB0.out hb1
  have hsz : w.heap.size ≤ w1.heap.size := hbw.size
  clear hb1
  repeat ((fail_if_success (with_reducible show wpList _ _ _ (⟨some 11, _, _, _, _, _⟩ :: _) _ _)); first | go_values | go_skip | go_guarded | go_step | go_upon | go_back | go_simp)
  with_reducible refine append_arg rfl (.tmp 7) (.tmp 10) ?s0 w.heap.size _ 1 (u8s [t]) A1 c1 (Bq.size N) hown1 hq1 ?s1 ?s2 ?s3 hsz ?_
  case s0 => rfl
  case s1 => rfl
  case s2 => rfl
  case s3 => have := HS0.out; omega
  intro v2 w2 hown2 hgr2
  have hbw2 := hbw.grown hgr2 hsz (fun b e => (hown1.lt b e).1)
  have hsz2 : w.heap.size ≤ w2.heap.size := hbw2.size
  obtain ⟨A2, c2, rfl⟩ := own_slice hown2
  have hq2 := HQ.out.on hbw2
  clear hown1 hq1 hbw hsz hgr2
  go_frame
  repeat ((fail_if_success (with_reducible show wpList _ _ _ (⟨some 14, _, _, _, _, _⟩ :: _) _ _)); first | go_values | go_skip | go_guarded | go_step | go_upon | go_back | go_simp)
  with_reducible refine append_arg rfl (.tmp 12) (.tmp 13) ?s0 w.heap.size _ (1 + (Bq.size N).length) (u8s [t] ++ u8s (Bq.size N)) A c q hown2 hq2 ?s1 ?s2 ?s3 hsz2 ?_
  case s0 => rfl
  case s1 => rfl
  case s2 => exact congrArg (fun n => Value.slice A n c) HN.out.symm
  case s3 => have := HS0.out; have := HN.out; omega
  intro v3 w3 hown3 hgr3
  have hbw3 := hbw2.grown hgr3 hsz2 (fun b e => (hown2.lt b e).1)
  have hlen : 1 + (Bq.size N).length + q.length = (Bq.part t q).length := by simp [Bq.part, HN.out]; omega
  have hcs : u8s [t] ++ u8s (Bq.size N) ++ u8s q = u8s (Bq.part t q) := by
    rw [← u8s_append, ← u8s_append]
    simp [Bq.part, HN.out]
  rw [hlen, hcs] at hown3
  obtain ⟨A3, c3, rfl⟩ := own_slice hown3
  have HE : Hid (OwnEnd (Bq.part t q) w (.returned (.slice A3 (Bq.part t q).length c3)) w3) := ⟨A3, c3, rfl, hown3, HL.out, hbw3⟩
  clear hown2 hown3 hgr3 hbw2 hbw3 hq2 hsz2 hlen hcs
  go_frame
  go_wp2
  go_ret
  exact HE.out
end Go.Proofs.Ytkjofadabaecfaa
