/-
  The program's Encode.
-/
import Derived.Test.YtkjofadabaecfaaTPCont
import Derived.Test.YtkjofadabaecfaaTPCheck
namespace Go.Proofs.Ytkjofadabaecfaa
open Go.RowKit

set_option maxHeartbeats 1000000 in
set_option maxRecDepth 100000 in
theorem encode_any {ok : Nat → Prop} (v : Value) (t : Bq.T) (w : World) (hJ : IsT w ok v t) :
    Calls Try.prog 38 #[v] w (EncEnd (Bq.encode t) w) := by
  obtain ⟨A1, c1, A2, c2, rfl⟩ := hJ.form
  obtain ⟨RES, eRES⟩ : ∃ RES, Bq.encode t = RES := ⟨_, rfl⟩
  rw [eRES]
  unfold Bq.encode at eRES
  obtain ⟨F, eF⟩ : ∃ F, Bq.amiss 16 t = F := ⟨_, rfl⟩
  rw [eF] at eRES
  obtain ⟨W0, eW0⟩ : ∃ W0, W0 = w.alloc (.cells #[.int .u8 (t.tag : Int), .slice A1 t.bytes.length c1, .slice A2 t.list.length c2] 60) := ⟨_, rfl⟩
  have hb0 : Below w.heap.size w W0 := by rw [eW0]; exact (Below.refl _ _).alloc (Nat.le_refl _) _
  have HL0 : Hid (Lies W0 w.heap.size 60 [.int .u8 (t.tag : Int), .slice A1 t.bytes.length c1, .slice A2 t.list.length c2]) := by unfold Hid; rw [eW0]; exact Lies.new_ rfl
  have hA := check_all 16 ok _ t W0 0 rfl (hJ.on hb0)
  rw [show ((0 : Nat) : Int) = 0 from rfl, eF, eW0] at hA
  have HJ := Lib.hid ((hJ.keep (w' := w) (ok' := (· < w.heap.size)) (fun b _ hlt => ⟨hlt, rfl⟩) (Nat.le_refl _)).on hb0)
  have HBW := Lib.hid hb0
  have HRES := Lib.hid eRES
  have HE := Lib.hid eW0
  have HF := Lib.hid eF
  have HB256 : Hid ((Bq.cont 16 t).length ≤ 65535 → ∀ x ∈ Bq.enc 16 t, x < 256) := fun h => by
    obtain ⟨_, _, _, hta, _⟩ := hJ.parts
    exact enc_byte hta h (cont_byte 16 _ t hJ h)
  clear hJ eRES eW0 hb0 eF
  go_enter Try.func38, Try.ntmps38
  go_wp2_with fail
  refine hA.mono ?_
  rintro e w1 ⟨rfl, hb1⟩
  rw [← HE.out] at hb1
  clear hA
  by_cases h0 : F = 0
  rotate_left
  · have hd : ((F : Int) != 0) = true := by rw [bne_iff_ne]; omega
    have HQ : Hid (EncEnd RES w (.returned (.tuple #[nilS, .int .i64 (F : Int)])) w1) := ⟨below_more HBW.out hb1, by rw [← HRES.out, if_pos h0]; exact ⟨by omega, rfl⟩⟩
    clear hb1 h0
    go_wp2
    go_ret2
    exact HQ.out
  subst h0
  have hJ1 : IsT w1 (· < w1.heap.size) _ t := (HJ.out.on hb1).keep (fun b _ hlt => ⟨hlt, rfl⟩) (Nat.le_refl _)
  have hW := appEl_step 16 (cont_all 16) w1.heap.size nilS [] _ t w1 hJ1 HF.out (Nat.le_refl _) (World.ownsRow_nil _ _ _ _) (Nat.zero_le _)
  have hbw := below_more HBW.out hb1
  obtain ⟨⟨z0, z1, z2⟩, _⟩ := (HL0.out.below hb1 HL0.out.lt).three
  have hres := HRES.out
  rw [if_neg (by omega), Bq.write_enc 16 t HF.out] at hres
  have HR2 := Lib.hid hres
  have HBW1 := Lib.hid hbw
  clear hb1 hJ1 hbw hres
  go_wp2_with fail
  refine hW.mono ?_
  intro e w2 hh
  clear hW z0 z1 z2
  rcases hh with ⟨hc, v', rfl, hown, hg⟩ | ⟨hc, rfl, hb2⟩
  · obtain ⟨A, c, rfl⟩ := own_slice hown
    have hb2 : Below w1.heap.size w1 w2 := (Below.refl _ _).grown hg.1 (Nat.le_refl _) (fun b e => nomatch e)
    rw [List.nil_append] at hown ⊢
    have HQ : Hid (EncEnd RES w (.returned (.tuple #[.slice A (Bq.enc 16 t).length c, .int .i64 0])) w2) := ⟨below_more HBW1.out hb2, by
      rw [← HR2.out, if_pos hc]
      exact ⟨A, c, rfl, (own_arg hown (HB256.out hc)).2⟩⟩
    clear hc hown hg hb2
    go_wp2
    go_ret2
    exact HQ.out
  · have HQ : Hid (EncEnd RES w (.returned (.tuple #[nilS, .int .i64 60])) w2) := ⟨below_more HBW1.out hb2, by
      rw [← HR2.out, if_neg (by omega)]
      exact ⟨by decide, rfl⟩⟩
    clear hc hb2
    go_wp2
    go_ret2
    exact HQ.out
end Go.Proofs.Ytkjofadabaecfaa
