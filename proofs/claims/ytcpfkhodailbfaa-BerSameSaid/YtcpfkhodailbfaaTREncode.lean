/-
  The document's Encode; small.
-/
import Derived.Test.YtcpfkhodailbfaaTRWrite
namespace Go.Proofs.Ytcpfkhodailbfaa
open Go.RowKit

/-- How Encode ends. -/
def EncEnd (res : Except Nat (List Nat)) (w : World) (e : Ending) (w' : World) : Prop := Below w.heap.size w w' ∧ match res with
  | .ok q => ∃ A c, e = .returned (.tuple #[.slice A q.length c, .int .i64 0]) ∧ ArgIs w' A c q
  | .error n => 0 < n ∧ e = .returned (.tuple #[nilS, .int .i64 (n : Int)])
theorem EncEnd.cases {res : Except Nat (List Nat)} {w w' : World} {e : Ending} (h : EncEnd res w e w') :
    (∃ q A c, res = .ok q ∧ e = .returned (.tuple #[.slice A q.length c, .int .i64 0]) ∧ ArgIs w' A c q ∧ Below w.heap.size w w') ∨ (∃ n, res = .error n ∧ 0 < n ∧ e = .returned (.tuple #[nilS, .int .i64 (n : Int)]) ∧ Below w.heap.size w w') := by
  obtain ⟨hb, h⟩ := h
  cases hr : res with
  | ok q =>
    rw [hr] at h
    obtain ⟨A, c, h1, h2⟩ := h
    exact .inl ⟨q, A, c, rfl, h1, h2, hb⟩
  | error n =>
    rw [hr] at h
    exact .inr ⟨n, rfl, h.1, h.2, hb⟩

set_option maxHeartbeats 1000000 in
set_option maxRecDepth 100000 in
theorem refEncode_any {ok : Nat → Prop} (v : Value) (t : Bq.T) (w : World) (hJ : IsT w ok v t) :
    Calls Try.prog 17 #[v] w (EncEnd (Bq.encode t) w) := by
  obtain ⟨A1, c1, A2, c2, rfl⟩ := hJ.form
  obtain ⟨RES, eRES⟩ : ∃ RES, Bq.encode t = RES := ⟨_, rfl⟩
  rw [eRES]
  unfold Bq.encode at eRES
  obtain ⟨F, eF⟩ : ∃ F, Bq.amiss 16 t = F := ⟨_, rfl⟩
  rw [eF] at eRES
  obtain ⟨W0, eW0⟩ : ∃ W0, W0 = w.alloc (.cells #[.int .u8 (t.tag : Int), .slice A1 t.bytes.length c1, .slice A2 t.list.length c2] 25) := ⟨_, rfl⟩
  have hb0 : Below w.heap.size w W0 := by rw [eW0]; exact (Below.refl _ _).alloc (Nat.le_refl _) _
  have HL0 : Hid (Lies W0 w.heap.size 25 [.int .u8 (t.tag : Int), .slice A1 t.bytes.length c1, .slice A2 t.list.length c2]) := by unfold Hid; rw [eW0]; exact Lies.new_ rfl
  have hA := refAmiss_all 16 (Nat.le_refl _) ok _ t W0 (hJ.on hb0)
  rw [show ((16 - 16 : Nat) : Int) = 0 from rfl, eF, eW0] at hA
  have HJ := Lib.hid (hJ.on hb0)
  have HBW := Lib.hid hb0
  have HRES := Lib.hid eRES
  have HE := Lib.hid eW0
  have HF := Lib.hid eF
  clear hJ eRES eW0 hb0 eF
  go_enter Try.func17, Try.ntmps17
  go_wp2_with fail
  refine hA.mono ?_
  rintro e w1 ⟨rfl, hb1⟩
  rw [← HE.out] at hb1
  clear hA
  by_cases h0 : F = 0
  rotate_left
  · have hd : ((F : Int) != 0) = true := by rw [bne_iff_ne]; omega
    have HQ : Hid (EncEnd RES w (.returned (.tuple #[nilS, .int .i64 (F : Int)])) w1) := ⟨below_more HBW.out hb1, by rw [← HRES.out, if_pos h0]; exact ⟨by omega, rfl⟩⟩
    clear hb1 h0
    go_wp2
    go_ret2
    exact HQ.out
  subst h0
  have hW := refWrite_all 16 ok _ t w1 (HJ.out.on hb1) HF.out
  have hbw := below_more HBW.out hb1
  obtain ⟨⟨z0, z1, z2⟩, _⟩ := (HL0.out.below hb1 HL0.out.lt).three
  clear hb1
  go_wp2_with fail
  refine hW.mono ?_
  intro e w2 hh
  clear hW z0 z1 z2
  have hres := HRES.out
  rw [if_neg (by omega)] at hres
  rcases hh.cases with ⟨q, A, c, hr, rfl, hq, hb2⟩ | ⟨hr, rfl, hb2⟩
  · rw [hr] at hres
    have HQ : Hid (EncEnd RES w (.returned (.tuple #[.slice A q.length c, .int .i64 0])) w2) := ⟨below_more hbw hb2, by rw [← hres]; exact ⟨A, c, rfl, hq⟩⟩
    clear hh hr hq hb2 hbw hres
    go_wp2
    go_ret2
    exact HQ.out
  · rw [hr] at hres
    have HQ : Hid (EncEnd RES w (.returned (.tuple #[nilS, .int .i64 60])) w2) := ⟨below_more hbw hb2, by rw [← hres]; exact ⟨by decide, rfl⟩⟩
    clear hh hr hb2 hbw hres
    go_wp2
    go_ret2
    exact HQ.out
end Go.Proofs.Ytcpfkhodailbfaa
