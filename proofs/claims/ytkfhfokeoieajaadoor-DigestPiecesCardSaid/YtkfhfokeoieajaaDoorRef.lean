/-
  The contracts of the document's own small functions: rot and K.
-/
import Derived.Test.YtkfhfokeoieajaaDoorSum
import Derived.StillTailTactics
import Derived.Deep.AppendLies
namespace Go.Proofs.YtkfhfokeoieajaaDoor
open Go.RowKit
open Sha (rotr)

theorem rotr_ref (x : BitVec 32) (n : Nat) :
    bits BinOp.or IntKind.u32 ((x.toNat : Int) / 2 ^ n) ((x.toNat : Int) * 2 ^ (32 - n) % 4294967296) = ((rotr x n).toNat : Int) := by
  have e1 := u32_shl x (32 - n)
  rw [IntKind.wrap_u32'] at e1
  rw [e1, u32_shr, u32_or]
  rfl

set_option maxHeartbeats 400000 in
theorem refRot_any (x : BitVec 32) (n : Nat) (h1 : n < 32) (w : World) :
    Calls Tryd.prog 29 #[.int .u32 x.toNat, .int .u64 n] w fun e w' => e = .returned (.int .u32 (rotr x n).toNat) ∧ w = w' := by
  go_enter Tryd.func29, Tryd.ntmps29
  go_wp2
  go_ret
  exact ⟨ret_int (rotr_ref x n), rfl⟩
theorem refRot_quiet (x : BitVec 32) (m : Int) (h0 : 0 ≤ m) (h1 : m < 32) (w : World) :
    Calls Tryd.prog 29 #[.int .u32 x.toNat, .int .u64 m] w fun e w' => e = .returned (.int .u32 (rotr x m.toNat).toNat) ∧ w' = w := by
  obtain ⟨n, rfl⟩ := Int.eq_ofNat_of_zero_le h0
  exact (refRot_any x n (by omega) w).mono fun _ _ ⟨he, hw⟩ => ⟨he, hw.symm⟩

theorem info38 : (Tryd.prog.info? 38).map (fun i => (i.zero, i.size, i.bytes)) = some (some (.int .u32 0), 1, 4) := by kernel_rfl
theorem info5b : (Tryd.prog.info? 5).map (fun i => (i.zero, i.size, i.bytes)) = some (some (.int .u8 0), 1, 1) := by kernel_rfl

def KV : List Value := Sha.KL.map fun (n : Nat) => .int .u32 (n : Int)
theorem KV_at : ∀ t, t < 64 → KV[t]? = some (.int .u32 ((Sha.kAt t).toNat : Int)) := by
  intro t ht
  have h : ∀ t, t < 64 → (Sha.KL[t]?).map (fun (n : Nat) => (n : Int)) = some ((Sha.kAt t).toNat : Int) := by decide +kernel
  have := h t ht
  unfold KV
  rw [List.getElem?_map]
  cases e : Sha.KL[t]? with
  | none => rw [e] at this; cases this
  | some n => rw [e] at this; simp at this; simp [this]

set_option maxHeartbeats 400000 in
set_option maxRecDepth 100000 in
theorem refK_any (t : Nat) (ht : t < 64) (w : World) :
    Calls Tryd.prog 30 #[.int .i64 t] w fun e w' => e = .returned (.int .u32 (Sha.kAt t).toNat) ∧ Below w.heap.size w w' := by
  go_enter Tryd.func30, Tryd.ntmps30
  go_upto_region 2 with (fail)
  generalize hw2 : World.alloc _ _ = w2
  have h2 : Lies w2 w.heap.size 38 KV := by rw [← hw2]; exact Lies.made w 38 KV
  have hb : Below w.heap.size w w2 := by rw [← hw2]; exact (Below.refl _ _).alloc (Nat.le_refl _) _
  clear hw2
  have hc : w2.cell? ⟨w.heap.size, t, none⟩ = some (.int .u32 ((Sha.kAt t).toNat : Int)) := (h2.cell t).trans (KV_at t ht)
  go_wp2
  go_ret
  exact ⟨rfl, hb⟩
end Go.Proofs.YtkfhfokeoieajaaDoor
