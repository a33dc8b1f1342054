/-
  Plain facts for (*Hash).Write.
-/
import Derived.Test.YtkfhfokeoieajaaDoorHashSum
namespace Go.Proofs.YtkfhfokeoieajaaDoor
open Go.RowKit

/-- A slice of bytes that reads as these, in a block other than g. -/
def SliceIs (w : World) (g : Nat) (A : Option Addr) (c : Nat) (q : List Nat) : Prop :=
  q.length ≤ c ∧ c ≤ 9223372036854775807 ∧ (∀ x ∈ q, x < 256) ∧ (0 < q.length → ∃ b off, A = some ⟨b, off, none⟩ ∧ b ≠ g ∧ b < w.heap.size ∧ BytesAt w b off q)

theorem SliceIs.grown {w w' : World} {g : Nat} {A : Option Addr} {c : Nat} {q : List Nat} (h : SliceIs w g A c q) (hg : w.grownBy w' (some g)) : SliceIs w' g A c q := by
  refine ⟨h.1, h.2.1, h.2.2.1, fun hq => ?_⟩
  obtain ⟨b, off, e, hne, hb, hby⟩ := h.2.2.2 hq
  exact ⟨b, off, e, hne, Nat.lt_of_lt_of_le hb hg.size, hby.keep fun a ha => World.cell?_of_block (hg.block a.block (by omega) (by rw [ha]; simp; exact hne))⟩
theorem SliceIs.drew {w : World} {g : Nat} {A : Option Addr} {c : Nat} {q : List Nat} (h : SliceIs w g A c q) : SliceIs w.drew g A c q := h
theorem SliceIs.at_ {w : World} {g : Nat} {b off c : Nat} {q : List Nat} (h : SliceIs w g (some ⟨b, off, none⟩) c q) (k : Nat) : SliceIs w g (some ⟨b, off + k, none⟩) (c - k) (q.drop k) := by
  refine ⟨by have := h.1; simp; omega, by have := h.2.1; omega, fun x hx => h.2.2.1 x (List.mem_of_mem_drop hx), fun hq => ?_⟩
  obtain ⟨b', off', e, hne, hb, hby⟩ := h.2.2.2 (by simp at hq; omega)
  injection e with e
  injection e with e1 e2
  subst e1; subst e2
  exact ⟨b, off + k, rfl, hne, hb, hby.cut k⟩
theorem SliceIs.none_ {w : World} {g : Nat} {A' : Option Addr} {c' : Nat} (hc : c' ≤ 9223372036854775807) : SliceIs w g A' c' [] :=
  ⟨Nat.zero_le _, hc, (fun x hx => by cases hx), (fun h => by cases h)⟩

theorem hash_setlen (s : Sha.St) (rest : List Nat) (n v : Nat) (hr : rest.length = 64) : (hashCells s rest n).set 72 (.int .u64 (v : Int)) = hashCells s rest v := by
  unfold hashCells
  rw [List.set_append_right _ _ (by simp [u32s_length, Sha.St.list]), List.set_append_right _ _ (by simp [u32s_length, u8s_length, Sha.St.list, hr])]
  simp [u32s_length, u8s_length, Sha.St.list, hr]
theorem hash_copy (s : Sha.St) (rest x : List Nat) (n m : Nat) (hr : rest.length = 64) (hm : m + x.length ≤ 64) : splice (hashCells s rest n) (8 + m) (u8s x) = hashCells s (splice rest m x) n := by
  have h8 : (u32s s.list).length = 8 := rfl
  unfold hashCells
  rw [← u8s_splice]
  unfold splice
  rw [← h8, List.take_length_add_append, Nat.add_assoc, List.drop_length_add_append, List.take_append_of_le_length (by rw [u8s_length]; omega), List.drop_append_of_le_length (by rw [u8s_length, u8s_length]; omega)]
  simp [List.append_assoc]

namespace Sha
theorem mixAll_cong (s : St) (p r : List Nat) (n : Nat) (h : p.take (64 * n) = r.take (64 * n)) : mixAll s p n = mixAll s r n := by
  induction n with
  | zero => rfl
  | succ n ih =>
    have h1 : p.take (64 * n) = r.take (64 * n) := by
      have := congrArg (List.take (64 * n)) h
      simpa [List.take_take, show min (64 * n) (64 * (n + 1)) = 64 * n from by omega] using this
    have h2 : (p.drop (64 * n)).take 64 = (r.drop (64 * n)).take 64 := by
      have := congrArg (List.drop (64 * n)) h
      rw [List.drop_take, List.drop_take, show 64 * (n + 1) - 64 * n = 64 from by omega] at this
      exact this
    rw [mixAll, mixAll, ih h1, h2]
end Sha
end Go.Proofs.YtkfhfokeoieajaaDoor
