/-
  From the rows' reading of arguments and of the listed table to what the walks ask.
-/
import Derived.Test.YtkfhfokeoieajaaDoorCards
import Derived.Test.YtkfhfokeoieajaaDoorTie
import Derived.Test.YtkfhfokeoieajaaDoorAlive
import Derived.ProofKit
import Derived.OpenShut
import Derived.SizedLaws
import Derived.Deep.DeepHandedRow
import Derived.Lib.LaidTab
namespace Go.Proofs.YtkfhfokeoieajaaDoor
open Go.ChangeShapes Go.WideShapes Go.ChangeAt Go.RowKit

theorem own : ownKnob Tryd.prog.godebug = none := by kernel_rfl
theorem laidOut : laidOutB Tryd.prog = true := by kernel_rfl

/-- The table's name, as the rows have it. -/
def tabName : String := Rows.digestSameRow.named.headD ""
theorem gTab : Tryd.prog.globalNamed tabName = some 0 := by kernel_rfl
theorem gTabType : (Tryd.prog.globals[0]?).map (·.type) = some 60 := by kernel_rfl
theorem cellsTab : Tryd.prog.cellsOf 60 = 64 := by kernel_rfl
theorem cellsWord : Tryd.prog.cellsOf 38 = 1 := by kernel_rfl
def tabNums : List Int := Sha.KL.map fun (n : Nat) => (n : Int)
/-- What the rows list. -/
def tabLaid : List (String × DataW Unit) := [(tabName, Lib.tabData .u32 tabNums)]
theorem kAt_at : ∀ t, t < 64 → ((Sha.kAt t).toNat : Int) = tabNums.getD t 0 := by decide +kernel

theorem tab_of {W : World} (h : laidMetH Tryd.prog tabLaid W) : Tab W := fun t ht => by
  have hT : Lib.TabIs Tryd.prog W tabName .u32 tabNums := Lib.tabIs_of_head (rest := []) gTab gTabType Tryd.underlying60 Tryd.underlying38 cellsWord cellsTab h
  rw [hT.cell gTab t (by have : tabNums.length = 64 := rfl; omega), kAt_at t ht]

/-- The bytes of a slice of them that came in. -/
def bytesOf (len : Nat) (zs : List Int) : List Nat := (zs.take len).map Int.toNat
def IsRow (w : World) (a : Option Addr) (len cap : Nat) (zs : List Int) : Prop :=
  (a = none ∧ len = 0 ∧ cap = 0 ∧ zs = []) ∨
  ∃ x, a = some x ∧ len ≤ cap ∧ cap ≤ maxLen ∧ zs.length = cap ∧ (∀ i, i < zs.length → w.cell? (x.add i) = some (.int .u8 (zs.getD i 0))) ∧ ∀ n ∈ zs, (Lit.int .u8 n).wf = true

theorem bytesOf_length {w : World} {a : Option Addr} {len cap : Nat} {zs : List Int} (h : IsRow w a len cap zs) : (bytesOf len zs).length = len := by
  rcases h with ⟨_, rfl, _, rfl⟩ | ⟨_, _, hl, _, hz, _⟩
  · rfl
  · simp [bytesOf]; omega
theorem arg_of {w : World} {a : Option Addr} {len cap : Nat} {zs : List Int} (h : IsRow w a len cap zs) : ArgIs w a cap (bytesOf len zs) := by
  have hlen := bytesOf_length h
  rcases h with ⟨rfl, rfl, rfl, rfl⟩ | ⟨x, rfl, hl, hm, hz, hcell, hwz⟩
  · exact ⟨Nat.le_refl _, by omega, (fun y hy => by simp [bytesOf] at hy), (fun hp => by simp [bytesOf] at hp)⟩
  · unfold maxLen at hm
    refine ⟨by omega, hm, fun y hy => ?_, fun hp => ?_⟩
    · obtain ⟨n, hn, rfl⟩ := List.mem_map.1 hy
      have := bounds_u8 (hwz n (List.mem_of_mem_take hn))
      omega
    · obtain ⟨b, off, rfl, hc⟩ := ints_at hcell (by omega)
      refine ⟨b, off, rfl, block_lt_of_cell (hc 0 (by omega)), fun j y hj => ?_⟩
      simp only [bytesOf, List.getElem?_map, Option.map_eq_some_iff] at hj
      obtain ⟨n, hn, rfl⟩ := hj
      have hj' : zs[j]? = some n := by
        rw [List.getElem?_take] at hn
        split at hn
        · exact hn
        · cases hn
      have hlt : j < zs.length := (List.getElem?_eq_some_iff.1 hj').1
      have hb := bounds_u8 (hwz n (List.mem_of_getElem? hj'))
      refine ⟨by omega, ?_⟩
      rw [hc j hlt, List.getD_eq_getElem?_getD, hj']
      simp only [Option.getD_some]
      rw [Int.toNat_of_nonneg hb.1]

/-- A world for the witness: the settled one, the table as its initialiser lays it. -/
noncomputable def laidWorld (os : Os) : World :=
  { World.holding Tryd.prog os ⟨#[], #[], []⟩ with heap := (World.holding Tryd.prog os ⟨#[], #[], []⟩).heap.modify 0 fun
      | .cells _ t frozen => .cells (tabNums.map fun z => Value.int .u32 z).toArray t frozen
      | o => o }
end Go.Proofs.YtkfhfokeoieajaaDoor
