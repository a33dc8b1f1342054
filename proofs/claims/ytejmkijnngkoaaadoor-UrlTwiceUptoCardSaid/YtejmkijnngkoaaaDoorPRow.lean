/-
  From the rows' reading of arguments to what the walks ask; a world for the witness.
-/
import Derived.Test.YtejmkijnngkoaaaDoorCards
import Derived.Test.YtejmkijnngkoaaaDoorTie
import Derived.Test.YtejmkijnngkoaaaDoorPPrint
import Derived.ProofKit
import Derived.OpenShut
import Derived.SizedLaws
import Derived.Deep.DeepHandedRow
import Derived.Deep.SlicePairs
import Derived.Lib.LaidTab
namespace Go.Proofs.YtejmkijnngkoaaaDoor
open Go.ChangeShapes Go.WideShapes Go.ChangeAt Go.RowKit

theorem own : ownKnob Tryd.prog.godebug = none := by kernel_rfl
theorem laidOut : laidOutB Tryd.prog = true := by kernel_rfl
theorem bytes_pair : Tryd.prog.bytesOf 34 = 32 := by kernel_rfl

/-- What a bound on the bulk of all that is read says of one value. -/
theorem bulk_pos {H : Type} (d : DataW H) : 0 < Rows.uptoBulk d := by
  cases d with
  | lit l => cases l <;> simp [Rows.uptoBulk]
  | _ => simp [Rows.uptoBulk]
theorem bulk_count {H : Type} (l : List (DataW H)) : l.length ≤ Rows.uptoBulkAll l := by
  induction l with
  | nil => exact Nat.zero_le _
  | cons d r ih => have := bulk_pos d; simp only [Rows.uptoBulkAll, List.length_cons]; omega
theorem bulk_mem {H : Type} {d : DataW H} {l : List (DataW H)} (h : d ∈ l) : Rows.uptoBulk d ≤ Rows.uptoBulkAll l := by
  induction l with
  | nil => cases h
  | cons x r ih =>
    simp only [Rows.uptoBulkAll]
    rcases List.mem_cons.1 h with rfl | h'
    · omega
    · have := ih h'; omega
theorem bulk_of {H : Type} {d : DataW H} {l : List (DataW H)} (hk : Rows.uptoSmall H l = true) (h : d ∈ l) : Rows.uptoBulk d ≤ 1048576 :=
  Nat.le_trans (bulk_mem h) (of_decide_eq_true hk)
theorem bulk_slice {H : Type} {es sp : List (DataW H)} {n : Nat} (h : Rows.uptoBulk (.slice es sp) ≤ n) : es.length + sp.length ≤ n := by
  have h1 := bulk_count es
  have h2 := bulk_count sp
  simp only [Rows.uptoBulk] at h
  omega
theorem bulk_text {H : Type} {s : ByteArray} {n : Nat} (h : Rows.uptoBulk (DataW.lit (H := H) (.string s.data.toList)) ≤ n) : s.size ≤ n := by
  simp only [Rows.uptoBulk] at h
  have e : s.data.toList.length = s.size := by rw [Array.length_toList]; rfl
  omega


/-- A text's bytes, out of its value. -/
def textOf : Value → ByteArray
  | .string s => s
  | _ => ByteArray.empty

theorem pair_bulk {H : Type} {a b : ByteArray} {es sp : List (DataW H)} {n : Nat} (h : Rows.uptoBulk (.slice es sp) ≤ n) (hm : .agg [.lit (.string a.data.toList), .lit (.string b.data.toList)] ∈ es) : a.size ≤ n ∧ b.size ≤ n := by
  have h1 := bulk_mem hm
  simp only [Rows.uptoBulk, Rows.uptoBulkAll] at h h1
  have ea : a.data.toList.length = a.size := by rw [Array.length_toList]; rfl
  have eb : b.data.toList.length = b.size := by rw [Array.length_toList]; rfl
  omega

/-- Pairs that came in. -/
theorem pairs_open {H : Type} {enc : TypeId × Value → H} {W : World} {base : Nat} {spare : Nat → Bool} {held : Bool} {fuel : Nat} {a : Option Addr} {len cap : Nat} {d : DataW H} {p : List MemPlace}
    (hf : DataW.trod enc Tryd.prog W base spare held fuel 22 [.slice a len cap] = some (d, p)) :
    ∃ L : List (List Nat × List Nat), Row W a (pcells L) ∧ Pq.Fine L ∧ L.length = len ∧ ((len = 0 ∧ d = .nil) ∨ ∃ es sp, d = .slice es sp ∧ es.length = len) ∧ (Rows.uptoBulk d ≤ 1048576 → Short L ∧ L.length ≤ 1048576) := by
  rcases Deep.open_slice_pairs Tryd.underlying22 Tryd.underlying34 (by kernel_rfl) (by kernel_rfl) (by kernel_rfl) (by kernel_rfl) (by kernel_rfl) hf with ⟨hcs, hx⟩ | ⟨x, l, c, m, n, V0, V1, D0, D1, P0, P1, hcs, _, hl, hm, hmm, hx, hi⟩
  · simp at hcs hx
    obtain ⟨rfl, rfl, rfl⟩ := hcs
    exact ⟨[], Row.nil _ _, (fun q hq => by cases hq), rfl, .inl ⟨rfl, hx.1⟩, fun _ => ⟨(fun q hq => by cases hq), Nat.zero_le _⟩⟩
  · simp at hcs
    obtain ⟨rfl, rfl, rfl⟩ := hcs
    have hlm : len ≤ m := by rw [hmm]; split <;> omega
    have hd : d = .slice ((List.range len).map fun i => .agg [D0 i, D1 i]) ((List.range (m - len)).map fun j => .agg [D0 (len + j), D1 (len + j)]) := by simpa using congrArg Prod.fst hx
    have hV : ∀ i, i < len → V0 i = .string (textOf (V0 i)) ∧ V1 i = .string (textOf (V1 i)) ∧ D0 i = .lit (.string (textOf (V0 i)).data.toList) ∧ D1 i = .lit (.string (textOf (V1 i)).data.toList) := by
      intro i hil
      obtain ⟨_, _, t0, t1⟩ := hi i (by omega)
      obtain ⟨s0, e0, x0, _⟩ := DataW.trod_string Tryd.underlying9 t0
      obtain ⟨s1, e1, x1, _⟩ := DataW.trod_string Tryd.underlying9 t1
      have f0 : V0 i = .string s0 := by simpa using e0
      have f1 : V1 i = .string s1 := by simpa using e1
      have g0 : D0 i = .lit (.string s0.data.toList) := by simpa using congrArg Prod.fst x0
      have g1 : D1 i = .lit (.string s1.data.toList) := by simpa using congrArg Prod.fst x1
      rw [f0, f1, g0, g1]
      exact ⟨rfl, rfl, rfl, rfl⟩
    let L : List (List Nat × List Nat) := (List.range len).map fun i => (numsOf (textOf (V0 i)), numsOf (textOf (V1 i)))
    have hLl : L.length = len := by simp [L]
    have hLg : ∀ i, i < len → L.getD i ([], []) = (numsOf (textOf (V0 i)), numsOf (textOf (V1 i))) := by
      intro i hil
      simp [L, List.getD_eq_getElem?_getD, hil]
    refine ⟨L, fun hp => ?_, ?_, hLl, .inr ⟨_, _, hd, by simp⟩, fun hk => ⟨?_, ?_⟩⟩
    · rw [pcells_length, hLl] at hp
      obtain ⟨b, off, spot⟩ := x
      have hspot : spot = none := by
        have := World.cell?_spot (hi 0 (by omega)).1
        simpa [Addr.add] using this
      subst hspot
      have h0 := (hi 0 (by omega)).1
      rw [Addr.add_lit] at h0
      refine ⟨b, off, rfl, World.block_lt_of_cell? _ _ h0, fun j v hj => ?_⟩
      have hj2 : j < len * 2 := by
        have := (List.getElem?_eq_some_iff.1 hj).1
        rw [pcells_length, hLl] at this
        exact this
      obtain ⟨q0, q1⟩ := pcells_at L (j / 2) (by rw [hLl]; omega)
      rw [hLg _ (by omega)] at q0 q1
      simp only [strOf_numsOf] at q0 q1
      obtain ⟨v0, v1, _, _⟩ := hV (j / 2) (by omega)
      obtain ⟨c0, c1, _, _⟩ := hi (j / 2) (by omega)
      rw [Addr.add_lit] at c0 c1
      rcases Nat.mod_two_eq_zero_or_one j with h | h
      · rw [show j / 2 * 2 = j from by omega] at q0 c0
        rw [hj] at q0
        rw [c0, v0, ← Option.some.inj q0]
      · rw [show j / 2 * 2 + 1 = j from by omega] at q1 c1
        rw [hj] at q1
        rw [c1, v1, ← Option.some.inj q1]
    · intro q hq
      obtain ⟨i, _, rfl⟩ := List.mem_map.1 hq
      exact ⟨numsOf_lt _, numsOf_lt _⟩
    · intro q hq
      obtain ⟨i, hi', rfl⟩ := List.mem_map.1 hq
      have hil := List.mem_range.1 hi'
      obtain ⟨_, _, g0, g1⟩ := hV i hil
      rw [hd] at hk
      have := pair_bulk (a := textOf (V0 i)) (b := textOf (V1 i)) hk (List.mem_map.2 ⟨i, hi', by rw [g0, g1]⟩)
      simp only [numsOf_length]
      exact this
    · rw [hd] at hk
      have := bulk_slice hk
      simp at this
      rw [hLl]; omega

/-- The two tables of the library's that the rows list, as cells. -/
def firstCells : Array Value := (Go.Pinned.utf8FirstZ.map fun (n : Nat) => Value.int .u8 (n : Int)).toArray
def rangeCells : Array Value := ([128, 191, 160, 191, 128, 159, 144, 191, 128, 143, 0, 0, 0, 0, 0, 0, 0, 0, 0, 0, 0, 0, 0, 0, 0, 0, 0, 0, 0, 0, 0, 0].map fun (n : Nat) => Value.int .u8 (n : Int)).toArray
/-- A block with other cells. -/
def relaid (cs : Array Value) : Obj → Obj
  | .cells _ t frozen => .cells cs t frozen
  | o => o
/-- A world for the witness: the settled one, the two tables as they are. -/
noncomputable def laidWorld (os : Os) : World :=
  { World.holding Tryd.prog os ⟨#[], #[], []⟩ with heap := ((World.holding Tryd.prog os ⟨#[], #[], []⟩).heap.modify 3 (relaid firstCells)).modify 4 (relaid rangeCells) }
end Go.Proofs.YtejmkijnngkoaaaDoor
