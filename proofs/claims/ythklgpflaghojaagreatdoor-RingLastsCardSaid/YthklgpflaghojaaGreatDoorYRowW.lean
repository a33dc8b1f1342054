/-
  From the rows' reading of values, tokens and bytes to what the walks ask; what the listed variables hold; a world for the witness (as stage 5's, with the digest's table).
-/
import Derived.Test.YthklgpflaghojaaGreatDoorCards
import Derived.Test.YthklgpflaghojaaGreatDoorTie
import Derived.Test.YthklgpflaghojaaGreatDoorQS
import Derived.Test.YthklgpflaghojaaGreatDoorQD
import Derived.Test.YthklgpflaghojaaGreatDoorWPB
import Derived.ProofKit
import Derived.OpenShut
import Derived.SizedLaws
import Derived.Deep.DeepHandedRow
import Derived.Deep.Slices
import Derived.Lib.LaidTab
import Derived.Lib.LaidU8T
import Derived.Lib.SmallJoins
import Derived.Stop.LaidErr
import Derived.Stop.ErrReads
namespace Go.Proofs.YthklgpflaghojaaGreatDoor
open Go.ChangeShapes Go.WideShapes Go.ChangeAt Go.RowKit

theorem own : ownKnob Tryz.prog.godebug = none := by kernel_rfl
theorem laidOut : laidOutB Tryz.prog = true := by kernel_rfl
/-- The two tables of the library's that the rows list, as cells. -/
def firstCells : Array Value := (Go.Pinned.utf8FirstZ.map fun (n : Nat) => Value.int .u8 (n : Int)).toArray
def rangeCells : Array Value := ([128, 191, 160, 191, 128, 159, 144, 191, 128, 143, 0, 0, 0, 0, 0, 0, 0, 0, 0, 0, 0, 0, 0, 0, 0, 0, 0, 0, 0, 0, 0, 0].map fun (n : Nat) => Value.int .u8 (n : Int)).toArray
/-- A block with other cells. -/
def relaid (cs : Array Value) : Obj → Obj
  | .cells _ t frozen => .cells cs t frozen
  | o => o
/-- The variables that the rows list. -/
def laidList : List (String × DataW Unit) := [("math/bits.deBruijn32tab", Rows.laid_math_bits_deBruijn32tab), ("math/bits.deBruijn64tab", Rows.laid_math_bits_deBruijn64tab), ("chatelaine/digest.roundWords", Rows.laid_chatelaine_digest_roundWords), ("internal/strconv.uint64pow10", Rows.laid_internal_strconv_uint64pow10), ("unicode/utf8.acceptRanges", Rows.laid_unicode_utf8_acceptRanges), ("strconv.ErrRange", Rows.laid_strconv_ErrRange), ("strconv.ErrSyntax", Rows.laid_strconv_ErrSyntax), ("unicode/utf8.first", Rows.laid_unicode_utf8_first)]
theorem laid_plain {W : World} (h : laidMetH Tryz.prog laidList W) : laidMet Tryz.prog laidList W := by
  have e : (laidList.filter fun x => x.2.handleName?.isSome) = [] := by kernel_rfl
  unfold laidMetH at h
  rw [e] at h
  exact h
theorem star_err : "*" ++ "errors.errorString" = "*errors.errorString" := by decide
theorem row_err (u : TypeId) (h : Tryz.prog.typeName? 3 u = some "*errors.errorString") : u = 201 :=
  typeName_ptr_named (nm := "errors.errorString") (by rw [star_err]; kernel_rfl) (by kernel_rfl) (by decide) u (by rw [star_err]; exact h)
theorem pow_data {H : Type} : (Rows.laid_internal_strconv_uint64pow10 : DataW H) = Lib.tabData .u64 Lib.pow10Tab := by
  unfold Rows.laid_internal_strconv_uint64pow10 Lib.tabData Lib.pow10Tab
  rfl
set_option maxRecDepth 100000 in
theorem first_data : (Rows.laid_unicode_utf8_first : DataW Unit) = Lib.firstData := by
  have h : (Go.Pinned.utf8FirstZ.map fun (n : Nat) => (n : Int)) = Lib.firstTab := by kernel_rfl
  unfold Lib.firstData Lib.tabData
  rw [← h]
  rfl
theorem accept_data : (Rows.laid_unicode_utf8_acceptRanges : DataW Unit) = Lib.acceptData := by kernel_rfl
theorem u8_extra : U8Extra Tryz.prog lays197_ren := ⟨by kernel_rfl, by kernel_rfl, by kernel_rfl, by kernel_rfl, by kernel_rfl, by kernel_rfl, by kernel_rfl⟩
set_option maxRecDepth 100000 in
theorem held_of {W : World} (h : laidMetH Tryz.prog laidList W) : Held W := by
  have h0 := laid_plain h
  have h2 : laidMet Tryz.prog (("internal/strconv.uint64pow10", Lib.tabData .u64 Lib.pow10Tab) :: laidList.drop 4) W := by
    have := h0.tail.tail.tail
    rw [← pow_data]
    exact this
  have h4 : laidMet Tryz.prog (("strconv.ErrRange", Rows.laid_strconv_ErrRange) :: laidList.drop 6) W := h0.tail.tail.tail.tail.tail
  have h5 : laidMet Tryz.prog (("strconv.ErrSyntax", Rows.laid_strconv_ErrSyntax) :: laidList.drop 7) W := h0.tail.tail.tail.tail.tail.tail
  refine ⟨Lib.tabIs_of_head (g := 6) (t := 211) (e := 136) (n := 20) (by kernel_rfl) (by kernel_rfl) (by kernel_rfl) (by kernel_rfl) (by kernel_rfl) (by kernel_rfl) h2, ?_, ?_, ?_⟩
  · obtain ⟨a0, s0, hv0, -, -, -⟩ := laid_sentinel h5 (g := 4) (ti := 165) (by kernel_rfl) (by kernel_rfl) Tryz.underlying165 row_err Tryz.underlying201 Tryz.underlying203 rfl rfl Tryz.underlying9 (by kernel_rfl) (by kernel_rfl)
    exact ⟨_, _, hv0⟩
  · obtain ⟨a0, s0, hv0, -, -, -⟩ := laid_sentinel h4 (g := 5) (ti := 165) (by kernel_rfl) (by kernel_rfl) Tryz.underlying165 row_err Tryz.underlying201 Tryz.underlying203 rfl rfl Tryz.underlying9 (by kernel_rfl) (by kernel_rfl)
    exact ⟨_, _, hv0⟩
  · exact utf8Tabs_of_readsT (ρ := lays197_ren) ⟨lays197.t5, lays197.t119, lays197.t138, lays197.t139⟩ u8_extra (Lib.laidMet.reads h0 (by rw [← first_data]; exact List.mem_of_getElem? (i := 7) rfl)) (Lib.laidMet.reads h0 (by rw [← accept_data]; exact List.mem_of_getElem? (i := 4) rfl))

/-- The digest's table. -/
theorem gTab : Tryz.prog.globalNamed "chatelaine/digest.roundWords" = some 1 := by kernel_rfl
theorem gTabType : (Tryz.prog.globals[1]?).map (·.type) = some 175 := by kernel_rfl
theorem cellsTab : Tryz.prog.cellsOf 175 = 64 := by kernel_rfl
theorem cellsWord : Tryz.prog.cellsOf 101 = 1 := by kernel_rfl
def tabNums : List Int := Sha.KL.map fun (n : Nat) => (n : Int)
theorem tab_data {H : Type} : (Rows.laid_chatelaine_digest_roundWords : DataW H) = Lib.tabData .u32 tabNums := by
  unfold Rows.laid_chatelaine_digest_roundWords Lib.tabData tabNums Sha.KL
  rfl
theorem kAt_at : ∀ t, t < 64 → ((Sha.kAt t).toNat : Int) = tabNums.getD t 0 := by decide +kernel
theorem tab_of {W : World} (h : laidMetH Tryz.prog laidList W) : Tab W := fun t ht => by
  have h2 : laidMet Tryz.prog (("chatelaine/digest.roundWords", Lib.tabData .u32 tabNums) :: laidList.drop 3) W := by
    have := (laid_plain h).tail.tail
    rw [← tab_data]
    exact this
  have hT : Lib.TabIs Tryz.prog W "chatelaine/digest.roundWords" .u32 tabNums := Lib.tabIs_of_head gTab gTabType Tryz.underlying175 Tryz.underlying101 cellsWord cellsTab h2
  rw [hT.cell gTab t (by have : tabNums.length = 64 := rfl; omega), kAt_at t ht]

/-! A value that came in. -/
section
variable {H : Type} {enc : TypeId × Value → H} {W : World} {base : Nat} {spare : Nat → Bool} {held : Bool}
theorem weights_mem {e : TypeId} {d : DataW H} {l : List (DataW H)} (h : d ∈ l) : ∀ n ∈ d.weights Tryz.prog e, n ∈ DataW.weightsAll Tryz.prog e l := by
  induction l with
  | nil => cases h
  | cons x r ih =>
    intro n hn
    simp only [DataW.weightsAll, List.mem_append]
    rcases List.mem_cons.1 h with rfl | h'
    · exact .inl hn
    · exact .inr (ih h' n hn)
/-- What the weights of a slice say of its own size, and of its elements. -/
theorem weights_slice {t e : TypeId} (ht : Tryz.prog.underlying t = some (.slice e)) {es sp : List (DataW H)} (h : ∀ n ∈ (DataW.slice es sp).weights Tryz.prog t, n ≤ reachBytes) :
    (es.length + sp.length) * Tryz.prog.bytesOf e ≤ reachBytes ∧ ∀ d ∈ es, ∀ n ∈ d.weights Tryz.prog e, n ≤ reachBytes := by
  simp only [DataW.weights, ht] at h
  exact ⟨h _ (by simp), fun d hd n hn => h n (by simp [weights_mem hd n hn])⟩
theorem reach_small : reachBytes ≤ 140737488355328 := by decide

theorem wf_i64_of {k : Int} (h : (Lit.int .i64 k).wf = true) : -9223372036854775808 ≤ k ∧ k ≤ 9223372036854775807 := by
  simp only [Lit.wf, Bool.and_eq_true, decide_eq_true_eq] at h
  have e1 : IntKind.min .i64 = -9223372036854775808 := by decide
  have e2 : IntKind.max .i64 = 9223372036854775807 := by decide
  rw [e1, e2] at h
  exact h
theorem bytes_u8 : Tryz.prog.bytesOf 5 = 1 := by kernel_rfl
theorem reach_less : reachBytes ≤ 140737488353000 := by decide
def bytesOf (len : Nat) (zs : List Int) : List Nat := (zs.take len).map Int.toNat
/-- Bytes that came in. -/
theorem bytes_trod {fuel : Nat} {cs : List Value} {d : DataW H} {p : List MemPlace} (h : DataW.trod enc Tryz.prog W base spare held fuel 27 cs = some (d, p)) (hw : ∀ n ∈ d.weights Tryz.prog 27, n ≤ reachBytes) :
    ∃ A c q, cs = [.slice A q.length c] ∧ ArgIs W A c q ∧ q.length ≤ 140737488353000 := by
  rcases open_ints Tryz.underlying27 Tryz.underlying5 (by kernel_rfl) h with ⟨rfl, _⟩ | ⟨x, len, cap, zs, rfl, _, hl, hm, hz, hx, hcell, hwz⟩
  · exact ⟨none, 0, [], rfl, ⟨Nat.le_refl _, by omega, (fun _ h => nomatch h), fun h => absurd h (Nat.lt_irrefl _)⟩, Nat.zero_le _⟩
  · have hd : d = .slice (lits .u8 (zs.take len)) (lits .u8 (zs.drop len)) := by simpa using congrArg Prod.fst hx
    subst hd
    obtain ⟨w1, _⟩ := weights_slice Tryz.underlying27 hw
    rw [bytes_u8] at w1
    have hz' : len ≤ zs.length := by
      have h1 := hz
      split at h1 <;> omega
    simp only [lits, List.length_map, List.length_take, List.length_drop] at w1
    have hrs := reach_less
    have hlen : (bytesOf len zs).length = len := by simp [bytesOf]; omega
    have h256 : ∀ y ∈ bytesOf len zs, y < 256 := fun y hy => by
      obtain ⟨n, hn, rfl⟩ := List.mem_map.1 hy
      have := bounds_u8 (hwz n (List.mem_of_mem_take hn))
      omega
    unfold maxLen at hm
    refine ⟨some x, cap, bytesOf len zs, by rw [hlen], ⟨by rw [hlen]; exact hl, hm, h256, fun h0 => ?_⟩, by omega⟩
    obtain ⟨b, off, rfl, hc⟩ := ints_at hcell (by omega)
    refine ⟨b, off, rfl, block_lt_of_cell (hc 0 (by omega)), fun j y hj => ⟨h256 y (List.mem_of_getElem? hj), ?_⟩⟩
    simp only [bytesOf, List.getElem?_map, Option.map_eq_some_iff] at hj
    obtain ⟨n, hn, rfl⟩ := hj
    have hj' : zs[j]? = some n := by
      rw [List.getElem?_take] at hn
      split at hn
      · exact hn
      · cases hn
    have hlt : j < zs.length := (List.getElem?_eq_some_iff.1 hj').1
    have hb := bounds_u8 (hwz n (List.mem_of_getElem? hj'))
    rw [hc j hlt, List.getD_eq_getElem?_getD, hj']
    simp only [Option.getD_some]
    rw [Int.toNat_of_nonneg hb.1]
end
/-- The tables and the sentinels as the program's text lays them. -/
abbrev synB : ByteArray := { data := #[105, 110, 118, 97, 108, 105, 100, 32, 115, 121, 110, 116, 97, 120] }
abbrev rngB : ByteArray := { data := #[118, 97, 108, 117, 101, 32, 111, 117, 116, 32, 111, 102, 32, 114, 97, 110, 103, 101] }
def powCells : Array Value := (Lib.pow10Tab.map fun z => Value.int .u64 z).toArray
def bruijn32 : Array Value := ([0, 1, 28, 2, 29, 14, 24, 3, 30, 22, 20, 15, 25, 17, 4, 8, 31, 27, 13, 23, 21, 19, 16, 7, 26, 12, 18, 6, 11, 5, 10, 9].map fun (n : Nat) => Value.int .u8 (n : Int)).toArray
def bruijn64 : Array Value := ([0, 1, 56, 2, 57, 49, 28, 3, 61, 58, 42, 50, 38, 29, 17, 4, 62, 47, 59, 36, 45, 43, 51, 22, 53, 39, 33, 30, 24, 18, 12, 5, 63, 55, 48, 27, 60, 41, 37, 16, 46, 35, 44, 21, 52, 32, 23, 11, 54, 26, 40, 15, 34, 20, 31, 10, 25, 14, 19, 9, 13, 8, 7, 6].map fun (n : Nat) => Value.int .u8 (n : Int)).toArray
/-- So many blocks has the settled world. -/
noncomputable def lowU : Nat := (World.holding Tryz.prog default ⟨#[], #[], []⟩).heap.size
/-- A world for the witness: the settled one with two blocks more, the two errors' texts; the tables and the sentinels as they are. -/
noncomputable def laidWorldU (os : Os) : World :=
  { World.holding Tryz.prog os ⟨#[.cells #[.string synB] 203, .cells #[.string rngB] 203], #[], []⟩ with
    heap := ((((((((World.holding Tryz.prog os ⟨#[.cells #[.string synB] 203, .cells #[.string rngB] 203], #[], []⟩).heap.modify 2 (relaid firstCells)).modify 3 (relaid rangeCells)).modify 6 (relaid powCells)).modify 7 (relaid bruijn32)).modify 8 (relaid bruijn64)).modify 1 (relaid (tabNums.map fun z => Value.int .u32 z).toArray)).modify 4 (relaid #[.iface 201 (.pointer (some ⟨lowU, 0, none⟩))])).modify 5 (relaid #[.iface 201 (.pointer (some ⟨lowU + 1, 0, none⟩))]) }
theorem laid_metU (os : Os) (args : Array Value) : laidMet Tryz.prog laidList ((laidWorldU os).forCall (fun _ _ => 0) ⟨#[], args, []⟩).memory :=
  laidMet_of_run' 8 (by kernel_rfl) (by kernel_rfl)
end Go.Proofs.YthklgpflaghojaaGreatDoor
