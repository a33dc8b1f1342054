/-
  From the rows' reading of addresses to what the walks ask; what the listed variables hold; a world for the witness.
-/
import Derived.Test.YtejmkijnngkoaaaDoorPRow
import Derived.Test.YtejmkijnngkoaaaDoorUPrint
import Derived.Lib.SmallJoins
import Derived.Stop.LaidErr
import Derived.Stop.ErrReads
namespace Go.Proofs.YtejmkijnngkoaaaDoor
open Go.ChangeShapes Go.WideShapes Go.ChangeAt Go.RowKit

/-- The variables that the rows list. -/
def laidList : List (String × DataW Unit) := [("math/bits.deBruijn32tab", Rows.laid_math_bits_deBruijn32tab), ("math/bits.deBruijn64tab", Rows.laid_math_bits_deBruijn64tab), ("internal/strconv.uint64pow10", Rows.laid_internal_strconv_uint64pow10), ("unicode/utf8.acceptRanges", Rows.laid_unicode_utf8_acceptRanges), ("strconv.ErrRange", Rows.laid_strconv_ErrRange), ("strconv.ErrSyntax", Rows.laid_strconv_ErrSyntax), ("unicode/utf8.first", Rows.laid_unicode_utf8_first)]
theorem laid_plain {W : World} (h : laidMetH Tryd.prog laidList W) : laidMet Tryd.prog laidList W := by
  have e : (laidList.filter fun x => x.2.handleName?.isSome) = [] := by kernel_rfl
  unfold laidMetH at h
  rw [e] at h
  exact h
theorem star_err : "*" ++ "errors.errorString" = "*errors.errorString" := by decide
theorem row_err (u : TypeId) (h : Tryd.prog.typeName? 3 u = some "*errors.errorString") : u = 112 :=
  typeName_ptr_named (nm := "errors.errorString") (by rw [star_err]; kernel_rfl) (by kernel_rfl) (by decide) u (by rw [star_err]; exact h)
theorem pow_data {H : Type} : (Rows.laid_internal_strconv_uint64pow10 : DataW H) = Lib.tabData .u64 Lib.pow10Tab := by
  unfold Rows.laid_internal_strconv_uint64pow10 Lib.tabData Lib.pow10Tab
  rfl
theorem held_of {W : World} (h : laidMetH Tryd.prog laidList W) : Held W := by
  have h0 := laid_plain h
  have h2 : laidMet Tryd.prog (("internal/strconv.uint64pow10", Lib.tabData .u64 Lib.pow10Tab) :: laidList.drop 3) W := by
    have := h0.tail.tail
    rw [← pow_data]
    exact this
  have h4 : laidMet Tryd.prog (("strconv.ErrRange", Rows.laid_strconv_ErrRange) :: laidList.drop 5) W := h0.tail.tail.tail.tail
  have h5 : laidMet Tryd.prog (("strconv.ErrSyntax", Rows.laid_strconv_ErrSyntax) :: laidList.drop 6) W := h0.tail.tail.tail.tail.tail
  refine ⟨Lib.tabIs_of_head (g := 5) (t := 116) (e := 97) (n := 20) (by kernel_rfl) (by kernel_rfl) (by kernel_rfl) (by kernel_rfl) (by kernel_rfl) (by kernel_rfl) h2, ?_, ?_⟩
  · obtain ⟨a0, s0, hv0, -, -, -⟩ := laid_sentinel h5 (g := 1) (ti := 64) (by kernel_rfl) (by kernel_rfl) Tryd.underlying64 row_err Tryd.underlying112 Tryd.underlying114 rfl rfl Tryd.underlying9 (by kernel_rfl) (by kernel_rfl)
    exact ⟨_, _, hv0⟩
  · obtain ⟨a0, s0, hv0, -, -, -⟩ := laid_sentinel h4 (g := 2) (ti := 64) (by kernel_rfl) (by kernel_rfl) Tryd.underlying64 row_err Tryd.underlying112 Tryd.underlying114 rfl rfl Tryd.underlying9 (by kernel_rfl) (by kernel_rfl)
    exact ⟨_, _, hv0⟩
/-- A slice of pairs that came in is a slice. -/
theorem pairs_shape {H : Type} {enc : TypeId × Value → H} {W : World} {base : Nat} {spare : Nat → Bool} {held : Bool} {fuel : Nat} {v : Value} {d : DataW H} {p : List MemPlace}
    (hf : DataW.trod enc Tryd.prog W base spare held fuel 22 [v] = some (d, p)) : ∃ a len cap, v = .slice a len cap := by
  rcases Deep.open_slice_pairs Tryd.underlying22 Tryd.underlying34 (by kernel_rfl) (by kernel_rfl) (by kernel_rfl) (by kernel_rfl) (by kernel_rfl) hf with ⟨hcs, _⟩ | ⟨x, l, c, m, n, V0, V1, D0, D1, P0, P1, hcs, _⟩
  · exact ⟨_, _, _, by simpa using hcs⟩
  · exact ⟨_, _, _, by simpa using hcs⟩

set_option maxRecDepth 100000 in
/-- An address that came in. -/
theorem url_open {H : Type} {enc : TypeId × Value → H} {W : World} {base b0 : Nat} {spare : Nat → Bool} {held : Bool} {r : Reach} {v : Value} {d : DataW H} {p : List MemPlace}
    (hv : Value.okWide Tryd.prog W r b0 24 v) (h : DataW.Trod enc Tryd.prog W base spare held 24 v d p) :
    ∃ (Hs Ps : ByteArray) (a : Option Addr) (n c : Nat) (L : List (List Nat × List Nat)), v = uval Hs Ps a n c ∧ Row W a (pcells L) ∧ Pq.Fine L ∧ L.length = n ∧ (Rows.uptoBulk d ≤ 1048576 → Hs.size ≤ 1048576 ∧ Ps.size ≤ 1048576 ∧ Short L ∧ L.length ≤ 1048576) := by
  obtain ⟨c0, c1, c2, y0, y1, y2, m, rfl, rfl, rfl, hy0, hy1, hy2⟩ := Go.Joins.open_agg3 Tryd.underlying24 (by kernel_rfl) (by kernel_rfl) hv h
  obtain ⟨s0, e0, x0, _⟩ := DataW.trod_string Tryd.underlying9 hy0
  obtain ⟨s1, e1, x1, _⟩ := DataW.trod_string Tryd.underlying9 hy1
  obtain ⟨d2, p2⟩ := y2
  obtain ⟨a, n, c, rfl⟩ := pairs_shape hy2
  obtain ⟨L, hr, hf, hl, _, hb⟩ := pairs_open hy2
  have f0 : c0 = .string s0 := by simpa using e0
  have f1 : c1 = .string s1 := by simpa using e1
  subst f0 f1
  refine ⟨s0, s1, a, n, c, L, rfl, hr, hf, hl, fun hk => ?_⟩
  have g0 : y0.1 = .lit (.string s0.data.toList) := by rw [x0]
  have g1 : y1.1 = .lit (.string s1.data.toList) := by rw [x1]
  simp only [Rows.uptoBulk, Rows.uptoBulkAll, g0, g1] at hk
  have z0 : s0.data.toList.length = s0.size := by rw [Array.length_toList]; rfl
  have z1 : s1.data.toList.length = s1.size := by rw [Array.length_toList]; rfl
  have := hb (by omega)
  exact ⟨by omega, by omega, this.1, this.2⟩

/-- The tables and the sentinels as the program's text lays them. -/
abbrev synB : ByteArray := { data := #[105, 110, 118, 97, 108, 105, 100, 32, 115, 121, 110, 116, 97, 120] }
abbrev rngB : ByteArray := { data := #[118, 97, 108, 117, 101, 32, 111, 117, 116, 32, 111, 102, 32, 114, 97, 110, 103, 101] }
def powCells : Array Value := (Lib.pow10Tab.map fun z => Value.int .u64 z).toArray
def bruijn32 : Array Value := ([0, 1, 28, 2, 29, 14, 24, 3, 30, 22, 20, 15, 25, 17, 4, 8, 31, 27, 13, 23, 21, 19, 16, 7, 26, 12, 18, 6, 11, 5, 10, 9].map fun (n : Nat) => Value.int .u8 (n : Int)).toArray
def bruijn64 : Array Value := ([0, 1, 56, 2, 57, 49, 28, 3, 61, 58, 42, 50, 38, 29, 17, 4, 62, 47, 59, 36, 45, 43, 51, 22, 53, 39, 33, 30, 24, 18, 12, 5, 63, 55, 48, 27, 60, 41, 37, 16, 46, 35, 44, 21, 52, 32, 23, 11, 54, 26, 40, 15, 34, 20, 31, 10, 25, 14, 19, 9, 13, 8, 7, 6].map fun (n : Nat) => Value.int .u8 (n : Int)).toArray
/-- So many blocks has the settled world. -/
noncomputable def lowU : Nat := (World.holding Tryd.prog default ⟨#[], #[], []⟩).heap.size
/-- A world for the witness: the settled one with two blocks more, the two errors' texts; the tables and the sentinels as they are. -/
noncomputable def laidWorldU (os : Os) : World :=
  { World.holding Tryd.prog os ⟨#[.cells #[.string synB] 114, .cells #[.string rngB] 114], #[], []⟩ with
    heap := (((((((World.holding Tryd.prog os ⟨#[.cells #[.string synB] 114, .cells #[.string rngB] 114], #[], []⟩).heap.modify 3 (relaid firstCells)).modify 4 (relaid rangeCells)).modify 5 (relaid powCells)).modify 6 (relaid bruijn32)).modify 7 (relaid bruijn64)).modify 1 (relaid #[.iface 112 (.pointer (some ⟨lowU, 0, none⟩))])).modify 2 (relaid #[.iface 112 (.pointer (some ⟨lowU + 1, 0, none⟩))]) }
theorem laid_metU (os : Os) (args : Array Value) : laidMet Tryd.prog laidList ((laidWorldU os).forCall (fun _ _ => 0) ⟨#[], args, []⟩).memory :=
  laidMet_of_run' 8 (by kernel_rfl) (by kernel_rfl)
end Go.Proofs.YtejmkijnngkoaaaDoor
