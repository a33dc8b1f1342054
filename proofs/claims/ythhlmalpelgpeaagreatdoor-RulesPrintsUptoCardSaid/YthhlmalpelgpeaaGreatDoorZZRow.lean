/-
  What the eight listed variables hold; a world for the witness.
-/
import Derived.Test.YthhlmalpelgpeaaGreatDoorKRowB
import Derived.Test.YthhlmalpelgpeaaGreatDoorG09
import Derived.Lib.LaidTab
import Derived.Lib.LaidU8T
import Derived.Stop.LaidErr
import Derived.Stop.ErrReads
namespace Go.Proofs.YthhlmalpelgpeaaGreatDoor
open Go.ChangeShapes Go.WideShapes Go.ChangeAt Go.RowKit

/-- The two tables of the library's that the rows list, as cells. -/
def firstCells : Array Value := (Go.Pinned.utf8FirstZ.map fun (n : Nat) => Value.int .u8 (n : Int)).toArray
def rangeCells : Array Value := ([128, 191, 160, 191, 128, 159, 144, 191, 128, 143, 0, 0, 0, 0, 0, 0, 0, 0, 0, 0, 0, 0, 0, 0, 0, 0, 0, 0, 0, 0, 0, 0].map fun (n : Nat) => Value.int .u8 (n : Int)).toArray
/-- The variables that the rows list. -/
def laidList : List (String × DataW Unit) := [("math/bits.deBruijn32tab", Rows.laid_math_bits_deBruijn32tab), ("math/bits.deBruijn64tab", Rows.laid_math_bits_deBruijn64tab), ("internal/strconv.uint64pow10", Rows.laid_internal_strconv_uint64pow10), ("unicode/utf8.acceptRanges", Rows.laid_unicode_utf8_acceptRanges), ("strconv.ErrRange", Rows.laid_strconv_ErrRange), ("strconv.ErrSyntax", Rows.laid_strconv_ErrSyntax), ("chatelaine/rules.keywords", Rows.laid_chatelaine_rules_keywords), ("unicode/utf8.first", Rows.laid_unicode_utf8_first)]
theorem laid_plain {W : World} (h : laidMetH Tryz.prog laidList W) : laidMet Tryz.prog laidList W := by
  have e : (laidList.filter fun x => x.2.handleName?.isSome) = [] := by kernel_rfl
  unfold laidMetH at h
  rw [e] at h
  exact h
theorem star_err : "*" ++ "errors.errorString" = "*errors.errorString" := by decide
theorem row_err (u : TypeId) (h : Tryz.prog.typeName? 3 u = some "*errors.errorString") : u = 158 :=
  typeName_ptr_named (nm := "errors.errorString") (by rw [star_err]; kernel_rfl) (by kernel_rfl) (by decide) u (by rw [star_err]; exact h)
theorem pow_data {H : Type} : (Rows.laid_internal_strconv_uint64pow10 : DataW H) = Lib.tabData .u64 Lib.pow10Tab := by
  unfold Rows.laid_internal_strconv_uint64pow10 Lib.tabData Lib.pow10Tab
  rfl
set_option maxRecDepth 100000 in
theorem kw_data : (Rows.laid_chatelaine_rules_keywords : DataW Unit) = .agg ((List.range 28).map fun i => .lit (.string (strOf (kwAt i)).data.toList)) := by kernel_rfl
theorem bytes_eq {s t : ByteArray} (h : s.data.toList = t.data.toList) : s = t := by
  cases s
  cases t
  congr 1
  exact Array.toList_inj.1 h
theorem cells_kw : Tryz.prog.cellsOf 9 = 1 ∧ Tryz.prog.cellsOf 109 = 28 := ⟨by kernel_rfl, by kernel_rfl⟩
theorem kw_size : kwTab.size = 28 := by
  unfold kwTab
  rw [List.size_toArray, List.length_map]
  rfl
set_option maxRecDepth 100000 in
theorem kw_held {W : World} (h0 : laidMet Tryz.prog laidList W) : W.var? Tryz.prog "chatelaine/rules.keywords" = some kwTab := by
  obtain ⟨g, t, cs, fuel, p, hg, ht, hv, hd⟩ := Lib.laidMet.reads h0 (n := "chatelaine/rules.keywords") (d := Rows.laid_chatelaine_rules_keywords) (List.mem_of_getElem? (i := 6) rfl)
  have hg' : Tryz.prog.globalNamed "chatelaine/rules.keywords" = some 0 := by kernel_rfl
  obtain rfl := Option.some.inj (hg'.symm.trans hg)
  obtain rfl := Option.some.inj ((show (Tryz.prog.globals[(0 : Nat)]?).map (·.type) = some 109 by kernel_rfl).symm.trans ht)
  rw [hv]
  congr 1
  rw [kw_data] at hd
  obtain ⟨xs, m, rfl, hx, hl, hxl, hall⟩ := DataW.trod_array Tryz.underlying109 hd
  rw [cells_kw.2] at hl
  rw [cells_kw.1] at hall
  have hxs : xs.map (·.1) = (List.range 28).map fun i => (.lit (.string (strOf (kwAt i)).data.toList) : DataW Unit) := by
    have := congrArg Prod.fst hx
    simpa using this.symm
  apply Array.toList_inj.1
  apply List.ext_getElem?
  intro i
  by_cases hi : i < 28
  · have h1 := hall i hi
    have hxi : xs[i]? = some (xs[i]'(by omega)) := List.getElem?_eq_getElem (by omega)
    rw [hxi] at h1
    have h2 : (xs[i]'(by omega)).1 = .lit (.string (strOf (kwAt i)).data.toList) := by
      have h3 : (xs.map (·.1))[i]? = some (xs[i]'(by omega)).1 := by rw [List.getElem?_map, hxi]; rfl
      rw [hxs, List.getElem?_map, List.getElem?_range hi] at h3
      exact (Option.some.inj h3).symm
    obtain ⟨s, e1, e2, _⟩ := DataW.trod_string Tryz.underlying9 h1
    have h3 := congrArg Prod.fst e2
    rw [h2] at h3
    have hs : strOf (kwAt i) = s := bytes_eq (by simpa using h3)
    have h4 : (cs.toList.drop (i * 1)).take 1 = [.string s] := e1
    have h5 : cs.toList[i]? = some (.string s) := by
      have h6 : ((cs.toList.drop (i * 1)).take 1)[0]? = some (.string s) := by rw [h4]; rfl
      rw [List.getElem?_take, if_pos (by decide), List.getElem?_drop, Nat.mul_one, Nat.add_zero] at h6
      exact h6
    rw [h5, Array.getElem?_toList, kwTab_at i hi, hs]
  · rw [List.getElem?_eq_none (by omega), List.getElem?_eq_none (by rw [Array.length_toList, kw_size]; omega)]
set_option maxRecDepth 100000 in
theorem held_of {W : World} (h : laidMetH Tryz.prog laidList W) : HeldZ W := by
  have h0 := laid_plain h
  have h2 : laidMet Tryz.prog (("internal/strconv.uint64pow10", Lib.tabData .u64 Lib.pow10Tab) :: laidList.drop 3) W := by
    have := h0.tail.tail
    rw [← pow_data]
    exact this
  have h4 : laidMet Tryz.prog (("strconv.ErrRange", Rows.laid_strconv_ErrRange) :: laidList.drop 5) W := h0.tail.tail.tail.tail
  have h5 : laidMet Tryz.prog (("strconv.ErrSyntax", Rows.laid_strconv_ErrSyntax) :: laidList.drop 6) W := h0.tail.tail.tail.tail.tail
  refine ⟨Lib.tabIs_of_head (g := 6) (t := 162) (e := 145) (n := 20) (by kernel_rfl) (by kernel_rfl) (by kernel_rfl) (by kernel_rfl) (by kernel_rfl) (by kernel_rfl) h2, ?_, ?_, kw_held h0⟩
  · obtain ⟨a0, s0, hv0, -, -, -⟩ := laid_sentinel h5 (g := 4) (ti := 111) (by kernel_rfl) (by kernel_rfl) Tryz.underlying111 row_err Tryz.underlying158 Tryz.underlying160 rfl rfl Tryz.underlying9 (by kernel_rfl) (by kernel_rfl)
    exact ⟨_, _, hv0⟩
  · obtain ⟨a0, s0, hv0, -, -, -⟩ := laid_sentinel h4 (g := 5) (ti := 111) (by kernel_rfl) (by kernel_rfl) Tryz.underlying111 row_err Tryz.underlying158 Tryz.underlying160 rfl rfl Tryz.underlying9 (by kernel_rfl) (by kernel_rfl)
    exact ⟨_, _, hv0⟩
/-- The tables and the sentinels as the program's text lays them. -/
abbrev synB : ByteArray := { data := #[105, 110, 118, 97, 108, 105, 100, 32, 115, 121, 110, 116, 97, 120] }
abbrev rngB : ByteArray := { data := #[118, 97, 108, 117, 101, 32, 111, 117, 116, 32, 111, 102, 32, 114, 97, 110, 103, 101] }
def powCells : Array Value := (Lib.pow10Tab.map fun z => Value.int .u64 z).toArray
def bruijn32 : Array Value := ([0, 1, 28, 2, 29, 14, 24, 3, 30, 22, 20, 15, 25, 17, 4, 8, 31, 27, 13, 23, 21, 19, 16, 7, 26, 12, 18, 6, 11, 5, 10, 9].map fun (n : Nat) => Value.int .u8 (n : Int)).toArray
def bruijn64 : Array Value := ([0, 1, 56, 2, 57, 49, 28, 3, 61, 58, 42, 50, 38, 29, 17, 4, 62, 47, 59, 36, 45, 43, 51, 22, 53, 39, 33, 30, 24, 18, 12, 5, 63, 55, 48, 27, 60, 41, 37, 16, 46, 35, 44, 21, 52, 32, 23, 11, 54, 26, 40, 15, 34, 20, 31, 10, 25, 14, 19, 9, 13, 8, 7, 6].map fun (n : Nat) => Value.int .u8 (n : Int)).toArray
/-- So many blocks has the settled world. -/
noncomputable def lowU : Nat := (World.holding Tryz.prog default ⟨#[], #[], []⟩).heap.size
/-- A world for the witness: the settled one with two blocks more, the two errors' texts; the tables and the sentinels as they are. -/
noncomputable def laidWorldU (os : Os) : World :=
  { World.holding Tryz.prog os ⟨#[.cells #[.string synB] 160, .cells #[.string rngB] 160], #[], []⟩ with
    heap := ((((((((World.holding Tryz.prog os ⟨#[.cells #[.string synB] 160, .cells #[.string rngB] 160], #[], []⟩).heap.modify 1 (relaid firstCells)).modify 2 (relaid rangeCells)).modify 6 (relaid powCells)).modify 7 (relaid bruijn32)).modify 8 (relaid bruijn64)).modify 0 (relaid kwTab)).modify 4 (relaid #[.iface 158 (.pointer (some ⟨lowU, 0, none⟩))])).modify 5 (relaid #[.iface 158 (.pointer (some ⟨lowU + 1, 0, none⟩))]) }
theorem laid_metU (os : Os) (args : Array Value) : laidMet Tryz.prog laidList ((laidWorldU os).forCall (fun _ _ => 0) ⟨#[], args, []⟩).memory :=
  laidMet_of_run' 8 (by kernel_rfl) (by kernel_rfl)
end Go.Proofs.YthhlmalpelgpeaaGreatDoor
