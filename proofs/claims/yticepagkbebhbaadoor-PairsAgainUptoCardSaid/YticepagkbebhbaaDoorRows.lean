/-
  NARROWER THAN 'FOR EVERY INPUT', by the rows' own cells (each row's printed sentence says how): PairsEscapes: laid · PairsUnescapes: laid · PairsBack: laid · PairsParses: laid · PairsPrints: laid · PairsAgain: laid · PairsGets: laid · PairsJoins: laid.
  DERIVED. THE GIVEN ROWS OF THIS SEAT. 8 by the template 'for every input the law returns true; each argument reads behind the call as it read before'; 0 by the template 'total and deterministic' (their statements: YticepagkbebhbaaDoorTotals.lean).
  GIVEN WITH THE SEED: the statements are not yours to turn. If you find one false, say at which input.
  Laid BY PROGRAM, IN A SANDBOX (cutbox-rows.mjs): the forced cells as the released guide's own fill.sh prints them over the translation b052bf1a473e6c96… (all of the seat's roots in one cut). By AI agents, Wed Nov 11 2026. No macro, syntax, notation, axiom, sorry.
-/
import Derived.Test.YticepagkbebhbaaDoorChecked
import GoSem.PinnedTables
import GoSem.Claim
import GoSem.ClaimJoined
import GoSem.ClaimMapViews
import Derived.JoinedTies
import Derived.KernelRfl
namespace Go.Proofs.YticepagkbebhbaaDoor
/- THE CELL 'sum', in the pinned program and in every row, IS THE sha256 OF THE DUMP (.gsa) THAT YticepagkbebhbaaDoorProg.lean LOADS. Nothing in Lean hashes anything: it is a label: what it is worth is what the hold of that sum in a sandbox is worth. -/
noncomputable def Tryd.pinned : Pinned := { name := "yticepagkbebhbaadoor", sum := "b052bf1a473e6c960a73677e47c36f94bfd6ea4d3ba59c55603ae1e294583ca9", checked := Tryd.checked }
namespace Rows
def none {H : Type} : Left H := { results := [], args := [] }

/- WHAT THE LISTED PACKAGE-LEVEL VARIABLES READ AS WHEN THE CALL BEGINS. Each datum BY PROGRAM (the guide's laid-datum.mjs) off the statement by which the dump's own 'gosem.cut.vars' lays the variable. In a bare row this is a premise. The card (YticepagkbebhbaaDoorCards.lean) ties it to the program's text. -/
def laid_unicode_utf8_acceptRanges {H : Type} : DataW H := .agg [.agg [.lit (.int .u8 128), .lit (.int .u8 191)], .agg [.lit (.int .u8 160), .lit (.int .u8 191)], .agg [.lit (.int .u8 128), .lit (.int .u8 159)], .agg [.lit (.int .u8 144), .lit (.int .u8 191)], .agg [.lit (.int .u8 128), .lit (.int .u8 143)], .agg [.lit (.int .u8 0), .lit (.int .u8 0)], .agg [.lit (.int .u8 0), .lit (.int .u8 0)], .agg [.lit (.int .u8 0), .lit (.int .u8 0)], .agg [.lit (.int .u8 0), .lit (.int .u8 0)], .agg [.lit (.int .u8 0), .lit (.int .u8 0)], .agg [.lit (.int .u8 0), .lit (.int .u8 0)], .agg [.lit (.int .u8 0), .lit (.int .u8 0)], .agg [.lit (.int .u8 0), .lit (.int .u8 0)], .agg [.lit (.int .u8 0), .lit (.int .u8 0)], .agg [.lit (.int .u8 0), .lit (.int .u8 0)], .agg [.lit (.int .u8 0), .lit (.int .u8 0)]]
/-- One of Go's own tables, pinned by name: the form's constant. -/
def laid_unicode_utf8_first : DataW Unit := Go.Pinned.utf8First

/-- 'chatelainelaw03.PairsEscapes': WHATEVER THE INPUT: true; the input reads as it did. -/
def pairsEscapesSpec : ChangeSpec := { name := "pairsEscapes", fn := fun _ => fun
  | [d] => { results := [.lit (.bool true)], args := [d] }
  | _ => none }
def pairsEscapesRow : OpenClaim := { program := "yticepagkbebhbaadoor", sum := "b052bf1a473e6c960a73677e47c36f94bfd6ea4d3ba59c55603ae1e294583ca9", func := "chatelaine/chatelainelaw03.PairsEscapes", spec := "pairsEscapes", inPlace := ["internal/bytealg.CountString", "internal/bytealg.IndexByteString", "internal/bytealg.IndexString", "internal/abi.NoEscape", "internal/bytealg.MakeNoZero"], named := ["unicode/utf8.first", "unicode/utf8.acceptRanges", "internal/bytealg.MaxLen"], apart := false, laid := [("unicode/utf8.acceptRanges", laid_unicode_utf8_acceptRanges), ("unicode/utf8.first", laid_unicode_utf8_first)] }
def PairsEscapesSaid : Prop := pairsEscapesRow.holds Tryd.pinned (OpenSpec.ofChange pairsEscapesSpec)

/-- ITS FALSE NEIGHBOUR: 'it returns false'. Refute it at one input. -/
def pairsEscapesWrong : ChangeSpec := { name := "pairsEscapes", fn := fun _ => fun
  | [d] => { results := [.lit (.bool false)], args := [d] }
  | _ => none }
def PairsEscapesWrongFalsely : Prop := pairsEscapesRow.holds Tryd.pinned (OpenSpec.ofChange pairsEscapesWrong)

/-- 'chatelainelaw03.PairsUnescapes': WHATEVER THE INPUT: true; the input reads as it did. -/
def pairsUnescapesSpec : ChangeSpec := { name := "pairsUnescapes", fn := fun _ => fun
  | [d1, d2] => { results := [.lit (.bool true)], args := [d1, d2] }
  | _ => none }
def pairsUnescapesRow : OpenClaim := { program := "yticepagkbebhbaadoor", sum := "b052bf1a473e6c960a73677e47c36f94bfd6ea4d3ba59c55603ae1e294583ca9", func := "chatelaine/chatelainelaw03.PairsUnescapes", spec := "pairsUnescapes", inPlace := ["internal/bytealg.CountString", "internal/bytealg.IndexByteString", "internal/bytealg.IndexString", "internal/abi.NoEscape", "internal/bytealg.MakeNoZero"], named := ["unicode/utf8.first", "unicode/utf8.acceptRanges", "internal/bytealg.MaxLen"], apart := false, laid := [("unicode/utf8.acceptRanges", laid_unicode_utf8_acceptRanges), ("unicode/utf8.first", laid_unicode_utf8_first)] }
def PairsUnescapesSaid : Prop := pairsUnescapesRow.holds Tryd.pinned (OpenSpec.ofChange pairsUnescapesSpec)

/-- ITS FALSE NEIGHBOUR: 'it returns false'. Refute it at one input. -/
def pairsUnescapesWrong : ChangeSpec := { name := "pairsUnescapes", fn := fun _ => fun
  | [d1, d2] => { results := [.lit (.bool false)], args := [d1, d2] }
  | _ => none }
def PairsUnescapesWrongFalsely : Prop := pairsUnescapesRow.holds Tryd.pinned (OpenSpec.ofChange pairsUnescapesWrong)

/-- 'chatelainelaw03.PairsBack': WHATEVER THE INPUT: true; the input reads as it did. -/
def pairsBackSpec : ChangeSpec := { name := "pairsBack", fn := fun _ => fun
  | [d1, d2] => { results := [.lit (.bool true)], args := [d1, d2] }
  | _ => none }
def pairsBackRow : OpenClaim := { program := "yticepagkbebhbaadoor", sum := "b052bf1a473e6c960a73677e47c36f94bfd6ea4d3ba59c55603ae1e294583ca9", func := "chatelaine/chatelainelaw03.PairsBack", spec := "pairsBack", inPlace := ["internal/bytealg.CountString", "internal/bytealg.IndexByteString", "internal/bytealg.IndexString", "internal/abi.NoEscape", "internal/bytealg.MakeNoZero"], named := ["unicode/utf8.first", "unicode/utf8.acceptRanges", "internal/bytealg.MaxLen"], apart := false, laid := [("unicode/utf8.acceptRanges", laid_unicode_utf8_acceptRanges), ("unicode/utf8.first", laid_unicode_utf8_first)] }
def PairsBackSaid : Prop := pairsBackRow.holds Tryd.pinned (OpenSpec.ofChange pairsBackSpec)

/-- ITS FALSE NEIGHBOUR: 'it returns false'. Refute it at one input. -/
def pairsBackWrong : ChangeSpec := { name := "pairsBack", fn := fun _ => fun
  | [d1, d2] => { results := [.lit (.bool false)], args := [d1, d2] }
  | _ => none }
def PairsBackWrongFalsely : Prop := pairsBackRow.holds Tryd.pinned (OpenSpec.ofChange pairsBackWrong)

/-- 'chatelainelaw03.PairsParses': WHATEVER THE INPUT: true; the input reads as it did. -/
def pairsParsesSpec : ChangeSpec := { name := "pairsParses", fn := fun _ => fun
  | [d] => { results := [.lit (.bool true)], args := [d] }
  | _ => none }
def pairsParsesRow : OpenClaim := { program := "yticepagkbebhbaadoor", sum := "b052bf1a473e6c960a73677e47c36f94bfd6ea4d3ba59c55603ae1e294583ca9", func := "chatelaine/chatelainelaw03.PairsParses", spec := "pairsParses", inPlace := ["internal/bytealg.CountString", "internal/bytealg.IndexByteString", "internal/bytealg.IndexString", "internal/abi.NoEscape", "internal/bytealg.MakeNoZero"], named := ["unicode/utf8.first", "unicode/utf8.acceptRanges", "internal/bytealg.MaxLen"], apart := false, laid := [("unicode/utf8.acceptRanges", laid_unicode_utf8_acceptRanges), ("unicode/utf8.first", laid_unicode_utf8_first)] }
def PairsParsesSaid : Prop := pairsParsesRow.holds Tryd.pinned (OpenSpec.ofChange pairsParsesSpec)

/-- ITS FALSE NEIGHBOUR: 'it returns false'. Refute it at one input. -/
def pairsParsesWrong : ChangeSpec := { name := "pairsParses", fn := fun _ => fun
  | [d] => { results := [.lit (.bool false)], args := [d] }
  | _ => none }
def PairsParsesWrongFalsely : Prop := pairsParsesRow.holds Tryd.pinned (OpenSpec.ofChange pairsParsesWrong)

/-- 'chatelainelaw03.PairsPrints': WHATEVER THE INPUT: true; the input reads as it did. -/
def pairsPrintsSpec : ChangeSpec := { name := "pairsPrints", fn := fun _ => fun
  | [d] => { results := [.lit (.bool true)], args := [d] }
  | _ => none }
def pairsPrintsRow : OpenClaim := { program := "yticepagkbebhbaadoor", sum := "b052bf1a473e6c960a73677e47c36f94bfd6ea4d3ba59c55603ae1e294583ca9", func := "chatelaine/chatelainelaw03.PairsPrints", spec := "pairsPrints", inPlace := ["internal/bytealg.CountString", "internal/bytealg.IndexByteString", "internal/bytealg.IndexString", "internal/abi.NoEscape", "internal/bytealg.MakeNoZero"], named := ["unicode/utf8.first", "unicode/utf8.acceptRanges", "internal/bytealg.MaxLen"], apart := false, laid := [("unicode/utf8.acceptRanges", laid_unicode_utf8_acceptRanges), ("unicode/utf8.first", laid_unicode_utf8_first)] }
def PairsPrintsSaid : Prop := pairsPrintsRow.holds Tryd.pinned (OpenSpec.ofChange pairsPrintsSpec)

/-- ITS FALSE NEIGHBOUR: 'it returns false'. Refute it at one input. -/
def pairsPrintsWrong : ChangeSpec := { name := "pairsPrints", fn := fun _ => fun
  | [d] => { results := [.lit (.bool false)], args := [d] }
  | _ => none }
def PairsPrintsWrongFalsely : Prop := pairsPrintsRow.holds Tryd.pinned (OpenSpec.ofChange pairsPrintsWrong)

/-- 'chatelainelaw03.PairsAgain': WHATEVER THE INPUT: true; the input reads as it did. -/
def pairsAgainSpec : ChangeSpec := { name := "pairsAgain", fn := fun _ => fun
  | [d] => { results := [.lit (.bool true)], args := [d] }
  | _ => none }
def pairsAgainRow : OpenClaim := { program := "yticepagkbebhbaadoor", sum := "b052bf1a473e6c960a73677e47c36f94bfd6ea4d3ba59c55603ae1e294583ca9", func := "chatelaine/chatelainelaw03.PairsAgain", spec := "pairsAgain", inPlace := ["internal/bytealg.CountString", "internal/bytealg.IndexByteString", "internal/bytealg.IndexString", "internal/abi.NoEscape", "internal/bytealg.MakeNoZero"], named := ["unicode/utf8.first", "unicode/utf8.acceptRanges", "internal/bytealg.MaxLen"], apart := false, laid := [("unicode/utf8.acceptRanges", laid_unicode_utf8_acceptRanges), ("unicode/utf8.first", laid_unicode_utf8_first)] }
def PairsAgainSaid : Prop := pairsAgainRow.holds Tryd.pinned (OpenSpec.ofChange pairsAgainSpec)

/-- ITS FALSE NEIGHBOUR: 'it returns false'. Refute it at one input. -/
def pairsAgainWrong : ChangeSpec := { name := "pairsAgain", fn := fun _ => fun
  | [d] => { results := [.lit (.bool false)], args := [d] }
  | _ => none }
def PairsAgainWrongFalsely : Prop := pairsAgainRow.holds Tryd.pinned (OpenSpec.ofChange pairsAgainWrong)

/-- 'chatelainelaw03.PairsGets': WHATEVER THE INPUT: true; the input reads as it did. -/
def pairsGetsSpec : ChangeSpec := { name := "pairsGets", fn := fun _ => fun
  | [d1, d2] => { results := [.lit (.bool true)], args := [d1, d2] }
  | _ => none }
def pairsGetsRow : OpenClaim := { program := "yticepagkbebhbaadoor", sum := "b052bf1a473e6c960a73677e47c36f94bfd6ea4d3ba59c55603ae1e294583ca9", func := "chatelaine/chatelainelaw03.PairsGets", spec := "pairsGets", inPlace := ["internal/bytealg.CountString", "internal/bytealg.IndexByteString", "internal/bytealg.IndexString", "internal/abi.NoEscape", "internal/bytealg.MakeNoZero"], named := ["unicode/utf8.first", "unicode/utf8.acceptRanges", "internal/bytealg.MaxLen"], apart := false, laid := [("unicode/utf8.acceptRanges", laid_unicode_utf8_acceptRanges), ("unicode/utf8.first", laid_unicode_utf8_first)] }
def PairsGetsSaid : Prop := pairsGetsRow.holds Tryd.pinned (OpenSpec.ofChange pairsGetsSpec)

/-- ITS FALSE NEIGHBOUR: 'it returns false'. Refute it at one input. -/
def pairsGetsWrong : ChangeSpec := { name := "pairsGets", fn := fun _ => fun
  | [d1, d2] => { results := [.lit (.bool false)], args := [d1, d2] }
  | _ => none }
def PairsGetsWrongFalsely : Prop := pairsGetsRow.holds Tryd.pinned (OpenSpec.ofChange pairsGetsWrong)

/-- 'chatelainelaw03.PairsJoins': WHATEVER THE INPUT: true; the input reads as it did. -/
def pairsJoinsSpec : ChangeSpec := { name := "pairsJoins", fn := fun _ => fun
  | [d1, d2] => { results := [.lit (.bool true)], args := [d1, d2] }
  | _ => none }
def pairsJoinsRow : OpenClaim := { program := "yticepagkbebhbaadoor", sum := "b052bf1a473e6c960a73677e47c36f94bfd6ea4d3ba59c55603ae1e294583ca9", func := "chatelaine/chatelainelaw03.PairsJoins", spec := "pairsJoins", inPlace := ["internal/bytealg.CountString", "internal/bytealg.IndexByteString", "internal/bytealg.IndexString", "internal/abi.NoEscape", "internal/bytealg.MakeNoZero"], named := ["unicode/utf8.first", "unicode/utf8.acceptRanges", "internal/bytealg.MaxLen"], apart := false, laid := [("unicode/utf8.acceptRanges", laid_unicode_utf8_acceptRanges), ("unicode/utf8.first", laid_unicode_utf8_first)] }
def PairsJoinsSaid : Prop := pairsJoinsRow.holds Tryd.pinned (OpenSpec.ofChange pairsJoinsSpec)

/-- ITS FALSE NEIGHBOUR: 'it returns false'. Refute it at one input. -/
def pairsJoinsWrong : ChangeSpec := { name := "pairsJoins", fn := fun _ => fun
  | [d1, d2] => { results := [.lit (.bool false)], args := [d1, d2] }
  | _ => none }
def PairsJoinsWrongFalsely : Prop := pairsJoinsRow.holds Tryd.pinned (OpenSpec.ofChange pairsJoinsWrong)

/- THE SECOND FORM. 'bulk': how many values and letters a reading holds, each counted each time it is reached (what is shared counts as often as it is met; a slice's spare places count too). A statement '..UptoSaid' is the law's where the arguments, and the package variables that the reading takes, are together of bulk at most 1048576: NARROWER than '..Said'. Prove '..Said' where nothing that the law and all that it calls make is longer than what came in: it says more and counts as full. Else prove '..UptoSaid'. A law counts once. -/
mutual
def uptoBulk {H : Type} : DataW H → Nat
  | .lit (.string bytes) => bytes.length + 1
  | .lit _ => 1
  | .nil => 1
  | .ptr d => uptoBulk d + 1
  | .slice elems spare => uptoBulkAll elems + uptoBulkAll spare + 1
  | .agg parts => uptoBulkAll parts + 1
  | .iface _ d => uptoBulk d + 1
  | .map entries => uptoBulkEntries entries + 1
  | .held _ => 1
def uptoBulkAll {H : Type} : List (DataW H) → Nat
  | [] => 0
  | d :: r => uptoBulk d + uptoBulkAll r
def uptoBulkEntries {H : Type} : List (Lit × DataW H) → Nat
  | [] => 0
  | x :: r => uptoBulkEntry x + uptoBulkEntries r
def uptoBulkEntry {H : Type} : Lit × DataW H → Nat
  | (.string bytes, d) => bytes.length + uptoBulk d + 1
  | (_, d) => uptoBulk d + 1
 end
def uptoSmall : (H : Type) → List (DataW H) → Bool := fun _ ds => decide (uptoBulkAll ds ≤ 1048576)
def OpenSpec.upto (s : _root_.Go.ChangeSpec) : _root_.Go.OpenSpec := { _root_.Go.OpenSpec.ofChange s with cond := some uptoSmall }

/-- 'chatelainelaw03.PairsEscapes', WHERE WHAT IT READS IS OF BULK AT MOST 1048576: true; the input reads as it did. -/
def pairsEscapesUptoRow : OpenClaim := { program := "yticepagkbebhbaadoor", sum := "b052bf1a473e6c960a73677e47c36f94bfd6ea4d3ba59c55603ae1e294583ca9", func := "chatelaine/chatelainelaw03.PairsEscapes", spec := "pairsEscapes", inPlace := ["internal/bytealg.CountString", "internal/bytealg.IndexByteString", "internal/bytealg.IndexString", "internal/abi.NoEscape", "internal/bytealg.MakeNoZero"], named := ["unicode/utf8.first", "unicode/utf8.acceptRanges", "internal/bytealg.MaxLen"], apart := false, laid := [("unicode/utf8.acceptRanges", laid_unicode_utf8_acceptRanges), ("unicode/utf8.first", laid_unicode_utf8_first)], narrowed := true }
def PairsEscapesUptoSaid : Prop := pairsEscapesUptoRow.holds Tryd.pinned (OpenSpec.upto pairsEscapesSpec)

/-- 'chatelainelaw03.PairsUnescapes', WHERE WHAT IT READS IS OF BULK AT MOST 1048576: true; the input reads as it did. -/
def pairsUnescapesUptoRow : OpenClaim := { program := "yticepagkbebhbaadoor", sum := "b052bf1a473e6c960a73677e47c36f94bfd6ea4d3ba59c55603ae1e294583ca9", func := "chatelaine/chatelainelaw03.PairsUnescapes", spec := "pairsUnescapes", inPlace := ["internal/bytealg.CountString", "internal/bytealg.IndexByteString", "internal/bytealg.IndexString", "internal/abi.NoEscape", "internal/bytealg.MakeNoZero"], named := ["unicode/utf8.first", "unicode/utf8.acceptRanges", "internal/bytealg.MaxLen"], apart := false, laid := [("unicode/utf8.acceptRanges", laid_unicode_utf8_acceptRanges), ("unicode/utf8.first", laid_unicode_utf8_first)], narrowed := true }
def PairsUnescapesUptoSaid : Prop := pairsUnescapesUptoRow.holds Tryd.pinned (OpenSpec.upto pairsUnescapesSpec)

/-- 'chatelainelaw03.PairsBack', WHERE WHAT IT READS IS OF BULK AT MOST 1048576: true; the input reads as it did. -/
def pairsBackUptoRow : OpenClaim := { program := "yticepagkbebhbaadoor", sum := "b052bf1a473e6c960a73677e47c36f94bfd6ea4d3ba59c55603ae1e294583ca9", func := "chatelaine/chatelainelaw03.PairsBack", spec := "pairsBack", inPlace := ["internal/bytealg.CountString", "internal/bytealg.IndexByteString", "internal/bytealg.IndexString", "internal/abi.NoEscape", "internal/bytealg.MakeNoZero"], named := ["unicode/utf8.first", "unicode/utf8.acceptRanges", "internal/bytealg.MaxLen"], apart := false, laid := [("unicode/utf8.acceptRanges", laid_unicode_utf8_acceptRanges), ("unicode/utf8.first", laid_unicode_utf8_first)], narrowed := true }
def PairsBackUptoSaid : Prop := pairsBackUptoRow.holds Tryd.pinned (OpenSpec.upto pairsBackSpec)

/-- 'chatelainelaw03.PairsParses', WHERE WHAT IT READS IS OF BULK AT MOST 1048576: true; the input reads as it did. -/
def pairsParsesUptoRow : OpenClaim := { program := "yticepagkbebhbaadoor", sum := "b052bf1a473e6c960a73677e47c36f94bfd6ea4d3ba59c55603ae1e294583ca9", func := "chatelaine/chatelainelaw03.PairsParses", spec := "pairsParses", inPlace := ["internal/bytealg.CountString", "internal/bytealg.IndexByteString", "internal/bytealg.IndexString", "internal/abi.NoEscape", "internal/bytealg.MakeNoZero"], named := ["unicode/utf8.first", "unicode/utf8.acceptRanges", "internal/bytealg.MaxLen"], apart := false, laid := [("unicode/utf8.acceptRanges", laid_unicode_utf8_acceptRanges), ("unicode/utf8.first", laid_unicode_utf8_first)], narrowed := true }
def PairsParsesUptoSaid : Prop := pairsParsesUptoRow.holds Tryd.pinned (OpenSpec.upto pairsParsesSpec)

/-- 'chatelainelaw03.PairsPrints', WHERE WHAT IT READS IS OF BULK AT MOST 1048576: true; the input reads as it did. -/
def pairsPrintsUptoRow : OpenClaim := { program := "yticepagkbebhbaadoor", sum := "b052bf1a473e6c960a73677e47c36f94bfd6ea4d3ba59c55603ae1e294583ca9", func := "chatelaine/chatelainelaw03.PairsPrints", spec := "pairsPrints", inPlace := ["internal/bytealg.CountString", "internal/bytealg.IndexByteString", "internal/bytealg.IndexString", "internal/abi.NoEscape", "internal/bytealg.MakeNoZero"], named := ["unicode/utf8.first", "unicode/utf8.acceptRanges", "internal/bytealg.MaxLen"], apart := false, laid := [("unicode/utf8.acceptRanges", laid_unicode_utf8_acceptRanges), ("unicode/utf8.first", laid_unicode_utf8_first)], narrowed := true }
def PairsPrintsUptoSaid : Prop := pairsPrintsUptoRow.holds Tryd.pinned (OpenSpec.upto pairsPrintsSpec)

/-- 'chatelainelaw03.PairsAgain', WHERE WHAT IT READS IS OF BULK AT MOST 1048576: true; the input reads as it did. -/
def pairsAgainUptoRow : OpenClaim := { program := "yticepagkbebhbaadoor", sum := "b052bf1a473e6c960a73677e47c36f94bfd6ea4d3ba59c55603ae1e294583ca9", func := "chatelaine/chatelainelaw03.PairsAgain", spec := "pairsAgain", inPlace := ["internal/bytealg.CountString", "internal/bytealg.IndexByteString", "internal/bytealg.IndexString", "internal/abi.NoEscape", "internal/bytealg.MakeNoZero"], named := ["unicode/utf8.first", "unicode/utf8.acceptRanges", "internal/bytealg.MaxLen"], apart := false, laid := [("unicode/utf8.acceptRanges", laid_unicode_utf8_acceptRanges), ("unicode/utf8.first", laid_unicode_utf8_first)], narrowed := true }
def PairsAgainUptoSaid : Prop := pairsAgainUptoRow.holds Tryd.pinned (OpenSpec.upto pairsAgainSpec)

/-- 'chatelainelaw03.PairsGets', WHERE WHAT IT READS IS OF BULK AT MOST 1048576: true; the input reads as it did. -/
def pairsGetsUptoRow : OpenClaim := { program := "yticepagkbebhbaadoor", sum := "b052bf1a473e6c960a73677e47c36f94bfd6ea4d3ba59c55603ae1e294583ca9", func := "chatelaine/chatelainelaw03.PairsGets", spec := "pairsGets", inPlace := ["internal/bytealg.CountString", "internal/bytealg.IndexByteString", "internal/bytealg.IndexString", "internal/abi.NoEscape", "internal/bytealg.MakeNoZero"], named := ["unicode/utf8.first", "unicode/utf8.acceptRanges", "internal/bytealg.MaxLen"], apart := false, laid := [("unicode/utf8.acceptRanges", laid_unicode_utf8_acceptRanges), ("unicode/utf8.first", laid_unicode_utf8_first)], narrowed := true }
def PairsGetsUptoSaid : Prop := pairsGetsUptoRow.holds Tryd.pinned (OpenSpec.upto pairsGetsSpec)

/-- 'chatelainelaw03.PairsJoins', WHERE WHAT IT READS IS OF BULK AT MOST 1048576: true; the input reads as it did. -/
def pairsJoinsUptoRow : OpenClaim := { program := "yticepagkbebhbaadoor", sum := "b052bf1a473e6c960a73677e47c36f94bfd6ea4d3ba59c55603ae1e294583ca9", func := "chatelaine/chatelainelaw03.PairsJoins", spec := "pairsJoins", inPlace := ["internal/bytealg.CountString", "internal/bytealg.IndexByteString", "internal/bytealg.IndexString", "internal/abi.NoEscape", "internal/bytealg.MakeNoZero"], named := ["unicode/utf8.first", "unicode/utf8.acceptRanges", "internal/bytealg.MaxLen"], apart := false, laid := [("unicode/utf8.acceptRanges", laid_unicode_utf8_acceptRanges), ("unicode/utf8.first", laid_unicode_utf8_first)], narrowed := true }
def PairsJoinsUptoSaid : Prop := pairsJoinsUptoRow.holds Tryd.pinned (OpenSpec.upto pairsJoinsSpec)

end Rows
end Go.Proofs.YticepagkbebhbaaDoor
