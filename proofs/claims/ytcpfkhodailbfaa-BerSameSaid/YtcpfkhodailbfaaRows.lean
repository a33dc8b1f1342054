/-
  NARROWER THAN 'FOR EVERY INPUT', by the rows' own cells (each row's printed sentence says how): BerWrites: loops · BerBack: loops · BerCuts: loops · BerSame: loops.
  DERIVED. THE GIVEN ROWS OF THIS SEAT. 8 by the template 'for every input the law returns true; each argument reads behind the call as it read before'; 0 by the template 'total and deterministic' (their statements: YtcpfkhodailbfaaTotals.lean).
  GIVEN WITH THE SEED: the statements are not yours to turn. If you find one false, say at which input.
  Laid BY PROGRAM, IN A SANDBOX (cutbox-rows.mjs): the forced cells as the released guide's own fill.sh prints them over the translation 5e9487469e1c41a2… (all of the seat's roots in one cut). By AI agents, Wed Nov 11 2026. No macro, syntax, notation, axiom, sorry.
-/
import Derived.Test.YtcpfkhodailbfaaChecked
import GoSem.Claim
import GoSem.ClaimJoined
import GoSem.ClaimMapViews
import Derived.JoinedTies
import Derived.KernelRfl
namespace Go.Proofs.Ytcpfkhodailbfaa
/- THE CELL 'sum', in the pinned program and in every row, IS THE sha256 OF THE DUMP (.gsa) THAT YtcpfkhodailbfaaProg.lean LOADS. Nothing in Lean hashes anything: it is a label: what it is worth is what the hold of that sum in a sandbox is worth. -/
noncomputable def Try.pinned : Pinned := { name := "ytcpfkhodailbfaa", sum := "5e9487469e1c41a2fc063d0ddc82453a8d33de5119b4589c22c7209f56e7f3e0", checked := Try.checked }
namespace Rows
def none {H : Type} : Left H := { results := [], args := [] }

/-- 'chatelainelaw06.BerReads': WHATEVER THE INPUT: true; the input reads as it did. -/
def berReadsSpec : ChangeSpec := { name := "berReads", fn := fun _ => fun
  | [d] => { results := [.lit (.bool true)], args := [d] }
  | _ => none }
def berReadsRow : OpenClaim := { program := "ytcpfkhodailbfaa", sum := "5e9487469e1c41a2fc063d0ddc82453a8d33de5119b4589c22c7209f56e7f3e0", func := "chatelaine/chatelainelaw06.BerReads", spec := "berReads", inPlace := ["slices.overlaps[byte]"], recurses := true, apart := false }
def BerReadsSaid : Prop := berReadsRow.holds Try.pinned (OpenSpec.ofChange berReadsSpec)

/-- ITS FALSE NEIGHBOUR: 'it returns false'. Refute it at one input. -/
def berReadsWrong : ChangeSpec := { name := "berReads", fn := fun _ => fun
  | [d] => { results := [.lit (.bool false)], args := [d] }
  | _ => none }
def BerReadsWrongFalsely : Prop := berReadsRow.holds Try.pinned (OpenSpec.ofChange berReadsWrong)

/-- 'chatelainelaw06.BerWrites': WHATEVER THE INPUT: true; the input reads as it did. -/
def berWritesSpec : ChangeSpec := { name := "berWrites", fn := fun _ => fun
  | [d] => { results := [.lit (.bool true)], args := [d] }
  | _ => none }
def berWritesRow : OpenClaim := { program := "ytcpfkhodailbfaa", sum := "5e9487469e1c41a2fc063d0ddc82453a8d33de5119b4589c22c7209f56e7f3e0", func := "chatelaine/chatelainelaw06.BerWrites", spec := "berWrites", inPlace := ["slices.overlaps[byte]"], recurses := true, loops := true, apart := false }
def BerWritesSaid : Prop := berWritesRow.holds Try.pinned (OpenSpec.ofChange berWritesSpec)

/-- ITS FALSE NEIGHBOUR: 'it returns false'. Refute it at one input. -/
def berWritesWrong : ChangeSpec := { name := "berWrites", fn := fun _ => fun
  | [d] => { results := [.lit (.bool false)], args := [d] }
  | _ => none }
def BerWritesWrongFalsely : Prop := berWritesRow.holds Try.pinned (OpenSpec.ofChange berWritesWrong)

/-- 'chatelainelaw06.BerBack': WHATEVER THE INPUT: true; the input reads as it did. -/
def berBackSpec : ChangeSpec := { name := "berBack", fn := fun _ => fun
  | [d] => { results := [.lit (.bool true)], args := [d] }
  | _ => none }
def berBackRow : OpenClaim := { program := "ytcpfkhodailbfaa", sum := "5e9487469e1c41a2fc063d0ddc82453a8d33de5119b4589c22c7209f56e7f3e0", func := "chatelaine/chatelainelaw06.BerBack", spec := "berBack", inPlace := ["slices.overlaps[byte]"], recurses := true, loops := true, apart := false }
def BerBackSaid : Prop := berBackRow.holds Try.pinned (OpenSpec.ofChange berBackSpec)

/-- ITS FALSE NEIGHBOUR: 'it returns false'. Refute it at one input. -/
def berBackWrong : ChangeSpec := { name := "berBack", fn := fun _ => fun
  | [d] => { results := [.lit (.bool false)], args := [d] }
  | _ => none }
def BerBackWrongFalsely : Prop := berBackRow.holds Try.pinned (OpenSpec.ofChange berBackWrong)

/-- 'chatelainelaw06.BerAgain': WHATEVER THE INPUT: true; the input reads as it did. -/
def berAgainSpec : ChangeSpec := { name := "berAgain", fn := fun _ => fun
  | [d] => { results := [.lit (.bool true)], args := [d] }
  | _ => none }
def berAgainRow : OpenClaim := { program := "ytcpfkhodailbfaa", sum := "5e9487469e1c41a2fc063d0ddc82453a8d33de5119b4589c22c7209f56e7f3e0", func := "chatelaine/chatelainelaw06.BerAgain", spec := "berAgain", inPlace := ["slices.overlaps[byte]"], recurses := true, apart := false }
def BerAgainSaid : Prop := berAgainRow.holds Try.pinned (OpenSpec.ofChange berAgainSpec)

/-- ITS FALSE NEIGHBOUR: 'it returns false'. Refute it at one input. -/
def berAgainWrong : ChangeSpec := { name := "berAgain", fn := fun _ => fun
  | [d] => { results := [.lit (.bool false)], args := [d] }
  | _ => none }
def BerAgainWrongFalsely : Prop := berAgainRow.holds Try.pinned (OpenSpec.ofChange berAgainWrong)

/-- 'chatelainelaw06.BerCuts': WHATEVER THE INPUT: true; the input reads as it did. -/
def berCutsSpec : ChangeSpec := { name := "berCuts", fn := fun _ => fun
  | [d1, d2] => { results := [.lit (.bool true)], args := [d1, d2] }
  | _ => none }
def berCutsRow : OpenClaim := { program := "ytcpfkhodailbfaa", sum := "5e9487469e1c41a2fc063d0ddc82453a8d33de5119b4589c22c7209f56e7f3e0", func := "chatelaine/chatelainelaw06.BerCuts", spec := "berCuts", inPlace := ["slices.overlaps[byte]"], recurses := true, loops := true, apart := false }
def BerCutsSaid : Prop := berCutsRow.holds Try.pinned (OpenSpec.ofChange berCutsSpec)

/-- ITS FALSE NEIGHBOUR: 'it returns false'. Refute it at one input. -/
def berCutsWrong : ChangeSpec := { name := "berCuts", fn := fun _ => fun
  | [d1, d2] => { results := [.lit (.bool false)], args := [d1, d2] }
  | _ => none }
def BerCutsWrongFalsely : Prop := berCutsRow.holds Try.pinned (OpenSpec.ofChange berCutsWrong)

/-- 'chatelainelaw06.BerNumbers': WHATEVER THE INPUT: true; the input reads as it did. -/
def berNumbersSpec : ChangeSpec := { name := "berNumbers", fn := fun _ => fun
  | [d] => { results := [.lit (.bool true)], args := [d] }
  | _ => none }
def berNumbersRow : OpenClaim := { program := "ytcpfkhodailbfaa", sum := "5e9487469e1c41a2fc063d0ddc82453a8d33de5119b4589c22c7209f56e7f3e0", func := "chatelaine/chatelainelaw06.BerNumbers", spec := "berNumbers", inPlace := ["slices.overlaps[byte]"], recurses := true, apart := false }
def BerNumbersSaid : Prop := berNumbersRow.holds Try.pinned (OpenSpec.ofChange berNumbersSpec)

/-- ITS FALSE NEIGHBOUR: 'it returns false'. Refute it at one input. -/
def berNumbersWrong : ChangeSpec := { name := "berNumbers", fn := fun _ => fun
  | [d] => { results := [.lit (.bool false)], args := [d] }
  | _ => none }
def BerNumbersWrongFalsely : Prop := berNumbersRow.holds Try.pinned (OpenSpec.ofChange berNumbersWrong)

/-- 'chatelainelaw06.BerNumbersRead': WHATEVER THE INPUT: true; the input reads as it did. -/
def berNumbersReadSpec : ChangeSpec := { name := "berNumbersRead", fn := fun _ => fun
  | [d] => { results := [.lit (.bool true)], args := [d] }
  | _ => none }
def berNumbersReadRow : OpenClaim := { program := "ytcpfkhodailbfaa", sum := "5e9487469e1c41a2fc063d0ddc82453a8d33de5119b4589c22c7209f56e7f3e0", func := "chatelaine/chatelainelaw06.BerNumbersRead", spec := "berNumbersRead", inPlace := ["slices.overlaps[byte]"], recurses := true, apart := false }
def BerNumbersReadSaid : Prop := berNumbersReadRow.holds Try.pinned (OpenSpec.ofChange berNumbersReadSpec)

/-- ITS FALSE NEIGHBOUR: 'it returns false'. Refute it at one input. -/
def berNumbersReadWrong : ChangeSpec := { name := "berNumbersRead", fn := fun _ => fun
  | [d] => { results := [.lit (.bool false)], args := [d] }
  | _ => none }
def BerNumbersReadWrongFalsely : Prop := berNumbersReadRow.holds Try.pinned (OpenSpec.ofChange berNumbersReadWrong)

/-- 'chatelainelaw06.BerSame': WHATEVER THE INPUT: true; the input reads as it did. -/
def berSameSpec : ChangeSpec := { name := "berSame", fn := fun _ => fun
  | [d1, d2] => { results := [.lit (.bool true)], args := [d1, d2] }
  | _ => none }
def berSameRow : OpenClaim := { program := "ytcpfkhodailbfaa", sum := "5e9487469e1c41a2fc063d0ddc82453a8d33de5119b4589c22c7209f56e7f3e0", func := "chatelaine/chatelainelaw06.BerSame", spec := "berSame", inPlace := ["slices.overlaps[byte]"], unfollowed := true, recurses := true, loops := true, apart := false }
def BerSameSaid : Prop := berSameRow.holds Try.pinned (OpenSpec.ofChange berSameSpec)

/-- ITS FALSE NEIGHBOUR: 'it returns false'. Refute it at one input. -/
def berSameWrong : ChangeSpec := { name := "berSame", fn := fun _ => fun
  | [d1, d2] => { results := [.lit (.bool false)], args := [d1, d2] }
  | _ => none }
def BerSameWrongFalsely : Prop := berSameRow.holds Try.pinned (OpenSpec.ofChange berSameWrong)

/- THE SECOND FORM. 'bulk': how many values and letters a reading holds, each counted each time it is reached (what is shared counts as often as it is met; a slice's spare places count too). A statement '..UptoSaid' is the law's where the arguments, and the package variables that the reading takes, are together of bulk at most 1048576: NARROWER than '..Said'. Prove '..Said' where nothing that the law and all that it calls make is longer than what came in: it says more and counts as full. Else prove '..UptoSaid'. A law counts once. -/
mutual
def uptoBulk {H : Type} : DataW H → Nat
  | .lit (.string bytes) => bytes.length + 1
  | .lit _ => 1
  | .nil => 1
  | .ptr d => uptoBulk d + 1
  | .slice elems spare => uptoBulkAll elems + uptoBulkAll spare + 1
  | .agg parts => uptoBulkAll parts + 1
  | .iface _ d => uptoBulk d + 1
  | .map entries => uptoBulkEntries entries + 1
  | .held _ => 1
def uptoBulkAll {H : Type} : List (DataW H) → Nat
  | [] => 0
  | d :: r => uptoBulk d + uptoBulkAll r
def uptoBulkEntries {H : Type} : List (Lit × DataW H) → Nat
  | [] => 0
  | x :: r => uptoBulkEntry x + uptoBulkEntries r
def uptoBulkEntry {H : Type} : Lit × DataW H → Nat
  | (.string bytes, d) => bytes.length + uptoBulk d + 1
  | (_, d) => uptoBulk d + 1
 end
def uptoSmall : (H : Type) → List (DataW H) → Bool := fun _ ds => decide (uptoBulkAll ds ≤ 1048576)
def OpenSpec.upto (s : _root_.Go.ChangeSpec) : _root_.Go.OpenSpec := { _root_.Go.OpenSpec.ofChange s with cond := some uptoSmall }

/-- 'chatelainelaw06.BerReads', WHERE WHAT IT READS IS OF BULK AT MOST 1048576: true; the input reads as it did. -/
def berReadsUptoRow : OpenClaim := { program := "ytcpfkhodailbfaa", sum := "5e9487469e1c41a2fc063d0ddc82453a8d33de5119b4589c22c7209f56e7f3e0", func := "chatelaine/chatelainelaw06.BerReads", spec := "berReads", inPlace := ["slices.overlaps[byte]"], recurses := true, apart := false, narrowed := true }
def BerReadsUptoSaid : Prop := berReadsUptoRow.holds Try.pinned (OpenSpec.upto berReadsSpec)

/-- 'chatelainelaw06.BerWrites', WHERE WHAT IT READS IS OF BULK AT MOST 1048576: true; the input reads as it did. -/
def berWritesUptoRow : OpenClaim := { program := "ytcpfkhodailbfaa", sum := "5e9487469e1c41a2fc063d0ddc82453a8d33de5119b4589c22c7209f56e7f3e0", func := "chatelaine/chatelainelaw06.BerWrites", spec := "berWrites", inPlace := ["slices.overlaps[byte]"], recurses := true, loops := true, apart := false, narrowed := true }
def BerWritesUptoSaid : Prop := berWritesUptoRow.holds Try.pinned (OpenSpec.upto berWritesSpec)

/-- 'chatelainelaw06.BerBack', WHERE WHAT IT READS IS OF BULK AT MOST 1048576: true; the input reads as it did. -/
def berBackUptoRow : OpenClaim := { program := "ytcpfkhodailbfaa", sum := "5e9487469e1c41a2fc063d0ddc82453a8d33de5119b4589c22c7209f56e7f3e0", func := "chatelaine/chatelainelaw06.BerBack", spec := "berBack", inPlace := ["slices.overlaps[byte]"], recurses := true, loops := true, apart := false, narrowed := true }
def BerBackUptoSaid : Prop := berBackUptoRow.holds Try.pinned (OpenSpec.upto berBackSpec)

/-- 'chatelainelaw06.BerAgain', WHERE WHAT IT READS IS OF BULK AT MOST 1048576: true; the input reads as it did. -/
def berAgainUptoRow : OpenClaim := { program := "ytcpfkhodailbfaa", sum := "5e9487469e1c41a2fc063d0ddc82453a8d33de5119b4589c22c7209f56e7f3e0", func := "chatelaine/chatelainelaw06.BerAgain", spec := "berAgain", inPlace := ["slices.overlaps[byte]"], recurses := true, apart := false, narrowed := true }
def BerAgainUptoSaid : Prop := berAgainUptoRow.holds Try.pinned (OpenSpec.upto berAgainSpec)

/-- 'chatelainelaw06.BerCuts', WHERE WHAT IT READS IS OF BULK AT MOST 1048576: true; the input reads as it did. -/
def berCutsUptoRow : OpenClaim := { program := "ytcpfkhodailbfaa", sum := "5e9487469e1c41a2fc063d0ddc82453a8d33de5119b4589c22c7209f56e7f3e0", func := "chatelaine/chatelainelaw06.BerCuts", spec := "berCuts", inPlace := ["slices.overlaps[byte]"], recurses := true, loops := true, apart := false, narrowed := true }
def BerCutsUptoSaid : Prop := berCutsUptoRow.holds Try.pinned (OpenSpec.upto berCutsSpec)

/-- 'chatelainelaw06.BerNumbers', WHERE WHAT IT READS IS OF BULK AT MOST 1048576: true; the input reads as it did. -/
def berNumbersUptoRow : OpenClaim := { program := "ytcpfkhodailbfaa", sum := "5e9487469e1c41a2fc063d0ddc82453a8d33de5119b4589c22c7209f56e7f3e0", func := "chatelaine/chatelainelaw06.BerNumbers", spec := "berNumbers", inPlace := ["slices.overlaps[byte]"], recurses := true, apart := false, narrowed := true }
def BerNumbersUptoSaid : Prop := berNumbersUptoRow.holds Try.pinned (OpenSpec.upto berNumbersSpec)

/-- 'chatelainelaw06.BerNumbersRead', WHERE WHAT IT READS IS OF BULK AT MOST 1048576: true; the input reads as it did. -/
def berNumbersReadUptoRow : OpenClaim := { program := "ytcpfkhodailbfaa", sum := "5e9487469e1c41a2fc063d0ddc82453a8d33de5119b4589c22c7209f56e7f3e0", func := "chatelaine/chatelainelaw06.BerNumbersRead", spec := "berNumbersRead", inPlace := ["slices.overlaps[byte]"], recurses := true, apart := false, narrowed := true }
def BerNumbersReadUptoSaid : Prop := berNumbersReadUptoRow.holds Try.pinned (OpenSpec.upto berNumbersReadSpec)

/-- 'chatelainelaw06.BerSame', WHERE WHAT IT READS IS OF BULK AT MOST 1048576: true; the input reads as it did. -/
def berSameUptoRow : OpenClaim := { program := "ytcpfkhodailbfaa", sum := "5e9487469e1c41a2fc063d0ddc82453a8d33de5119b4589c22c7209f56e7f3e0", func := "chatelaine/chatelainelaw06.BerSame", spec := "berSame", inPlace := ["slices.overlaps[byte]"], unfollowed := true, recurses := true, loops := true, apart := false, narrowed := true }
def BerSameUptoSaid : Prop := berSameUptoRow.holds Try.pinned (OpenSpec.upto berSameSpec)

end Rows
end Go.Proofs.Ytcpfkhodailbfaa
