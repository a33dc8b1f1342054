/-
  No cell of these rows narrows 'for every input' (looked for: loops, veiled, ifaces, maps, wideKeys, modest, calm, conditions, laid).
  DERIVED. THE GIVEN ROWS OF THIS SEAT. 7 by the template 'for every input the law returns true; each argument reads behind the call as it read before'; 0 by the template 'total and deterministic' (their statements: YtejjjhehfpeilaaTotals.lean).
  GIVEN WITH THE SEED: the statements are not yours to turn. If you find one false, say at which input.
  Laid BY PROGRAM, IN A SANDBOX (cutbox-rows.mjs): the forced cells as the released guide's own fill.sh prints them over the translation 77518c35314eb891… (all of the seat's roots in one cut). By AI agents, Wed Nov 11 2026. No macro, syntax, notation, axiom, sorry.
-/
import Derived.Test.YtejjjhehfpeilaaChecked
import GoSem.Claim
import GoSem.ClaimJoined
import GoSem.ClaimMapViews
import Derived.JoinedTies
import Derived.KernelRfl
namespace Go.Proofs.Ytejjjhehfpeilaa
/- THE CELL 'sum', in the pinned program and in every row, IS THE sha256 OF THE DUMP (.gsa) THAT YtejjjhehfpeilaaProg.lean LOADS. Nothing in Lean hashes anything: it is a label: what it is worth is what the hold of that sum in a sandbox is worth. -/
noncomputable def Try.pinned : Pinned := { name := "ytejjjhehfpeilaa", sum := "77518c35314eb891c9b3b5788d83392b5cc208ab74fe7808aaaaf46c66a2f951", checked := Try.checked }
namespace Rows
def none {H : Type} : Left H := { results := [], args := [] }

/-- 'chatelainelaw02.BaseWrites': WHATEVER THE INPUT: true; the input reads as it did. -/
def baseWritesSpec : ChangeSpec := { name := "baseWrites", fn := fun _ => fun
  | [d] => { results := [.lit (.bool true)], args := [d] }
  | _ => none }
def baseWritesRow : OpenClaim := { program := "ytejjjhehfpeilaa", sum := "77518c35314eb891c9b3b5788d83392b5cc208ab74fe7808aaaaf46c66a2f951", func := "chatelaine/chatelainelaw02.BaseWrites", spec := "baseWrites", inPlace := ["internal/bytealg.IndexByteString"], apart := false }
def BaseWritesSaid : Prop := baseWritesRow.holds Try.pinned (OpenSpec.ofChange baseWritesSpec)

/-- ITS FALSE NEIGHBOUR: 'it returns false'. Refute it at one input. -/
def baseWritesWrong : ChangeSpec := { name := "baseWrites", fn := fun _ => fun
  | [d] => { results := [.lit (.bool false)], args := [d] }
  | _ => none }
def BaseWritesWrongFalsely : Prop := baseWritesRow.holds Try.pinned (OpenSpec.ofChange baseWritesWrong)

/-- 'chatelainelaw02.BaseReads': WHATEVER THE INPUT: true; the input reads as it did. -/
def baseReadsSpec : ChangeSpec := { name := "baseReads", fn := fun _ => fun
  | [d] => { results := [.lit (.bool true)], args := [d] }
  | _ => none }
def baseReadsRow : OpenClaim := { program := "ytejjjhehfpeilaa", sum := "77518c35314eb891c9b3b5788d83392b5cc208ab74fe7808aaaaf46c66a2f951", func := "chatelaine/chatelainelaw02.BaseReads", spec := "baseReads", inPlace := ["internal/bytealg.IndexByteString"], apart := false }
def BaseReadsSaid : Prop := baseReadsRow.holds Try.pinned (OpenSpec.ofChange baseReadsSpec)

/-- ITS FALSE NEIGHBOUR: 'it returns false'. Refute it at one input. -/
def baseReadsWrong : ChangeSpec := { name := "baseReads", fn := fun _ => fun
  | [d] => { results := [.lit (.bool false)], args := [d] }
  | _ => none }
def BaseReadsWrongFalsely : Prop := baseReadsRow.holds Try.pinned (OpenSpec.ofChange baseReadsWrong)

/-- 'chatelainelaw02.BaseBack': WHATEVER THE INPUT: true; the input reads as it did. -/
def baseBackSpec : ChangeSpec := { name := "baseBack", fn := fun _ => fun
  | [d] => { results := [.lit (.bool true)], args := [d] }
  | _ => none }
def baseBackRow : OpenClaim := { program := "ytejjjhehfpeilaa", sum := "77518c35314eb891c9b3b5788d83392b5cc208ab74fe7808aaaaf46c66a2f951", func := "chatelaine/chatelainelaw02.BaseBack", spec := "baseBack", inPlace := ["internal/bytealg.IndexByteString"], apart := false }
def BaseBackSaid : Prop := baseBackRow.holds Try.pinned (OpenSpec.ofChange baseBackSpec)

/-- ITS FALSE NEIGHBOUR: 'it returns false'. Refute it at one input. -/
def baseBackWrong : ChangeSpec := { name := "baseBack", fn := fun _ => fun
  | [d] => { results := [.lit (.bool false)], args := [d] }
  | _ => none }
def BaseBackWrongFalsely : Prop := baseBackRow.holds Try.pinned (OpenSpec.ofChange baseBackWrong)

/-- 'chatelainelaw02.BaseAgain': WHATEVER THE INPUT: true; the input reads as it did. -/
def baseAgainSpec : ChangeSpec := { name := "baseAgain", fn := fun _ => fun
  | [d] => { results := [.lit (.bool true)], args := [d] }
  | _ => none }
def baseAgainRow : OpenClaim := { program := "ytejjjhehfpeilaa", sum := "77518c35314eb891c9b3b5788d83392b5cc208ab74fe7808aaaaf46c66a2f951", func := "chatelaine/chatelainelaw02.BaseAgain", spec := "baseAgain", inPlace := ["internal/bytealg.IndexByteString"], apart := false }
def BaseAgainSaid : Prop := baseAgainRow.holds Try.pinned (OpenSpec.ofChange baseAgainSpec)

/-- ITS FALSE NEIGHBOUR: 'it returns false'. Refute it at one input. -/
def baseAgainWrong : ChangeSpec := { name := "baseAgain", fn := fun _ => fun
  | [d] => { results := [.lit (.bool false)], args := [d] }
  | _ => none }
def BaseAgainWrongFalsely : Prop := baseAgainRow.holds Try.pinned (OpenSpec.ofChange baseAgainWrong)

/-- 'chatelainelaw02.BaseLong': WHATEVER THE INPUT: true; the input reads as it did. -/
def baseLongSpec : ChangeSpec := { name := "baseLong", fn := fun _ => fun
  | [d] => { results := [.lit (.bool true)], args := [d] }
  | _ => none }
def baseLongRow : OpenClaim := { program := "ytejjjhehfpeilaa", sum := "77518c35314eb891c9b3b5788d83392b5cc208ab74fe7808aaaaf46c66a2f951", func := "chatelaine/chatelainelaw02.BaseLong", spec := "baseLong", inPlace := ["internal/bytealg.IndexByteString"], apart := false }
def BaseLongSaid : Prop := baseLongRow.holds Try.pinned (OpenSpec.ofChange baseLongSpec)

/-- ITS FALSE NEIGHBOUR: 'it returns false'. Refute it at one input. -/
def baseLongWrong : ChangeSpec := { name := "baseLong", fn := fun _ => fun
  | [d] => { results := [.lit (.bool false)], args := [d] }
  | _ => none }
def BaseLongWrongFalsely : Prop := baseLongRow.holds Try.pinned (OpenSpec.ofChange baseLongWrong)

/-- 'chatelainelaw02.BaseJoins': WHATEVER THE INPUT: true; the input reads as it did. -/
def baseJoinsSpec : ChangeSpec := { name := "baseJoins", fn := fun _ => fun
  | [d1, d2] => { results := [.lit (.bool true)], args := [d1, d2] }
  | _ => none }
def baseJoinsRow : OpenClaim := { program := "ytejjjhehfpeilaa", sum := "77518c35314eb891c9b3b5788d83392b5cc208ab74fe7808aaaaf46c66a2f951", func := "chatelaine/chatelainelaw02.BaseJoins", spec := "baseJoins", inPlace := ["internal/bytealg.IndexByteString"], apart := false }
def BaseJoinsSaid : Prop := baseJoinsRow.holds Try.pinned (OpenSpec.ofChange baseJoinsSpec)

/-- ITS FALSE NEIGHBOUR: 'it returns false'. Refute it at one input. -/
def baseJoinsWrong : ChangeSpec := { name := "baseJoins", fn := fun _ => fun
  | [d1, d2] => { results := [.lit (.bool false)], args := [d1, d2] }
  | _ => none }
def BaseJoinsWrongFalsely : Prop := baseJoinsRow.holds Try.pinned (OpenSpec.ofChange baseJoinsWrong)

/-- 'chatelainelaw02.BaseUnlike': WHATEVER THE INPUT: true; the input reads as it did. -/
def baseUnlikeSpec : ChangeSpec := { name := "baseUnlike", fn := fun _ => fun
  | [d1, d2] => { results := [.lit (.bool true)], args := [d1, d2] }
  | _ => none }
def baseUnlikeRow : OpenClaim := { program := "ytejjjhehfpeilaa", sum := "77518c35314eb891c9b3b5788d83392b5cc208ab74fe7808aaaaf46c66a2f951", func := "chatelaine/chatelainelaw02.BaseUnlike", spec := "baseUnlike", inPlace := ["internal/bytealg.IndexByteString"], apart := false }
def BaseUnlikeSaid : Prop := baseUnlikeRow.holds Try.pinned (OpenSpec.ofChange baseUnlikeSpec)

/-- ITS FALSE NEIGHBOUR: 'it returns false'. Refute it at one input. -/
def baseUnlikeWrong : ChangeSpec := { name := "baseUnlike", fn := fun _ => fun
  | [d1, d2] => { results := [.lit (.bool false)], args := [d1, d2] }
  | _ => none }
def BaseUnlikeWrongFalsely : Prop := baseUnlikeRow.holds Try.pinned (OpenSpec.ofChange baseUnlikeWrong)

/- THE SECOND FORM. 'bulk': how many values and letters a reading holds, each counted each time it is reached (what is shared counts as often as it is met; a slice's spare places count too). A statement '..UptoSaid' is the law's where the arguments, and the package variables that the reading takes, are together of bulk at most 1048576: NARROWER than '..Said'. Prove '..Said' where nothing that the law and all that it calls make is longer than what came in: it says more and counts as full. Else prove '..UptoSaid'. A law counts once. -/
mutual
def uptoBulk {H : Type} : DataW H → Nat
  | .lit (.string bytes) => bytes.length + 1
  | .lit _ => 1
  | .nil => 1
  | .ptr d => uptoBulk d + 1
  | .slice elems spare => uptoBulkAll elems + uptoBulkAll spare + 1
  | .agg parts => uptoBulkAll parts + 1
  | .iface _ d => uptoBulk d + 1
  | .map entries => uptoBulkEntries entries + 1
  | .held _ => 1
def uptoBulkAll {H : Type} : List (DataW H) → Nat
  | [] => 0
  | d :: r => uptoBulk d + uptoBulkAll r
def uptoBulkEntries {H : Type} : List (Lit × DataW H) → Nat
  | [] => 0
  | x :: r => uptoBulkEntry x + uptoBulkEntries r
def uptoBulkEntry {H : Type} : Lit × DataW H → Nat
  | (.string bytes, d) => bytes.length + uptoBulk d + 1
  | (_, d) => uptoBulk d + 1
 end
def uptoSmall : (H : Type) → List (DataW H) → Bool := fun _ ds => decide (uptoBulkAll ds ≤ 1048576)
def OpenSpec.upto (s : _root_.Go.ChangeSpec) : _root_.Go.OpenSpec := { _root_.Go.OpenSpec.ofChange s with cond := some uptoSmall }

/-- 'chatelainelaw02.BaseWrites', WHERE WHAT IT READS IS OF BULK AT MOST 1048576: true; the input reads as it did. -/
def baseWritesUptoRow : OpenClaim := { program := "ytejjjhehfpeilaa", sum := "77518c35314eb891c9b3b5788d83392b5cc208ab74fe7808aaaaf46c66a2f951", func := "chatelaine/chatelainelaw02.BaseWrites", spec := "baseWrites", inPlace := ["internal/bytealg.IndexByteString"], apart := false, narrowed := true }
def BaseWritesUptoSaid : Prop := baseWritesUptoRow.holds Try.pinned (OpenSpec.upto baseWritesSpec)

/-- 'chatelainelaw02.BaseReads', WHERE WHAT IT READS IS OF BULK AT MOST 1048576: true; the input reads as it did. -/
def baseReadsUptoRow : OpenClaim := { program := "ytejjjhehfpeilaa", sum := "77518c35314eb891c9b3b5788d83392b5cc208ab74fe7808aaaaf46c66a2f951", func := "chatelaine/chatelainelaw02.BaseReads", spec := "baseReads", inPlace := ["internal/bytealg.IndexByteString"], apart := false, narrowed := true }
def BaseReadsUptoSaid : Prop := baseReadsUptoRow.holds Try.pinned (OpenSpec.upto baseReadsSpec)

/-- 'chatelainelaw02.BaseBack', WHERE WHAT IT READS IS OF BULK AT MOST 1048576: true; the input reads as it did. -/
def baseBackUptoRow : OpenClaim := { program := "ytejjjhehfpeilaa", sum := "77518c35314eb891c9b3b5788d83392b5cc208ab74fe7808aaaaf46c66a2f951", func := "chatelaine/chatelainelaw02.BaseBack", spec := "baseBack", inPlace := ["internal/bytealg.IndexByteString"], apart := false, narrowed := true }
def BaseBackUptoSaid : Prop := baseBackUptoRow.holds Try.pinned (OpenSpec.upto baseBackSpec)

/-- 'chatelainelaw02.BaseAgain', WHERE WHAT IT READS IS OF BULK AT MOST 1048576: true; the input reads as it did. -/
def baseAgainUptoRow : OpenClaim := { program := "ytejjjhehfpeilaa", sum := "77518c35314eb891c9b3b5788d83392b5cc208ab74fe7808aaaaf46c66a2f951", func := "chatelaine/chatelainelaw02.BaseAgain", spec := "baseAgain", inPlace := ["internal/bytealg.IndexByteString"], apart := false, narrowed := true }
def BaseAgainUptoSaid : Prop := baseAgainUptoRow.holds Try.pinned (OpenSpec.upto baseAgainSpec)

/-- 'chatelainelaw02.BaseLong', WHERE WHAT IT READS IS OF BULK AT MOST 1048576: true; the input reads as it did. -/
def baseLongUptoRow : OpenClaim := { program := "ytejjjhehfpeilaa", sum := "77518c35314eb891c9b3b5788d83392b5cc208ab74fe7808aaaaf46c66a2f951", func := "chatelaine/chatelainelaw02.BaseLong", spec := "baseLong", inPlace := ["internal/bytealg.IndexByteString"], apart := false, narrowed := true }
def BaseLongUptoSaid : Prop := baseLongUptoRow.holds Try.pinned (OpenSpec.upto baseLongSpec)

/-- 'chatelainelaw02.BaseJoins', WHERE WHAT IT READS IS OF BULK AT MOST 1048576: true; the input reads as it did. -/
def baseJoinsUptoRow : OpenClaim := { program := "ytejjjhehfpeilaa", sum := "77518c35314eb891c9b3b5788d83392b5cc208ab74fe7808aaaaf46c66a2f951", func := "chatelaine/chatelainelaw02.BaseJoins", spec := "baseJoins", inPlace := ["internal/bytealg.IndexByteString"], apart := false, narrowed := true }
def BaseJoinsUptoSaid : Prop := baseJoinsUptoRow.holds Try.pinned (OpenSpec.upto baseJoinsSpec)

/-- 'chatelainelaw02.BaseUnlike', WHERE WHAT IT READS IS OF BULK AT MOST 1048576: true; the input reads as it did. -/
def baseUnlikeUptoRow : OpenClaim := { program := "ytejjjhehfpeilaa", sum := "77518c35314eb891c9b3b5788d83392b5cc208ab74fe7808aaaaf46c66a2f951", func := "chatelaine/chatelainelaw02.BaseUnlike", spec := "baseUnlike", inPlace := ["internal/bytealg.IndexByteString"], apart := false, narrowed := true }
def BaseUnlikeUptoSaid : Prop := baseUnlikeUptoRow.holds Try.pinned (OpenSpec.upto baseUnlikeSpec)

end Rows
end Go.Proofs.Ytejjjhehfpeilaa
