/-
  No cell of these rows narrows 'for every input' (looked for: loops, veiled, ifaces, maps, wideKeys, modest, calm, conditions, laid).
  DERIVED. THE GIVEN ROWS OF THIS SEAT. 8 by the template 'for every input the law returns true; each argument reads behind the call as it read before'; 0 by the template 'total and deterministic' (their statements: YthklgpflaghojaaTotals.lean).
  GIVEN WITH THE SEED: the statements are not yours to turn. If you find one false, say at which input.
  Laid BY PROGRAM, IN A SANDBOX (cutbox-rows.mjs): the forced cells as the released guide's own fill.sh prints them over the translation d04b710db99bcf86… (all of the seat's roots in one cut). By AI agents, Wed Nov 11 2026. No macro, syntax, notation, axiom, sorry.
-/
import Derived.Test.YthklgpflaghojaaChecked
import GoSem.Claim
import GoSem.ClaimJoined
import GoSem.ClaimMapViews
import Derived.JoinedTies
import Derived.KernelRfl
namespace Go.Proofs.Ythklgpflaghojaa
/- THE CELL 'sum', in the pinned program and in every row, IS THE sha256 OF THE DUMP (.gsa) THAT YthklgpflaghojaaProg.lean LOADS. Nothing in Lean hashes anything: it is a label: what it is worth is what the hold of that sum in a sandbox is worth. -/
noncomputable def Try.pinned : Pinned := { name := "ythklgpflaghojaa", sum := "d04b710db99bcf869a6ad4f1f9a082bc540750adc26ca06c9685f6d82d264561", checked := Try.checked }
namespace Rows
def none {H : Type} : Left H := { results := [], args := [] }

/-- 'chatelainelaw09.RingRight': WHATEVER THE INPUT: true; the input reads as it did. -/
def ringRightSpec : ChangeSpec := { name := "ringRight", fn := fun _ => fun
  | [d] => { results := [.lit (.bool true)], args := [d] }
  | _ => none }
def ringRightRow : OpenClaim := { program := "ythklgpflaghojaa", sum := "d04b710db99bcf869a6ad4f1f9a082bc540750adc26ca06c9685f6d82d264561", func := "chatelaine/chatelainelaw09.RingRight", spec := "ringRight", unfollowed := true, recurses := true, apart := false }
def RingRightSaid : Prop := ringRightRow.holds Try.pinned (OpenSpec.ofChange ringRightSpec)

/-- ITS FALSE NEIGHBOUR: 'it returns false'. Refute it at one input. -/
def ringRightWrong : ChangeSpec := { name := "ringRight", fn := fun _ => fun
  | [d] => { results := [.lit (.bool false)], args := [d] }
  | _ => none }
def RingRightWrongFalsely : Prop := ringRightRow.holds Try.pinned (OpenSpec.ofChange ringRightWrong)

/-- 'chatelainelaw09.RingRotates': WHATEVER THE INPUT: true; the input reads as it did. -/
def ringRotatesSpec : ChangeSpec := { name := "ringRotates", fn := fun _ => fun
  | [d1, d2, d3] => { results := [.lit (.bool true)], args := [d1, d2, d3] }
  | _ => none }
def ringRotatesRow : OpenClaim := { program := "ythklgpflaghojaa", sum := "d04b710db99bcf869a6ad4f1f9a082bc540750adc26ca06c9685f6d82d264561", func := "chatelaine/chatelainelaw09.RingRotates", spec := "ringRotates", unfollowed := true, recurses := true, apart := false }
def RingRotatesSaid : Prop := ringRotatesRow.holds Try.pinned (OpenSpec.ofChange ringRotatesSpec)

/-- ITS FALSE NEIGHBOUR: 'it returns false'. Refute it at one input. -/
def ringRotatesWrong : ChangeSpec := { name := "ringRotates", fn := fun _ => fun
  | [d1, d2, d3] => { results := [.lit (.bool false)], args := [d1, d2, d3] }
  | _ => none }
def RingRotatesWrongFalsely : Prop := ringRotatesRow.holds Try.pinned (OpenSpec.ofChange ringRotatesWrong)

/-- 'chatelainelaw09.RingDrops': WHATEVER THE INPUT: true; the input reads as it did. -/
def ringDropsSpec : ChangeSpec := { name := "ringDrops", fn := fun _ => fun
  | [d1, d2] => { results := [.lit (.bool true)], args := [d1, d2] }
  | _ => none }
def ringDropsRow : OpenClaim := { program := "ythklgpflaghojaa", sum := "d04b710db99bcf869a6ad4f1f9a082bc540750adc26ca06c9685f6d82d264561", func := "chatelaine/chatelainelaw09.RingDrops", spec := "ringDrops", unfollowed := true, recurses := true, apart := false }
def RingDropsSaid : Prop := ringDropsRow.holds Try.pinned (OpenSpec.ofChange ringDropsSpec)

/-- ITS FALSE NEIGHBOUR: 'it returns false'. Refute it at one input. -/
def ringDropsWrong : ChangeSpec := { name := "ringDrops", fn := fun _ => fun
  | [d1, d2] => { results := [.lit (.bool false)], args := [d1, d2] }
  | _ => none }
def RingDropsWrongFalsely : Prop := ringDropsRow.holds Try.pinned (OpenSpec.ofChange ringDropsWrong)

/-- 'chatelainelaw09.RingSigns': WHATEVER THE INPUT: true; the input reads as it did. -/
def ringSignsSpec : ChangeSpec := { name := "ringSigns", fn := fun _ => fun
  | [d1, d2] => { results := [.lit (.bool true)], args := [d1, d2] }
  | _ => none }
def ringSignsRow : OpenClaim := { program := "ythklgpflaghojaa", sum := "d04b710db99bcf869a6ad4f1f9a082bc540750adc26ca06c9685f6d82d264561", func := "chatelaine/chatelainelaw09.RingSigns", spec := "ringSigns", unfollowed := true, recurses := true, apart := false }
def RingSignsSaid : Prop := ringSignsRow.holds Try.pinned (OpenSpec.ofChange ringSignsSpec)

/-- ITS FALSE NEIGHBOUR: 'it returns false'. Refute it at one input. -/
def ringSignsWrong : ChangeSpec := { name := "ringSigns", fn := fun _ => fun
  | [d1, d2] => { results := [.lit (.bool false)], args := [d1, d2] }
  | _ => none }
def RingSignsWrongFalsely : Prop := ringSignsRow.holds Try.pinned (OpenSpec.ofChange ringSignsWrong)

/-- 'chatelainelaw09.RingFinds': WHATEVER THE INPUT: true; the input reads as it did. -/
def ringFindsSpec : ChangeSpec := { name := "ringFinds", fn := fun _ => fun
  | [d1, d2, d3] => { results := [.lit (.bool true)], args := [d1, d2, d3] }
  | _ => none }
def ringFindsRow : OpenClaim := { program := "ythklgpflaghojaa", sum := "d04b710db99bcf869a6ad4f1f9a082bc540750adc26ca06c9685f6d82d264561", func := "chatelaine/chatelainelaw09.RingFinds", spec := "ringFinds", unfollowed := true, recurses := true, apart := false }
def RingFindsSaid : Prop := ringFindsRow.holds Try.pinned (OpenSpec.ofChange ringFindsSpec)

/-- ITS FALSE NEIGHBOUR: 'it returns false'. Refute it at one input. -/
def ringFindsWrong : ChangeSpec := { name := "ringFinds", fn := fun _ => fun
  | [d1, d2, d3] => { results := [.lit (.bool false)], args := [d1, d2, d3] }
  | _ => none }
def RingFindsWrongFalsely : Prop := ringFindsRow.holds Try.pinned (OpenSpec.ofChange ringFindsWrong)

/-- 'chatelainelaw09.RingStays': WHATEVER THE INPUT: true; the input reads as it did. -/
def ringStaysSpec : ChangeSpec := { name := "ringStays", fn := fun _ => fun
  | [d] => { results := [.lit (.bool true)], args := [d] }
  | _ => none }
def ringStaysRow : OpenClaim := { program := "ythklgpflaghojaa", sum := "d04b710db99bcf869a6ad4f1f9a082bc540750adc26ca06c9685f6d82d264561", func := "chatelaine/chatelainelaw09.RingStays", spec := "ringStays", unfollowed := true, recurses := true, apart := false }
def RingStaysSaid : Prop := ringStaysRow.holds Try.pinned (OpenSpec.ofChange ringStaysSpec)

/-- ITS FALSE NEIGHBOUR: 'it returns false'. Refute it at one input. -/
def ringStaysWrong : ChangeSpec := { name := "ringStays", fn := fun _ => fun
  | [d] => { results := [.lit (.bool false)], args := [d] }
  | _ => none }
def RingStaysWrongFalsely : Prop := ringStaysRow.holds Try.pinned (OpenSpec.ofChange ringStaysWrong)

/-- 'chatelainelaw09.RingKeeps': WHATEVER THE INPUT: true; the input reads as it did. -/
def ringKeepsSpec : ChangeSpec := { name := "ringKeeps", fn := fun _ => fun
  | [d1, d2] => { results := [.lit (.bool true)], args := [d1, d2] }
  | _ => none }
def ringKeepsRow : OpenClaim := { program := "ythklgpflaghojaa", sum := "d04b710db99bcf869a6ad4f1f9a082bc540750adc26ca06c9685f6d82d264561", func := "chatelaine/chatelainelaw09.RingKeeps", spec := "ringKeeps", unfollowed := true, recurses := true, apart := false }
def RingKeepsSaid : Prop := ringKeepsRow.holds Try.pinned (OpenSpec.ofChange ringKeepsSpec)

/-- ITS FALSE NEIGHBOUR: 'it returns false'. Refute it at one input. -/
def ringKeepsWrong : ChangeSpec := { name := "ringKeeps", fn := fun _ => fun
  | [d1, d2] => { results := [.lit (.bool false)], args := [d1, d2] }
  | _ => none }
def RingKeepsWrongFalsely : Prop := ringKeepsRow.holds Try.pinned (OpenSpec.ofChange ringKeepsWrong)

/-- 'chatelainelaw09.RingNewest': WHATEVER THE INPUT: true; the input reads as it did. -/
def ringNewestSpec : ChangeSpec := { name := "ringNewest", fn := fun _ => fun
  | [d1, d2, d3] => { results := [.lit (.bool true)], args := [d1, d2, d3] }
  | _ => none }
def ringNewestRow : OpenClaim := { program := "ythklgpflaghojaa", sum := "d04b710db99bcf869a6ad4f1f9a082bc540750adc26ca06c9685f6d82d264561", func := "chatelaine/chatelainelaw09.RingNewest", spec := "ringNewest", unfollowed := true, recurses := true, apart := false }
def RingNewestSaid : Prop := ringNewestRow.holds Try.pinned (OpenSpec.ofChange ringNewestSpec)

/-- ITS FALSE NEIGHBOUR: 'it returns false'. Refute it at one input. -/
def ringNewestWrong : ChangeSpec := { name := "ringNewest", fn := fun _ => fun
  | [d1, d2, d3] => { results := [.lit (.bool false)], args := [d1, d2, d3] }
  | _ => none }
def RingNewestWrongFalsely : Prop := ringNewestRow.holds Try.pinned (OpenSpec.ofChange ringNewestWrong)

/- THE SECOND FORM. 'bulk': how many values and letters a reading holds, each counted each time it is reached (what is shared counts as often as it is met; a slice's spare places count too). A statement '..UptoSaid' is the law's where the arguments, and the package variables that the reading takes, are together of bulk at most 1048576: NARROWER than '..Said'. Prove '..Said' where nothing that the law and all that it calls make is longer than what came in: it says more and counts as full. Else prove '..UptoSaid'. A law counts once. -/
mutual
def uptoBulk {H : Type} : DataW H → Nat
  | .lit (.string bytes) => bytes.length + 1
  | .lit _ => 1
  | .nil => 1
  | .ptr d => uptoBulk d + 1
  | .slice elems spare => uptoBulkAll elems + uptoBulkAll spare + 1
  | .agg parts => uptoBulkAll parts + 1
  | .iface _ d => uptoBulk d + 1
  | .map entries => uptoBulkEntries entries + 1
  | .held _ => 1
def uptoBulkAll {H : Type} : List (DataW H) → Nat
  | [] => 0
  | d :: r => uptoBulk d + uptoBulkAll r
def uptoBulkEntries {H : Type} : List (Lit × DataW H) → Nat
  | [] => 0
  | x :: r => uptoBulkEntry x + uptoBulkEntries r
def uptoBulkEntry {H : Type} : Lit × DataW H → Nat
  | (.string bytes, d) => bytes.length + uptoBulk d + 1
  | (_, d) => uptoBulk d + 1
 end
def uptoSmall : (H : Type) → List (DataW H) → Bool := fun _ ds => decide (uptoBulkAll ds ≤ 1048576)
def OpenSpec.upto (s : _root_.Go.ChangeSpec) : _root_.Go.OpenSpec := { _root_.Go.OpenSpec.ofChange s with cond := some uptoSmall }

/-- 'chatelainelaw09.RingRight', WHERE WHAT IT READS IS OF BULK AT MOST 1048576: true; the input reads as it did. -/
def ringRightUptoRow : OpenClaim := { program := "ythklgpflaghojaa", sum := "d04b710db99bcf869a6ad4f1f9a082bc540750adc26ca06c9685f6d82d264561", func := "chatelaine/chatelainelaw09.RingRight", spec := "ringRight", unfollowed := true, recurses := true, apart := false, narrowed := true }
def RingRightUptoSaid : Prop := ringRightUptoRow.holds Try.pinned (OpenSpec.upto ringRightSpec)

/-- 'chatelainelaw09.RingRotates', WHERE WHAT IT READS IS OF BULK AT MOST 1048576: true; the input reads as it did. -/
def ringRotatesUptoRow : OpenClaim := { program := "ythklgpflaghojaa", sum := "d04b710db99bcf869a6ad4f1f9a082bc540750adc26ca06c9685f6d82d264561", func := "chatelaine/chatelainelaw09.RingRotates", spec := "ringRotates", unfollowed := true, recurses := true, apart := false, narrowed := true }
def RingRotatesUptoSaid : Prop := ringRotatesUptoRow.holds Try.pinned (OpenSpec.upto ringRotatesSpec)

/-- 'chatelainelaw09.RingDrops', WHERE WHAT IT READS IS OF BULK AT MOST 1048576: true; the input reads as it did. -/
def ringDropsUptoRow : OpenClaim := { program := "ythklgpflaghojaa", sum := "d04b710db99bcf869a6ad4f1f9a082bc540750adc26ca06c9685f6d82d264561", func := "chatelaine/chatelainelaw09.RingDrops", spec := "ringDrops", unfollowed := true, recurses := true, apart := false, narrowed := true }
def RingDropsUptoSaid : Prop := ringDropsUptoRow.holds Try.pinned (OpenSpec.upto ringDropsSpec)

/-- 'chatelainelaw09.RingSigns', WHERE WHAT IT READS IS OF BULK AT MOST 1048576: true; the input reads as it did. -/
def ringSignsUptoRow : OpenClaim := { program := "ythklgpflaghojaa", sum := "d04b710db99bcf869a6ad4f1f9a082bc540750adc26ca06c9685f6d82d264561", func := "chatelaine/chatelainelaw09.RingSigns", spec := "ringSigns", unfollowed := true, recurses := true, apart := false, narrowed := true }
def RingSignsUptoSaid : Prop := ringSignsUptoRow.holds Try.pinned (OpenSpec.upto ringSignsSpec)

/-- 'chatelainelaw09.RingFinds', WHERE WHAT IT READS IS OF BULK AT MOST 1048576: true; the input reads as it did. -/
def ringFindsUptoRow : OpenClaim := { program := "ythklgpflaghojaa", sum := "d04b710db99bcf869a6ad4f1f9a082bc540750adc26ca06c9685f6d82d264561", func := "chatelaine/chatelainelaw09.RingFinds", spec := "ringFinds", unfollowed := true, recurses := true, apart := false, narrowed := true }
def RingFindsUptoSaid : Prop := ringFindsUptoRow.holds Try.pinned (OpenSpec.upto ringFindsSpec)

/-- 'chatelainelaw09.RingStays', WHERE WHAT IT READS IS OF BULK AT MOST 1048576: true; the input reads as it did. -/
def ringStaysUptoRow : OpenClaim := { program := "ythklgpflaghojaa", sum := "d04b710db99bcf869a6ad4f1f9a082bc540750adc26ca06c9685f6d82d264561", func := "chatelaine/chatelainelaw09.RingStays", spec := "ringStays", unfollowed := true, recurses := true, apart := false, narrowed := true }
def RingStaysUptoSaid : Prop := ringStaysUptoRow.holds Try.pinned (OpenSpec.upto ringStaysSpec)

/-- 'chatelainelaw09.RingKeeps', WHERE WHAT IT READS IS OF BULK AT MOST 1048576: true; the input reads as it did. -/
def ringKeepsUptoRow : OpenClaim := { program := "ythklgpflaghojaa", sum := "d04b710db99bcf869a6ad4f1f9a082bc540750adc26ca06c9685f6d82d264561", func := "chatelaine/chatelainelaw09.RingKeeps", spec := "ringKeeps", unfollowed := true, recurses := true, apart := false, narrowed := true }
def RingKeepsUptoSaid : Prop := ringKeepsUptoRow.holds Try.pinned (OpenSpec.upto ringKeepsSpec)

/-- 'chatelainelaw09.RingNewest', WHERE WHAT IT READS IS OF BULK AT MOST 1048576: true; the input reads as it did. -/
def ringNewestUptoRow : OpenClaim := { program := "ythklgpflaghojaa", sum := "d04b710db99bcf869a6ad4f1f9a082bc540750adc26ca06c9685f6d82d264561", func := "chatelaine/chatelainelaw09.RingNewest", spec := "ringNewest", unfollowed := true, recurses := true, apart := false, narrowed := true }
def RingNewestUptoSaid : Prop := ringNewestUptoRow.holds Try.pinned (OpenSpec.upto ringNewestSpec)

end Rows
end Go.Proofs.Ythklgpflaghojaa
