/-
  No cell of these rows narrows 'for every input' (looked for: loops, veiled, ifaces, maps, wideKeys, modest, calm, conditions, laid).
  DERIVED. THE GIVEN ROWS OF THIS SEAT. 7 by the template 'for every input the law returns true; each argument reads behind the call as it read before'; 0 by the template 'total and deterministic' (their statements: YtkjofadabaecfaaTotals.lean).
  GIVEN WITH THE SEED: the statements are not yours to turn. If you find one false, say at which input.
  Laid BY PROGRAM, IN A SANDBOX (cutbox-rows.mjs): the forced cells as the released guide's own fill.sh prints them over the translation 6ed40beb428e9441… (all of the seat's roots in one cut). By AI agents, Wed Nov 11 2026. No macro, syntax, notation, axiom, sorry.
-/
import Derived.Test.YtkjofadabaecfaaChecked
import GoSem.Claim
import GoSem.ClaimJoined
import GoSem.ClaimMapViews
import Derived.JoinedTies
import Derived.KernelRfl
namespace Go.Proofs.Ytkjofadabaecfaa
/- THE CELL 'sum', in the pinned program and in every row, IS THE sha256 OF THE DUMP (.gsa) THAT YtkjofadabaecfaaProg.lean LOADS. Nothing in Lean hashes anything: it is a label: what it is worth is what the hold of that sum in a sandbox is worth. -/
noncomputable def Try.pinned : Pinned := { name := "ytkjofadabaecfaa", sum := "6ed40beb428e9441fe212a3745edc4ce6a2e4b859fddcce4976bc96478d1dde9", checked := Try.checked }
namespace Rows
def none {H : Type} : Left H := { results := [], args := [] }

/-- 'chatelainelaw07.LdapBinds': WHATEVER THE INPUT: true; the input reads as it did. -/
def ldapBindsSpec : ChangeSpec := { name := "ldapBinds", fn := fun _ => fun
  | [d] => { results := [.lit (.bool true)], args := [d] }
  | _ => none }
def ldapBindsRow : OpenClaim := { program := "ytkjofadabaecfaa", sum := "6ed40beb428e9441fe212a3745edc4ce6a2e4b859fddcce4976bc96478d1dde9", func := "chatelaine/chatelainelaw07.LdapBinds", spec := "ldapBinds", inPlace := ["slices.overlaps[byte]", "internal/bytealg.IndexByteString", "internal/abi.NoEscape"], unfollowed := true, recurses := true, apart := false }
def LdapBindsSaid : Prop := ldapBindsRow.holds Try.pinned (OpenSpec.ofChange ldapBindsSpec)

/-- ITS FALSE NEIGHBOUR: 'it returns false'. Refute it at one input. -/
def ldapBindsWrong : ChangeSpec := { name := "ldapBinds", fn := fun _ => fun
  | [d] => { results := [.lit (.bool false)], args := [d] }
  | _ => none }
def LdapBindsWrongFalsely : Prop := ldapBindsRow.holds Try.pinned (OpenSpec.ofChange ldapBindsWrong)

/-- 'chatelainelaw07.LdapBindsRead': WHATEVER THE INPUT: true; the input reads as it did. -/
def ldapBindsReadSpec : ChangeSpec := { name := "ldapBindsRead", fn := fun _ => fun
  | [d] => { results := [.lit (.bool true)], args := [d] }
  | _ => none }
def ldapBindsReadRow : OpenClaim := { program := "ytkjofadabaecfaa", sum := "6ed40beb428e9441fe212a3745edc4ce6a2e4b859fddcce4976bc96478d1dde9", func := "chatelaine/chatelainelaw07.LdapBindsRead", spec := "ldapBindsRead", inPlace := ["slices.overlaps[byte]", "internal/bytealg.IndexByteString", "internal/abi.NoEscape"], unfollowed := true, recurses := true, apart := false }
def LdapBindsReadSaid : Prop := ldapBindsReadRow.holds Try.pinned (OpenSpec.ofChange ldapBindsReadSpec)

/-- ITS FALSE NEIGHBOUR: 'it returns false'. Refute it at one input. -/
def ldapBindsReadWrong : ChangeSpec := { name := "ldapBindsRead", fn := fun _ => fun
  | [d] => { results := [.lit (.bool false)], args := [d] }
  | _ => none }
def LdapBindsReadWrongFalsely : Prop := ldapBindsReadRow.holds Try.pinned (OpenSpec.ofChange ldapBindsReadWrong)

/-- 'chatelainelaw07.LdapBounds': WHATEVER THE INPUT: true; the input reads as it did. -/
def ldapBoundsSpec : ChangeSpec := { name := "ldapBounds", fn := fun _ => fun
  | [d] => { results := [.lit (.bool true)], args := [d] }
  | _ => none }
def ldapBoundsRow : OpenClaim := { program := "ytkjofadabaecfaa", sum := "6ed40beb428e9441fe212a3745edc4ce6a2e4b859fddcce4976bc96478d1dde9", func := "chatelaine/chatelainelaw07.LdapBounds", spec := "ldapBounds", inPlace := ["slices.overlaps[byte]", "internal/bytealg.IndexByteString", "internal/abi.NoEscape"], unfollowed := true, recurses := true, apart := false }
def LdapBoundsSaid : Prop := ldapBoundsRow.holds Try.pinned (OpenSpec.ofChange ldapBoundsSpec)

/-- ITS FALSE NEIGHBOUR: 'it returns false'. Refute it at one input. -/
def ldapBoundsWrong : ChangeSpec := { name := "ldapBounds", fn := fun _ => fun
  | [d] => { results := [.lit (.bool false)], args := [d] }
  | _ => none }
def LdapBoundsWrongFalsely : Prop := ldapBoundsRow.holds Try.pinned (OpenSpec.ofChange ldapBoundsWrong)

/-- 'chatelainelaw07.LdapBoundsRead': WHATEVER THE INPUT: true; the input reads as it did. -/
def ldapBoundsReadSpec : ChangeSpec := { name := "ldapBoundsRead", fn := fun _ => fun
  | [d] => { results := [.lit (.bool true)], args := [d] }
  | _ => none }
def ldapBoundsReadRow : OpenClaim := { program := "ytkjofadabaecfaa", sum := "6ed40beb428e9441fe212a3745edc4ce6a2e4b859fddcce4976bc96478d1dde9", func := "chatelaine/chatelainelaw07.LdapBoundsRead", spec := "ldapBoundsRead", inPlace := ["slices.overlaps[byte]", "internal/bytealg.IndexByteString", "internal/abi.NoEscape"], unfollowed := true, recurses := true, apart := false }
def LdapBoundsReadSaid : Prop := ldapBoundsReadRow.holds Try.pinned (OpenSpec.ofChange ldapBoundsReadSpec)

/-- ITS FALSE NEIGHBOUR: 'it returns false'. Refute it at one input. -/
def ldapBoundsReadWrong : ChangeSpec := { name := "ldapBoundsRead", fn := fun _ => fun
  | [d] => { results := [.lit (.bool false)], args := [d] }
  | _ => none }
def LdapBoundsReadWrongFalsely : Prop := ldapBoundsReadRow.holds Try.pinned (OpenSpec.ofChange ldapBoundsReadWrong)

/-- 'chatelainelaw07.LdapApart': WHATEVER THE INPUT: true; the input reads as it did. -/
def ldapApartSpec : ChangeSpec := { name := "ldapApart", fn := fun _ => fun
  | [d] => { results := [.lit (.bool true)], args := [d] }
  | _ => none }
def ldapApartRow : OpenClaim := { program := "ytkjofadabaecfaa", sum := "6ed40beb428e9441fe212a3745edc4ce6a2e4b859fddcce4976bc96478d1dde9", func := "chatelaine/chatelainelaw07.LdapApart", spec := "ldapApart", inPlace := ["slices.overlaps[byte]", "internal/bytealg.IndexByteString", "internal/abi.NoEscape"], unfollowed := true, recurses := true, apart := false }
def LdapApartSaid : Prop := ldapApartRow.holds Try.pinned (OpenSpec.ofChange ldapApartSpec)

/-- ITS FALSE NEIGHBOUR: 'it returns false'. Refute it at one input. -/
def ldapApartWrong : ChangeSpec := { name := "ldapApart", fn := fun _ => fun
  | [d] => { results := [.lit (.bool false)], args := [d] }
  | _ => none }
def LdapApartWrongFalsely : Prop := ldapApartRow.holds Try.pinned (OpenSpec.ofChange ldapApartWrong)

/-- 'chatelainelaw07.LdapNames': WHATEVER THE INPUT: true; the input reads as it did. -/
def ldapNamesSpec : ChangeSpec := { name := "ldapNames", fn := fun _ => fun
  | [d1, d2] => { results := [.lit (.bool true)], args := [d1, d2] }
  | _ => none }
def ldapNamesRow : OpenClaim := { program := "ytkjofadabaecfaa", sum := "6ed40beb428e9441fe212a3745edc4ce6a2e4b859fddcce4976bc96478d1dde9", func := "chatelaine/chatelainelaw07.LdapNames", spec := "ldapNames", inPlace := ["internal/bytealg.IndexByteString", "internal/abi.NoEscape", "slices.overlaps[byte]"], unfollowed := true, recurses := true, apart := false }
def LdapNamesSaid : Prop := ldapNamesRow.holds Try.pinned (OpenSpec.ofChange ldapNamesSpec)

/-- ITS FALSE NEIGHBOUR: 'it returns false'. Refute it at one input. -/
def ldapNamesWrong : ChangeSpec := { name := "ldapNames", fn := fun _ => fun
  | [d1, d2] => { results := [.lit (.bool false)], args := [d1, d2] }
  | _ => none }
def LdapNamesWrongFalsely : Prop := ldapNamesRow.holds Try.pinned (OpenSpec.ofChange ldapNamesWrong)

/-- 'chatelainelaw07.LdapUnlike': WHATEVER THE INPUT: true; the input reads as it did. -/
def ldapUnlikeSpec : ChangeSpec := { name := "ldapUnlike", fn := fun _ => fun
  | [d1, d2, d3] => { results := [.lit (.bool true)], args := [d1, d2, d3] }
  | _ => none }
def ldapUnlikeRow : OpenClaim := { program := "ytkjofadabaecfaa", sum := "6ed40beb428e9441fe212a3745edc4ce6a2e4b859fddcce4976bc96478d1dde9", func := "chatelaine/chatelainelaw07.LdapUnlike", spec := "ldapUnlike", inPlace := ["internal/bytealg.IndexByteString", "internal/abi.NoEscape", "slices.overlaps[byte]"], unfollowed := true, recurses := true, apart := false }
def LdapUnlikeSaid : Prop := ldapUnlikeRow.holds Try.pinned (OpenSpec.ofChange ldapUnlikeSpec)

/-- ITS FALSE NEIGHBOUR: 'it returns false'. Refute it at one input. -/
def ldapUnlikeWrong : ChangeSpec := { name := "ldapUnlike", fn := fun _ => fun
  | [d1, d2, d3] => { results := [.lit (.bool false)], args := [d1, d2, d3] }
  | _ => none }
def LdapUnlikeWrongFalsely : Prop := ldapUnlikeRow.holds Try.pinned (OpenSpec.ofChange ldapUnlikeWrong)

/- THE SECOND FORM. 'bulk': how many values and letters a reading holds, each counted each time it is reached (what is shared counts as often as it is met; a slice's spare places count too). A statement '..UptoSaid' is the law's where the arguments, and the package variables that the reading takes, are together of bulk at most 1048576: NARROWER than '..Said'. Prove '..Said' where nothing that the law and all that it calls make is longer than what came in: it says more and counts as full. Else prove '..UptoSaid'. A law counts once. -/
mutual
def uptoBulk {H : Type} : DataW H → Nat
  | .lit (.string bytes) => bytes.length + 1
  | .lit _ => 1
  | .nil => 1
  | .ptr d => uptoBulk d + 1
  | .slice elems spare => uptoBulkAll elems + uptoBulkAll spare + 1
  | .agg parts => uptoBulkAll parts + 1
  | .iface _ d => uptoBulk d + 1
  | .map entries => uptoBulkEntries entries + 1
  | .held _ => 1
def uptoBulkAll {H : Type} : List (DataW H) → Nat
  | [] => 0
  | d :: r => uptoBulk d + uptoBulkAll r
def uptoBulkEntries {H : Type} : List (Lit × DataW H) → Nat
  | [] => 0
  | x :: r => uptoBulkEntry x + uptoBulkEntries r
def uptoBulkEntry {H : Type} : Lit × DataW H → Nat
  | (.string bytes, d) => bytes.length + uptoBulk d + 1
  | (_, d) => uptoBulk d + 1
 end
def uptoSmall : (H : Type) → List (DataW H) → Bool := fun _ ds => decide (uptoBulkAll ds ≤ 1048576)
def OpenSpec.upto (s : _root_.Go.ChangeSpec) : _root_.Go.OpenSpec := { _root_.Go.OpenSpec.ofChange s with cond := some uptoSmall }

/-- 'chatelainelaw07.LdapBinds', WHERE WHAT IT READS IS OF BULK AT MOST 1048576: true; the input reads as it did. -/
def ldapBindsUptoRow : OpenClaim := { program := "ytkjofadabaecfaa", sum := "6ed40beb428e9441fe212a3745edc4ce6a2e4b859fddcce4976bc96478d1dde9", func := "chatelaine/chatelainelaw07.LdapBinds", spec := "ldapBinds", inPlace := ["slices.overlaps[byte]", "internal/bytealg.IndexByteString", "internal/abi.NoEscape"], unfollowed := true, recurses := true, apart := false, narrowed := true }
def LdapBindsUptoSaid : Prop := ldapBindsUptoRow.holds Try.pinned (OpenSpec.upto ldapBindsSpec)

/-- 'chatelainelaw07.LdapBindsRead', WHERE WHAT IT READS IS OF BULK AT MOST 1048576: true; the input reads as it did. -/
def ldapBindsReadUptoRow : OpenClaim := { program := "ytkjofadabaecfaa", sum := "6ed40beb428e9441fe212a3745edc4ce6a2e4b859fddcce4976bc96478d1dde9", func := "chatelaine/chatelainelaw07.LdapBindsRead", spec := "ldapBindsRead", inPlace := ["slices.overlaps[byte]", "internal/bytealg.IndexByteString", "internal/abi.NoEscape"], unfollowed := true, recurses := true, apart := false, narrowed := true }
def LdapBindsReadUptoSaid : Prop := ldapBindsReadUptoRow.holds Try.pinned (OpenSpec.upto ldapBindsReadSpec)

/-- 'chatelainelaw07.LdapBounds', WHERE WHAT IT READS IS OF BULK AT MOST 1048576: true; the input reads as it did. -/
def ldapBoundsUptoRow : OpenClaim := { program := "ytkjofadabaecfaa", sum := "6ed40beb428e9441fe212a3745edc4ce6a2e4b859fddcce4976bc96478d1dde9", func := "chatelaine/chatelainelaw07.LdapBounds", spec := "ldapBounds", inPlace := ["slices.overlaps[byte]", "internal/bytealg.IndexByteString", "internal/abi.NoEscape"], unfollowed := true, recurses := true, apart := false, narrowed := true }
def LdapBoundsUptoSaid : Prop := ldapBoundsUptoRow.holds Try.pinned (OpenSpec.upto ldapBoundsSpec)

/-- 'chatelainelaw07.LdapBoundsRead', WHERE WHAT IT READS IS OF BULK AT MOST 1048576: true; the input reads as it did. -/
def ldapBoundsReadUptoRow : OpenClaim := { program := "ytkjofadabaecfaa", sum := "6ed40beb428e9441fe212a3745edc4ce6a2e4b859fddcce4976bc96478d1dde9", func := "chatelaine/chatelainelaw07.LdapBoundsRead", spec := "ldapBoundsRead", inPlace := ["slices.overlaps[byte]", "internal/bytealg.IndexByteString", "internal/abi.NoEscape"], unfollowed := true, recurses := true, apart := false, narrowed := true }
def LdapBoundsReadUptoSaid : Prop := ldapBoundsReadUptoRow.holds Try.pinned (OpenSpec.upto ldapBoundsReadSpec)

/-- 'chatelainelaw07.LdapApart', WHERE WHAT IT READS IS OF BULK AT MOST 1048576: true; the input reads as it did. -/
def ldapApartUptoRow : OpenClaim := { program := "ytkjofadabaecfaa", sum := "6ed40beb428e9441fe212a3745edc4ce6a2e4b859fddcce4976bc96478d1dde9", func := "chatelaine/chatelainelaw07.LdapApart", spec := "ldapApart", inPlace := ["slices.overlaps[byte]", "internal/bytealg.IndexByteString", "internal/abi.NoEscape"], unfollowed := true, recurses := true, apart := false, narrowed := true }
def LdapApartUptoSaid : Prop := ldapApartUptoRow.holds Try.pinned (OpenSpec.upto ldapApartSpec)

/-- 'chatelainelaw07.LdapNames', WHERE WHAT IT READS IS OF BULK AT MOST 1048576: true; the input reads as it did. -/
def ldapNamesUptoRow : OpenClaim := { program := "ytkjofadabaecfaa", sum := "6ed40beb428e9441fe212a3745edc4ce6a2e4b859fddcce4976bc96478d1dde9", func := "chatelaine/chatelainelaw07.LdapNames", spec := "ldapNames", inPlace := ["internal/bytealg.IndexByteString", "internal/abi.NoEscape", "slices.overlaps[byte]"], unfollowed := true, recurses := true, apart := false, narrowed := true }
def LdapNamesUptoSaid : Prop := ldapNamesUptoRow.holds Try.pinned (OpenSpec.upto ldapNamesSpec)

/-- 'chatelainelaw07.LdapUnlike', WHERE WHAT IT READS IS OF BULK AT MOST 1048576: true; the input reads as it did. -/
def ldapUnlikeUptoRow : OpenClaim := { program := "ytkjofadabaecfaa", sum := "6ed40beb428e9441fe212a3745edc4ce6a2e4b859fddcce4976bc96478d1dde9", func := "chatelaine/chatelainelaw07.LdapUnlike", spec := "ldapUnlike", inPlace := ["internal/bytealg.IndexByteString", "internal/abi.NoEscape", "slices.overlaps[byte]"], unfollowed := true, recurses := true, apart := false, narrowed := true }
def LdapUnlikeUptoSaid : Prop := ldapUnlikeUptoRow.holds Try.pinned (OpenSpec.upto ldapUnlikeSpec)

end Rows
end Go.Proofs.Ytkjofadabaecfaa
