/-
  DERIVED. GIVEN WITH THE SEED: THE CARDS: each row of YtejmkijnngkoaaaGreatDoorRows.lean that lists a variable, with what it lists TIED to the program's text (the seventh form; the later family's looks); each row that meets fmt, with fmt's text TOLD by the authors' own Lean function (tested against real Go, not proved from fmt's source: count such statements apart). THE CARD IS WHAT COUNTS. Prove the row's statement (the work); the ties are given (YtejmkijnngkoaaaGreatDoorTie.lean); close each card by the builder's one call (the guide's Derived/Test/ToyasCard.lean, 'card_holds'). Laid BY PROGRAM, IN A SANDBOX (cutbox-door.mjs). By AI agents, Wed Nov 11 2026. No macro, syntax, notation, axiom, sorry.
-/
import Derived.Test.YtejmkijnngkoaaaGreatDoorRows
import GoSem.ClaimSeven
namespace Go.Proofs.YtejmkijnngkoaaaGreatDoor
namespace Rows

/-- THE TIED CARD OF 'chatelainelaw04.UrlRight'. -/
def urlRightCard : Claim7 := { stood := { row := urlRightRow, standIns := [], harness := (true, "23e29a2a36e1213cf76a028c1074fd95d6602d75ac66b3b48fe4b4956a53a162"), looks := true }, kinds := [], alts := [], laidByText := true, laidKinds := [.data, .data, .data, .data, .sentinel, .sentinel, .pinned], laidTests := true, laidLooks := .later }
def UrlRightCardSaid : Prop := Claim7.holds Tryz.pinned (.plain (OpenSpec.ofChange urlRightSpec)) urlRightCard

/-- THE SECOND FORM's CARD OF 'chatelainelaw04.UrlRight'. -/
def urlRightUptoCard : Claim7 := { stood := { row := urlRightUptoRow, standIns := [], harness := (true, "23e29a2a36e1213cf76a028c1074fd95d6602d75ac66b3b48fe4b4956a53a162"), looks := true }, kinds := [], alts := [], laidByText := true, laidKinds := [.data, .data, .data, .data, .sentinel, .sentinel, .pinned], laidTests := true, laidLooks := .later }
def UrlRightUptoCardSaid : Prop := Claim7.holds Tryz.pinned (.plain (OpenSpec.upto urlRightSpec)) urlRightUptoCard
end Rows
end Go.Proofs.YtejmkijnngkoaaaGreatDoor
