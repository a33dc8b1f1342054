/-
  DERIVED. GIVEN WITH THE SEED: THE CARDS: each row of YticepagkbebhbaaDoorRows.lean that lists a variable, with what it lists TIED to the program's text (the seventh form; the later family's looks); each row that meets fmt, with fmt's text TOLD by the authors' own Lean function (tested against real Go, not proved from fmt's source: count such statements apart). THE CARD IS WHAT COUNTS. Prove the row's statement (the work); the ties are given (YticepagkbebhbaaDoorTie.lean); close each card by the builder's one call (the guide's Derived/Test/ToyasCard.lean, 'card_holds'). Laid BY PROGRAM, IN A SANDBOX (cutbox-door.mjs). By AI agents, Wed Nov 11 2026. No macro, syntax, notation, axiom, sorry.
-/
import Derived.Test.YticepagkbebhbaaDoorRows
import GoSem.ClaimSeven
namespace Go.Proofs.YticepagkbebhbaaDoor
namespace Rows

/-- THE TIED CARD OF 'chatelainelaw03.PairsEscapes'. -/
def pairsEscapesCard : Claim7 := { stood := { row := pairsEscapesRow, standIns := [], harness := (true, "7c0b032991a3d1c6fd6027be9b53db56fab4ad42469a26c542d34b45376135d2"), looks := false }, kinds := [], alts := [], laidByText := true, laidKinds := [.data, .pinned], laidTests := true, laidLooks := .later }
def PairsEscapesCardSaid : Prop := Claim7.holds Tryd.pinned (.plain (OpenSpec.ofChange pairsEscapesSpec)) pairsEscapesCard

/-- THE TIED CARD OF 'chatelainelaw03.PairsUnescapes'. -/
def pairsUnescapesCard : Claim7 := { stood := { row := pairsUnescapesRow, standIns := [], harness := (true, "7c0b032991a3d1c6fd6027be9b53db56fab4ad42469a26c542d34b45376135d2"), looks := false }, kinds := [], alts := [], laidByText := true, laidKinds := [.data, .pinned], laidTests := true, laidLooks := .later }
def PairsUnescapesCardSaid : Prop := Claim7.holds Tryd.pinned (.plain (OpenSpec.ofChange pairsUnescapesSpec)) pairsUnescapesCard

/-- THE TIED CARD OF 'chatelainelaw03.PairsBack'. -/
def pairsBackCard : Claim7 := { stood := { row := pairsBackRow, standIns := [], harness := (true, "7c0b032991a3d1c6fd6027be9b53db56fab4ad42469a26c542d34b45376135d2"), looks := false }, kinds := [], alts := [], laidByText := true, laidKinds := [.data, .pinned], laidTests := true, laidLooks := .later }
def PairsBackCardSaid : Prop := Claim7.holds Tryd.pinned (.plain (OpenSpec.ofChange pairsBackSpec)) pairsBackCard

/-- THE TIED CARD OF 'chatelainelaw03.PairsParses'. -/
def pairsParsesCard : Claim7 := { stood := { row := pairsParsesRow, standIns := [], harness := (true, "7c0b032991a3d1c6fd6027be9b53db56fab4ad42469a26c542d34b45376135d2"), looks := false }, kinds := [], alts := [], laidByText := true, laidKinds := [.data, .pinned], laidTests := true, laidLooks := .later }
def PairsParsesCardSaid : Prop := Claim7.holds Tryd.pinned (.plain (OpenSpec.ofChange pairsParsesSpec)) pairsParsesCard

/-- THE TIED CARD OF 'chatelainelaw03.PairsPrints'. -/
def pairsPrintsCard : Claim7 := { stood := { row := pairsPrintsRow, standIns := [], harness := (true, "7c0b032991a3d1c6fd6027be9b53db56fab4ad42469a26c542d34b45376135d2"), looks := false }, kinds := [], alts := [], laidByText := true, laidKinds := [.data, .pinned], laidTests := true, laidLooks := .later }
def PairsPrintsCardSaid : Prop := Claim7.holds Tryd.pinned (.plain (OpenSpec.ofChange pairsPrintsSpec)) pairsPrintsCard

/-- THE TIED CARD OF 'chatelainelaw03.PairsAgain'. -/
def pairsAgainCard : Claim7 := { stood := { row := pairsAgainRow, standIns := [], harness := (true, "7c0b032991a3d1c6fd6027be9b53db56fab4ad42469a26c542d34b45376135d2"), looks := false }, kinds := [], alts := [], laidByText := true, laidKinds := [.data, .pinned], laidTests := true, laidLooks := .later }
def PairsAgainCardSaid : Prop := Claim7.holds Tryd.pinned (.plain (OpenSpec.ofChange pairsAgainSpec)) pairsAgainCard

/-- THE TIED CARD OF 'chatelainelaw03.PairsGets'. -/
def pairsGetsCard : Claim7 := { stood := { row := pairsGetsRow, standIns := [], harness := (true, "7c0b032991a3d1c6fd6027be9b53db56fab4ad42469a26c542d34b45376135d2"), looks := false }, kinds := [], alts := [], laidByText := true, laidKinds := [.data, .pinned], laidTests := true, laidLooks := .later }
def PairsGetsCardSaid : Prop := Claim7.holds Tryd.pinned (.plain (OpenSpec.ofChange pairsGetsSpec)) pairsGetsCard

/-- THE TIED CARD OF 'chatelainelaw03.PairsJoins'. -/
def pairsJoinsCard : Claim7 := { stood := { row := pairsJoinsRow, standIns := [], harness := (true, "7c0b032991a3d1c6fd6027be9b53db56fab4ad42469a26c542d34b45376135d2"), looks := false }, kinds := [], alts := [], laidByText := true, laidKinds := [.data, .pinned], laidTests := true, laidLooks := .later }
def PairsJoinsCardSaid : Prop := Claim7.holds Tryd.pinned (.plain (OpenSpec.ofChange pairsJoinsSpec)) pairsJoinsCard

/-- THE SECOND FORM's CARD OF 'chatelainelaw03.PairsEscapes'. -/
def pairsEscapesUptoCard : Claim7 := { stood := { row := pairsEscapesUptoRow, standIns := [], harness := (true, "7c0b032991a3d1c6fd6027be9b53db56fab4ad42469a26c542d34b45376135d2"), looks := false }, kinds := [], alts := [], laidByText := true, laidKinds := [.data, .pinned], laidTests := true, laidLooks := .later }
def PairsEscapesUptoCardSaid : Prop := Claim7.holds Tryd.pinned (.plain (OpenSpec.upto pairsEscapesSpec)) pairsEscapesUptoCard

/-- THE SECOND FORM's CARD OF 'chatelainelaw03.PairsUnescapes'. -/
def pairsUnescapesUptoCard : Claim7 := { stood := { row := pairsUnescapesUptoRow, standIns := [], harness := (true, "7c0b032991a3d1c6fd6027be9b53db56fab4ad42469a26c542d34b45376135d2"), looks := false }, kinds := [], alts := [], laidByText := true, laidKinds := [.data, .pinned], laidTests := true, laidLooks := .later }
def PairsUnescapesUptoCardSaid : Prop := Claim7.holds Tryd.pinned (.plain (OpenSpec.upto pairsUnescapesSpec)) pairsUnescapesUptoCard

/-- THE SECOND FORM's CARD OF 'chatelainelaw03.PairsBack'. -/
def pairsBackUptoCard : Claim7 := { stood := { row := pairsBackUptoRow, standIns := [], harness := (true, "7c0b032991a3d1c6fd6027be9b53db56fab4ad42469a26c542d34b45376135d2"), looks := false }, kinds := [], alts := [], laidByText := true, laidKinds := [.data, .pinned], laidTests := true, laidLooks := .later }
def PairsBackUptoCardSaid : Prop := Claim7.holds Tryd.pinned (.plain (OpenSpec.upto pairsBackSpec)) pairsBackUptoCard

/-- THE SECOND FORM's CARD OF 'chatelainelaw03.PairsParses'. -/
def pairsParsesUptoCard : Claim7 := { stood := { row := pairsParsesUptoRow, standIns := [], harness := (true, "7c0b032991a3d1c6fd6027be9b53db56fab4ad42469a26c542d34b45376135d2"), looks := false }, kinds := [], alts := [], laidByText := true, laidKinds := [.data, .pinned], laidTests := true, laidLooks := .later }
def PairsParsesUptoCardSaid : Prop := Claim7.holds Tryd.pinned (.plain (OpenSpec.upto pairsParsesSpec)) pairsParsesUptoCard

/-- THE SECOND FORM's CARD OF 'chatelainelaw03.PairsPrints'. -/
def pairsPrintsUptoCard : Claim7 := { stood := { row := pairsPrintsUptoRow, standIns := [], harness := (true, "7c0b032991a3d1c6fd6027be9b53db56fab4ad42469a26c542d34b45376135d2"), looks := false }, kinds := [], alts := [], laidByText := true, laidKinds := [.data, .pinned], laidTests := true, laidLooks := .later }
def PairsPrintsUptoCardSaid : Prop := Claim7.holds Tryd.pinned (.plain (OpenSpec.upto pairsPrintsSpec)) pairsPrintsUptoCard

/-- THE SECOND FORM's CARD OF 'chatelainelaw03.PairsAgain'. -/
def pairsAgainUptoCard : Claim7 := { stood := { row := pairsAgainUptoRow, standIns := [], harness := (true, "7c0b032991a3d1c6fd6027be9b53db56fab4ad42469a26c542d34b45376135d2"), looks := false }, kinds := [], alts := [], laidByText := true, laidKinds := [.data, .pinned], laidTests := true, laidLooks := .later }
def PairsAgainUptoCardSaid : Prop := Claim7.holds Tryd.pinned (.plain (OpenSpec.upto pairsAgainSpec)) pairsAgainUptoCard

/-- THE SECOND FORM's CARD OF 'chatelainelaw03.PairsGets'. -/
def pairsGetsUptoCard : Claim7 := { stood := { row := pairsGetsUptoRow, standIns := [], harness := (true, "7c0b032991a3d1c6fd6027be9b53db56fab4ad42469a26c542d34b45376135d2"), looks := false }, kinds := [], alts := [], laidByText := true, laidKinds := [.data, .pinned], laidTests := true, laidLooks := .later }
def PairsGetsUptoCardSaid : Prop := Claim7.holds Tryd.pinned (.plain (OpenSpec.upto pairsGetsSpec)) pairsGetsUptoCard

/-- THE SECOND FORM's CARD OF 'chatelainelaw03.PairsJoins'. -/
def pairsJoinsUptoCard : Claim7 := { stood := { row := pairsJoinsUptoRow, standIns := [], harness := (true, "7c0b032991a3d1c6fd6027be9b53db56fab4ad42469a26c542d34b45376135d2"), looks := false }, kinds := [], alts := [], laidByText := true, laidKinds := [.data, .pinned], laidTests := true, laidLooks := .later }
def PairsJoinsUptoCardSaid : Prop := Claim7.holds Tryd.pinned (.plain (OpenSpec.upto pairsJoinsSpec)) pairsJoinsUptoCard
end Rows
end Go.Proofs.YticepagkbebhbaaDoor
