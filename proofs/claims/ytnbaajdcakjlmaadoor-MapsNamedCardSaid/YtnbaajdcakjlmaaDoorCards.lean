/-
  DERIVED. GIVEN WITH THE SEED: THE CARDS: each row of YtnbaajdcakjlmaaDoorRows.lean that lists a variable, with what it lists TIED to the program's text (the seventh form; the later family's looks); each row that meets fmt, with fmt's text TOLD by the authors' own Lean function (tested against real Go, not proved from fmt's source: count such statements apart). THE CARD IS WHAT COUNTS. Prove the row's statement (the work); the ties are given (YtnbaajdcakjlmaaDoorTie.lean); close each card by the builder's one call (the guide's Derived/Test/ToyasCard.lean, 'card_holds'). Laid BY PROGRAM, IN A SANDBOX (cutbox-door.mjs). By AI agents, Wed Nov 11 2026. No macro, syntax, notation, axiom, sorry.
-/
import Derived.Test.YtnbaajdcakjlmaaDoorRows
import GoSem.ClaimSeven
namespace Go.Proofs.YtnbaajdcakjlmaaDoor
namespace Rows

/-- THE TIED CARD OF 'chatelainelaw13.MapsTyped'. -/
def mapsTypedCard : Claim7 := { stood := { row := mapsTypedRow, standIns := [], harness := (true, "a5ad9fcea3c1350109d799d36168e6468c67dbca4947e24652dfe84fd34cdd12"), looks := false }, kinds := [], alts := [], laidByText := true, laidKinds := [.data, .data, .data, .data, .pinned], laidTests := true, laidLooks := .later }
def MapsTypedCardSaid : Prop := Claim7.holds Tryd.pinned (.plain (OpenSpec.ofChange mapsTypedSpec)) mapsTypedCard

/-- THE TIED CARD OF 'chatelainelaw13.MapsNamed'. -/
def mapsNamedCard : Claim7 := { stood := { row := mapsNamedRow, standIns := [], harness := (true, "a5ad9fcea3c1350109d799d36168e6468c67dbca4947e24652dfe84fd34cdd12"), looks := false }, kinds := [], alts := [], laidByText := true, laidKinds := [.data, .data, .data, .data, .pinned], laidTests := true, laidLooks := .later }
def MapsNamedCardSaid : Prop := Claim7.holds Tryd.pinned (.plain (OpenSpec.ofChange mapsNamedSpec)) mapsNamedCard

/-- THE TIED CARD OF 'chatelainelaw13.MapsOnce'. -/
def mapsOnceCard : Claim7 := { stood := { row := mapsOnceRow, standIns := [], harness := (true, "a5ad9fcea3c1350109d799d36168e6468c67dbca4947e24652dfe84fd34cdd12"), looks := false }, kinds := [], alts := [], laidByText := true, laidKinds := [.data, .data, .data, .data, .pinned], laidTests := true, laidLooks := .later }
def MapsOnceCardSaid : Prop := Claim7.holds Tryd.pinned (.plain (OpenSpec.ofChange mapsOnceSpec)) mapsOnceCard

/-- THE TIED CARD OF 'chatelainelaw13.MapsNone'. -/
def mapsNoneCard : Claim7 := { stood := { row := mapsNoneRow, standIns := [], harness := (true, "a5ad9fcea3c1350109d799d36168e6468c67dbca4947e24652dfe84fd34cdd12"), looks := false }, kinds := [], alts := [], laidByText := true, laidKinds := [.data, .data, .data, .data, .pinned], laidTests := true, laidLooks := .later }
def MapsNoneCardSaid : Prop := Claim7.holds Tryd.pinned (.plain (OpenSpec.ofChange mapsNoneSpec)) mapsNoneCard

/-- THE SECOND FORM's CARD OF 'chatelainelaw13.MapsTyped'. -/
def mapsTypedUptoCard : Claim7 := { stood := { row := mapsTypedUptoRow, standIns := [], harness := (true, "a5ad9fcea3c1350109d799d36168e6468c67dbca4947e24652dfe84fd34cdd12"), looks := false }, kinds := [], alts := [], laidByText := true, laidKinds := [.data, .data, .data, .data, .pinned], laidTests := true, laidLooks := .later }
def MapsTypedUptoCardSaid : Prop := Claim7.holds Tryd.pinned (.plain (OpenSpec.upto mapsTypedSpec)) mapsTypedUptoCard

/-- THE SECOND FORM's CARD OF 'chatelainelaw13.MapsNamed'. -/
def mapsNamedUptoCard : Claim7 := { stood := { row := mapsNamedUptoRow, standIns := [], harness := (true, "a5ad9fcea3c1350109d799d36168e6468c67dbca4947e24652dfe84fd34cdd12"), looks := false }, kinds := [], alts := [], laidByText := true, laidKinds := [.data, .data, .data, .data, .pinned], laidTests := true, laidLooks := .later }
def MapsNamedUptoCardSaid : Prop := Claim7.holds Tryd.pinned (.plain (OpenSpec.upto mapsNamedSpec)) mapsNamedUptoCard

/-- THE SECOND FORM's CARD OF 'chatelainelaw13.MapsOnce'. -/
def mapsOnceUptoCard : Claim7 := { stood := { row := mapsOnceUptoRow, standIns := [], harness := (true, "a5ad9fcea3c1350109d799d36168e6468c67dbca4947e24652dfe84fd34cdd12"), looks := false }, kinds := [], alts := [], laidByText := true, laidKinds := [.data, .data, .data, .data, .pinned], laidTests := true, laidLooks := .later }
def MapsOnceUptoCardSaid : Prop := Claim7.holds Tryd.pinned (.plain (OpenSpec.upto mapsOnceSpec)) mapsOnceUptoCard

/-- THE SECOND FORM's CARD OF 'chatelainelaw13.MapsNone'. -/
def mapsNoneUptoCard : Claim7 := { stood := { row := mapsNoneUptoRow, standIns := [], harness := (true, "a5ad9fcea3c1350109d799d36168e6468c67dbca4947e24652dfe84fd34cdd12"), looks := false }, kinds := [], alts := [], laidByText := true, laidKinds := [.data, .data, .data, .data, .pinned], laidTests := true, laidLooks := .later }
def MapsNoneUptoCardSaid : Prop := Claim7.holds Tryd.pinned (.plain (OpenSpec.upto mapsNoneSpec)) mapsNoneUptoCard
end Rows
end Go.Proofs.YtnbaajdcakjlmaaDoor
