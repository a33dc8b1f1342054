/-
  DERIVED. GIVEN WITH THE SEED: THE CARDS: each row of YtgojpcoaahcbeaaGreatDoorRows.lean that lists a variable, with what it lists TIED to the program's text (the seventh form; the later family's looks); each row that meets fmt, with fmt's text TOLD by the authors' own Lean function (tested against real Go, not proved from fmt's source: count such statements apart). THE CARD IS WHAT COUNTS. Prove the row's statement (the work); the ties are given (YtgojpcoaahcbeaaGreatDoorTie.lean); close each card by the builder's one call (the guide's Derived/Test/ToyasCard.lean, 'card_holds'). Laid BY PROGRAM, IN A SANDBOX (cutbox-door.mjs). By AI agents, Wed Nov 11 2026. No macro, syntax, notation, axiom, sorry.
-/
import Derived.Test.YtgojpcoaahcbeaaGreatDoorRows
import GoSem.ClaimSeven
namespace Go.Proofs.YtgojpcoaahcbeaaGreatDoor
namespace Rows

/-- THE TIED CARD OF 'chatelainelaw08.JwsSigns'. -/
def jwsSignsCard : Claim7 := { stood := { row := jwsSignsRow, standIns := [], harness := (true, "f42e4180011a8dfe0f43605ec0fb7f9026d0adb303f98196684c01d880010066"), looks := true }, kinds := [], alts := [], laidByText := true, laidKinds := [.data, .data, .data, .data, .data, .sentinel, .sentinel, .pinned], laidTests := true, laidLooks := .later }
def JwsSignsCardSaid : Prop := Claim7.holds Tryz.pinned (.plain (OpenSpec.ofChange jwsSignsSpec)) jwsSignsCard

/-- THE TIED CARD OF 'chatelainelaw08.JwsOpens'. -/
def jwsOpensCard : Claim7 := { stood := { row := jwsOpensRow, standIns := [], harness := (true, "f42e4180011a8dfe0f43605ec0fb7f9026d0adb303f98196684c01d880010066"), looks := true }, kinds := [], alts := [], laidByText := true, laidKinds := [.data, .data, .data, .data, .data, .sentinel, .sentinel, .pinned], laidTests := true, laidLooks := .later }
def JwsOpensCardSaid : Prop := Claim7.holds Tryz.pinned (.plain (OpenSpec.ofChange jwsOpensSpec)) jwsOpensCard

/-- THE TIED CARD OF 'chatelainelaw08.JwsVerifies'. -/
def jwsVerifiesCard : Claim7 := { stood := { row := jwsVerifiesRow, standIns := [], harness := (true, "f42e4180011a8dfe0f43605ec0fb7f9026d0adb303f98196684c01d880010066"), looks := true }, kinds := [], alts := [], laidByText := true, laidKinds := [.data, .data, .data, .data, .data, .sentinel, .sentinel, .pinned], laidTests := true, laidLooks := .later }
def JwsVerifiesCardSaid : Prop := Claim7.holds Tryz.pinned (.plain (OpenSpec.ofChange jwsVerifiesSpec)) jwsVerifiesCard

/-- THE TIED CARD OF 'chatelainelaw08.JwsBack'. -/
def jwsBackCard : Claim7 := { stood := { row := jwsBackRow, standIns := [], harness := (true, "f42e4180011a8dfe0f43605ec0fb7f9026d0adb303f98196684c01d880010066"), looks := true }, kinds := [], alts := [], laidByText := true, laidKinds := [.data, .data, .data, .data, .data, .sentinel, .sentinel, .pinned], laidTests := true, laidLooks := .later }
def JwsBackCardSaid : Prop := Claim7.holds Tryz.pinned (.plain (OpenSpec.ofChange jwsBackSpec)) jwsBackCard

/-- THE TIED CARD OF 'chatelainelaw08.JwsTurned'. -/
def jwsTurnedCard : Claim7 := { stood := { row := jwsTurnedRow, standIns := [], harness := (true, "f42e4180011a8dfe0f43605ec0fb7f9026d0adb303f98196684c01d880010066"), looks := true }, kinds := [], alts := [], laidByText := true, laidKinds := [.data, .data, .data, .data, .data, .sentinel, .sentinel, .pinned], laidTests := true, laidLooks := .later }
def JwsTurnedCardSaid : Prop := Claim7.holds Tryz.pinned (.plain (OpenSpec.ofChange jwsTurnedSpec)) jwsTurnedCard

/-- THE TIED CARD OF 'chatelainelaw08.JwsChallenges'. -/
def jwsChallengesCard : Claim7 := { stood := { row := jwsChallengesRow, standIns := [], harness := (true, "f42e4180011a8dfe0f43605ec0fb7f9026d0adb303f98196684c01d880010066"), looks := true }, kinds := [], alts := [], laidByText := true, laidKinds := [.data, .data, .data, .data, .data, .sentinel, .sentinel, .pinned], laidTests := true, laidLooks := .later }
def JwsChallengesCardSaid : Prop := Claim7.holds Tryz.pinned (.plain (OpenSpec.ofChange jwsChallengesSpec)) jwsChallengesCard

/-- THE SECOND FORM's CARD OF 'chatelainelaw08.JwsSigns'. -/
def jwsSignsUptoCard : Claim7 := { stood := { row := jwsSignsUptoRow, standIns := [], harness := (true, "f42e4180011a8dfe0f43605ec0fb7f9026d0adb303f98196684c01d880010066"), looks := true }, kinds := [], alts := [], laidByText := true, laidKinds := [.data, .data, .data, .data, .data, .sentinel, .sentinel, .pinned], laidTests := true, laidLooks := .later }
def JwsSignsUptoCardSaid : Prop := Claim7.holds Tryz.pinned (.plain (OpenSpec.upto jwsSignsSpec)) jwsSignsUptoCard

/-- THE SECOND FORM's CARD OF 'chatelainelaw08.JwsOpens'. -/
def jwsOpensUptoCard : Claim7 := { stood := { row := jwsOpensUptoRow, standIns := [], harness := (true, "f42e4180011a8dfe0f43605ec0fb7f9026d0adb303f98196684c01d880010066"), looks := true }, kinds := [], alts := [], laidByText := true, laidKinds := [.data, .data, .data, .data, .data, .sentinel, .sentinel, .pinned], laidTests := true, laidLooks := .later }
def JwsOpensUptoCardSaid : Prop := Claim7.holds Tryz.pinned (.plain (OpenSpec.upto jwsOpensSpec)) jwsOpensUptoCard

/-- THE SECOND FORM's CARD OF 'chatelainelaw08.JwsVerifies'. -/
def jwsVerifiesUptoCard : Claim7 := { stood := { row := jwsVerifiesUptoRow, standIns := [], harness := (true, "f42e4180011a8dfe0f43605ec0fb7f9026d0adb303f98196684c01d880010066"), looks := true }, kinds := [], alts := [], laidByText := true, laidKinds := [.data, .data, .data, .data, .data, .sentinel, .sentinel, .pinned], laidTests := true, laidLooks := .later }
def JwsVerifiesUptoCardSaid : Prop := Claim7.holds Tryz.pinned (.plain (OpenSpec.upto jwsVerifiesSpec)) jwsVerifiesUptoCard

/-- THE SECOND FORM's CARD OF 'chatelainelaw08.JwsBack'. -/
def jwsBackUptoCard : Claim7 := { stood := { row := jwsBackUptoRow, standIns := [], harness := (true, "f42e4180011a8dfe0f43605ec0fb7f9026d0adb303f98196684c01d880010066"), looks := true }, kinds := [], alts := [], laidByText := true, laidKinds := [.data, .data, .data, .data, .data, .sentinel, .sentinel, .pinned], laidTests := true, laidLooks := .later }
def JwsBackUptoCardSaid : Prop := Claim7.holds Tryz.pinned (.plain (OpenSpec.upto jwsBackSpec)) jwsBackUptoCard

/-- THE SECOND FORM's CARD OF 'chatelainelaw08.JwsTurned'. -/
def jwsTurnedUptoCard : Claim7 := { stood := { row := jwsTurnedUptoRow, standIns := [], harness := (true, "f42e4180011a8dfe0f43605ec0fb7f9026d0adb303f98196684c01d880010066"), looks := true }, kinds := [], alts := [], laidByText := true, laidKinds := [.data, .data, .data, .data, .data, .sentinel, .sentinel, .pinned], laidTests := true, laidLooks := .later }
def JwsTurnedUptoCardSaid : Prop := Claim7.holds Tryz.pinned (.plain (OpenSpec.upto jwsTurnedSpec)) jwsTurnedUptoCard

/-- THE SECOND FORM's CARD OF 'chatelainelaw08.JwsChallenges'. -/
def jwsChallengesUptoCard : Claim7 := { stood := { row := jwsChallengesUptoRow, standIns := [], harness := (true, "f42e4180011a8dfe0f43605ec0fb7f9026d0adb303f98196684c01d880010066"), looks := true }, kinds := [], alts := [], laidByText := true, laidKinds := [.data, .data, .data, .data, .data, .sentinel, .sentinel, .pinned], laidTests := true, laidLooks := .later }
def JwsChallengesUptoCardSaid : Prop := Claim7.holds Tryz.pinned (.plain (OpenSpec.upto jwsChallengesSpec)) jwsChallengesUptoCard
end Rows
end Go.Proofs.YtgojpcoaahcbeaaGreatDoor
