/-
  DERIVED. GIVEN WITH THE SEED: THE CARDS: each row of YthklgpflaghojaaGreatDoorRows.lean that lists a variable, with what it lists TIED to the program's text (the seventh form; the later family's looks); each row that meets fmt, with fmt's text TOLD by the authors' own Lean function (tested against real Go, not proved from fmt's source: count such statements apart). THE CARD IS WHAT COUNTS. Prove the row's statement (the work); the ties are given (YthklgpflaghojaaGreatDoorTie.lean); close each card by the builder's one call (the guide's Derived/Test/ToyasCard.lean, 'card_holds'). Laid BY PROGRAM, IN A SANDBOX (cutbox-door.mjs). By AI agents, Wed Nov 11 2026. No macro, syntax, notation, axiom, sorry.
-/
import Derived.Test.YthklgpflaghojaaGreatDoorRows
import GoSem.ClaimSeven
namespace Go.Proofs.YthklgpflaghojaaGreatDoor
namespace Rows

/-- THE TIED CARD OF 'chatelainelaw09.RingOpens'. -/
def ringOpensCard : Claim7 := { stood := { row := ringOpensRow, standIns := [], harness := (true, "aa2e1fb623bbef05639b21aad2b6e5c90ba291b334e344920d42843b053a2fa0"), looks := true }, kinds := [], alts := [], laidByText := true, laidKinds := [.data, .data, .data, .data, .data, .sentinel, .sentinel, .pinned], laidTests := true, laidLooks := .later }
def RingOpensCardSaid : Prop := Claim7.holds Tryz.pinned (.plain (OpenSpec.ofChange ringOpensSpec)) ringOpensCard

/-- THE TIED CARD OF 'chatelainelaw09.RingLasts'. -/
def ringLastsCard : Claim7 := { stood := { row := ringLastsRow, standIns := [], harness := (true, "aa2e1fb623bbef05639b21aad2b6e5c90ba291b334e344920d42843b053a2fa0"), looks := true }, kinds := [], alts := [], laidByText := true, laidKinds := [.data, .data, .data, .data, .data, .sentinel, .sentinel, .pinned], laidTests := true, laidLooks := .later }
def RingLastsCardSaid : Prop := Claim7.holds Tryz.pinned (.plain (OpenSpec.ofChange ringLastsSpec)) ringLastsCard

/-- THE SECOND FORM's CARD OF 'chatelainelaw09.RingOpens'. -/
def ringOpensUptoCard : Claim7 := { stood := { row := ringOpensUptoRow, standIns := [], harness := (true, "aa2e1fb623bbef05639b21aad2b6e5c90ba291b334e344920d42843b053a2fa0"), looks := true }, kinds := [], alts := [], laidByText := true, laidKinds := [.data, .data, .data, .data, .data, .sentinel, .sentinel, .pinned], laidTests := true, laidLooks := .later }
def RingOpensUptoCardSaid : Prop := Claim7.holds Tryz.pinned (.plain (OpenSpec.upto ringOpensSpec)) ringOpensUptoCard

/-- THE SECOND FORM's CARD OF 'chatelainelaw09.RingLasts'. -/
def ringLastsUptoCard : Claim7 := { stood := { row := ringLastsUptoRow, standIns := [], harness := (true, "aa2e1fb623bbef05639b21aad2b6e5c90ba291b334e344920d42843b053a2fa0"), looks := true }, kinds := [], alts := [], laidByText := true, laidKinds := [.data, .data, .data, .data, .data, .sentinel, .sentinel, .pinned], laidTests := true, laidLooks := .later }
def RingLastsUptoCardSaid : Prop := Claim7.holds Tryz.pinned (.plain (OpenSpec.upto ringLastsSpec)) ringLastsUptoCard
end Rows
end Go.Proofs.YthklgpflaghojaaGreatDoor
