/-
  DERIVED. GIVEN WITH THE SEED: THE CARDS: each row of YtoocejcoaojaiaaDoorRows.lean that lists a variable, with what it lists TIED to the program's text (the seventh form; the later family's looks); each row that meets fmt, with fmt's text TOLD by the authors' own Lean function (tested against real Go, not proved from fmt's source: count such statements apart). THE CARD IS WHAT COUNTS. Prove the row's statement (the work); the ties are given (YtoocejcoaojaiaaDoorTie.lean); close each card by the builder's one call (the guide's Derived/Test/ToyasCard.lean, 'card_holds'). Laid BY PROGRAM, IN A SANDBOX (cutbox-door.mjs). By AI agents, Wed Nov 11 2026. No macro, syntax, notation, axiom, sorry.
-/
import Derived.Test.YtoocejcoaojaiaaDoorRows
import GoSem.ClaimSeven
namespace Go.Proofs.YtoocejcoaojaiaaDoor
namespace Rows

/-- THE TIED CARD OF 'chatelainelaw10.ClaimsAdds'. -/
def claimsAddsCard : Claim7 := { stood := { row := claimsAddsRow, standIns := [], harness := (true, "ba88cedddd668505e29d62ff7cf367d7890e73dd323149dd329c3446c976c9de"), looks := false }, kinds := [], alts := [], laidByText := true, laidKinds := [.data, .data, .data, .data, .pinned], laidTests := true, laidLooks := .later }
def ClaimsAddsCardSaid : Prop := Claim7.holds Tryd.pinned (.plain (OpenSpec.ofChange claimsAddsSpec)) claimsAddsCard

/-- THE TIED CARD OF 'chatelainelaw10.ClaimsChecks'. -/
def claimsChecksCard : Claim7 := { stood := { row := claimsChecksRow, standIns := [], harness := (true, "ba88cedddd668505e29d62ff7cf367d7890e73dd323149dd329c3446c976c9de"), looks := false }, kinds := [], alts := [], laidByText := true, laidKinds := [.data, .data, .data, .data, .pinned], laidTests := true, laidLooks := .later }
def ClaimsChecksCardSaid : Prop := Claim7.holds Tryd.pinned (.plain (OpenSpec.ofChange claimsChecksSpec)) claimsChecksCard

/-- THE TIED CARD OF 'chatelainelaw10.ClaimsMakes'. -/
def claimsMakesCard : Claim7 := { stood := { row := claimsMakesRow, standIns := [], harness := (true, "ba88cedddd668505e29d62ff7cf367d7890e73dd323149dd329c3446c976c9de"), looks := false }, kinds := [], alts := [], laidByText := true, laidKinds := [.data, .data, .data, .data, .pinned], laidTests := true, laidLooks := .later }
def ClaimsMakesCardSaid : Prop := Claim7.holds Tryd.pinned (.plain (OpenSpec.ofChange claimsMakesSpec)) claimsMakesCard

/-- THE TIED CARD OF 'chatelainelaw10.ClaimsHold'. -/
def claimsHoldCard : Claim7 := { stood := { row := claimsHoldRow, standIns := [], harness := (true, "ba88cedddd668505e29d62ff7cf367d7890e73dd323149dd329c3446c976c9de"), looks := false }, kinds := [], alts := [], laidByText := true, laidKinds := [.data, .data, .data, .data, .pinned], laidTests := true, laidLooks := .later }
def ClaimsHoldCardSaid : Prop := Claim7.holds Tryd.pinned (.plain (OpenSpec.ofChange claimsHoldSpec)) claimsHoldCard

/-- THE TIED CARD OF 'chatelainelaw10.ClaimsLater'. -/
def claimsLaterCard : Claim7 := { stood := { row := claimsLaterRow, standIns := [], harness := (true, "ba88cedddd668505e29d62ff7cf367d7890e73dd323149dd329c3446c976c9de"), looks := false }, kinds := [], alts := [], laidByText := true, laidKinds := [.data, .data, .data, .data, .pinned], laidTests := true, laidLooks := .later }
def ClaimsLaterCardSaid : Prop := Claim7.holds Tryd.pinned (.plain (OpenSpec.ofChange claimsLaterSpec)) claimsLaterCard

/-- THE TIED CARD OF 'chatelainelaw10.ClaimsAsks'. -/
def claimsAsksCard : Claim7 := { stood := { row := claimsAsksRow, standIns := [], harness := (true, "ba88cedddd668505e29d62ff7cf367d7890e73dd323149dd329c3446c976c9de"), looks := false }, kinds := [], alts := [], laidByText := true, laidKinds := [.data, .data, .data, .data, .pinned], laidTests := true, laidLooks := .later }
def ClaimsAsksCardSaid : Prop := Claim7.holds Tryd.pinned (.plain (OpenSpec.ofChange claimsAsksSpec)) claimsAsksCard

/-- THE TIED CARD OF 'chatelainelaw10.ClaimsOrder'. -/
def claimsOrderCard : Claim7 := { stood := { row := claimsOrderRow, standIns := [], harness := (true, "ba88cedddd668505e29d62ff7cf367d7890e73dd323149dd329c3446c976c9de"), looks := false }, kinds := [], alts := [], laidByText := true, laidKinds := [.data, .data, .data, .data, .pinned], laidTests := true, laidLooks := .later }
def ClaimsOrderCardSaid : Prop := Claim7.holds Tryd.pinned (.plain (OpenSpec.ofChange claimsOrderSpec)) claimsOrderCard

/-- THE SECOND FORM's CARD OF 'chatelainelaw10.ClaimsAdds'. -/
def claimsAddsUptoCard : Claim7 := { stood := { row := claimsAddsUptoRow, standIns := [], harness := (true, "ba88cedddd668505e29d62ff7cf367d7890e73dd323149dd329c3446c976c9de"), looks := false }, kinds := [], alts := [], laidByText := true, laidKinds := [.data, .data, .data, .data, .pinned], laidTests := true, laidLooks := .later }
def ClaimsAddsUptoCardSaid : Prop := Claim7.holds Tryd.pinned (.plain (OpenSpec.upto claimsAddsSpec)) claimsAddsUptoCard

/-- THE SECOND FORM's CARD OF 'chatelainelaw10.ClaimsChecks'. -/
def claimsChecksUptoCard : Claim7 := { stood := { row := claimsChecksUptoRow, standIns := [], harness := (true, "ba88cedddd668505e29d62ff7cf367d7890e73dd323149dd329c3446c976c9de"), looks := false }, kinds := [], alts := [], laidByText := true, laidKinds := [.data, .data, .data, .data, .pinned], laidTests := true, laidLooks := .later }
def ClaimsChecksUptoCardSaid : Prop := Claim7.holds Tryd.pinned (.plain (OpenSpec.upto claimsChecksSpec)) claimsChecksUptoCard

/-- THE SECOND FORM's CARD OF 'chatelainelaw10.ClaimsMakes'. -/
def claimsMakesUptoCard : Claim7 := { stood := { row := claimsMakesUptoRow, standIns := [], harness := (true, "ba88cedddd668505e29d62ff7cf367d7890e73dd323149dd329c3446c976c9de"), looks := false }, kinds := [], alts := [], laidByText := true, laidKinds := [.data, .data, .data, .data, .pinned], laidTests := true, laidLooks := .later }
def ClaimsMakesUptoCardSaid : Prop := Claim7.holds Tryd.pinned (.plain (OpenSpec.upto claimsMakesSpec)) claimsMakesUptoCard

/-- THE SECOND FORM's CARD OF 'chatelainelaw10.ClaimsHold'. -/
def claimsHoldUptoCard : Claim7 := { stood := { row := claimsHoldUptoRow, standIns := [], harness := (true, "ba88cedddd668505e29d62ff7cf367d7890e73dd323149dd329c3446c976c9de"), looks := false }, kinds := [], alts := [], laidByText := true, laidKinds := [.data, .data, .data, .data, .pinned], laidTests := true, laidLooks := .later }
def ClaimsHoldUptoCardSaid : Prop := Claim7.holds Tryd.pinned (.plain (OpenSpec.upto claimsHoldSpec)) claimsHoldUptoCard

/-- THE SECOND FORM's CARD OF 'chatelainelaw10.ClaimsLater'. -/
def claimsLaterUptoCard : Claim7 := { stood := { row := claimsLaterUptoRow, standIns := [], harness := (true, "ba88cedddd668505e29d62ff7cf367d7890e73dd323149dd329c3446c976c9de"), looks := false }, kinds := [], alts := [], laidByText := true, laidKinds := [.data, .data, .data, .data, .pinned], laidTests := true, laidLooks := .later }
def ClaimsLaterUptoCardSaid : Prop := Claim7.holds Tryd.pinned (.plain (OpenSpec.upto claimsLaterSpec)) claimsLaterUptoCard

/-- THE SECOND FORM's CARD OF 'chatelainelaw10.ClaimsAsks'. -/
def claimsAsksUptoCard : Claim7 := { stood := { row := claimsAsksUptoRow, standIns := [], harness := (true, "ba88cedddd668505e29d62ff7cf367d7890e73dd323149dd329c3446c976c9de"), looks := false }, kinds := [], alts := [], laidByText := true, laidKinds := [.data, .data, .data, .data, .pinned], laidTests := true, laidLooks := .later }
def ClaimsAsksUptoCardSaid : Prop := Claim7.holds Tryd.pinned (.plain (OpenSpec.upto claimsAsksSpec)) claimsAsksUptoCard

/-- THE SECOND FORM's CARD OF 'chatelainelaw10.ClaimsOrder'. -/
def claimsOrderUptoCard : Claim7 := { stood := { row := claimsOrderUptoRow, standIns := [], harness := (true, "ba88cedddd668505e29d62ff7cf367d7890e73dd323149dd329c3446c976c9de"), looks := false }, kinds := [], alts := [], laidByText := true, laidKinds := [.data, .data, .data, .data, .pinned], laidTests := true, laidLooks := .later }
def ClaimsOrderUptoCardSaid : Prop := Claim7.holds Tryd.pinned (.plain (OpenSpec.upto claimsOrderSpec)) claimsOrderUptoCard
end Rows
end Go.Proofs.YtoocejcoaojaiaaDoor
