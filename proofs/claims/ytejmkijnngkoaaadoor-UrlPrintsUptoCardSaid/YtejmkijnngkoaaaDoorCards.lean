/-
  DERIVED. GIVEN WITH THE SEED: THE CARDS: each row of YtejmkijnngkoaaaDoorRows.lean that lists a variable, with what it lists TIED to the program's text (the seventh form; the later family's looks); each row that meets fmt, with fmt's text TOLD by the authors' own Lean function (tested against real Go, not proved from fmt's source: count such statements apart). THE CARD IS WHAT COUNTS. Prove the row's statement (the work); the ties are given (YtejmkijnngkoaaaDoorTie.lean); close each card by the builder's one call (the guide's Derived/Test/ToyasCard.lean, 'card_holds'). Laid BY PROGRAM, IN A SANDBOX (cutbox-door.mjs). By AI agents, Wed Nov 11 2026. No macro, syntax, notation, axiom, sorry.
-/
import Derived.Test.YtejmkijnngkoaaaDoorRows
import GoSem.ClaimSeven
namespace Go.Proofs.YtejmkijnngkoaaaDoor
namespace Rows

/-- THE TIED CARD OF 'chatelainelaw04.UrlParses'. -/
def urlParsesCard : Claim7 := { stood := { row := urlParsesRow, standIns := [], harness := (true, "440f880c5ba82a160a7ab4d76605e745db5c66f799164bf3597f6292d31ffc16"), looks := true }, kinds := [], alts := [], laidByText := true, laidKinds := [.data, .data, .data, .data, .sentinel, .sentinel, .pinned], laidTests := true, laidLooks := .later }
def UrlParsesCardSaid : Prop := Claim7.holds Tryd.pinned (.plain (OpenSpec.ofChange urlParsesSpec)) urlParsesCard

/-- THE TIED CARD OF 'chatelainelaw04.UrlPrints'. -/
def urlPrintsCard : Claim7 := { stood := { row := urlPrintsRow, standIns := [], harness := (true, "440f880c5ba82a160a7ab4d76605e745db5c66f799164bf3597f6292d31ffc16"), looks := true }, kinds := [], alts := [], laidByText := true, laidKinds := [.data, .data, .data, .data, .sentinel, .sentinel, .pinned], laidTests := true, laidLooks := .later }
def UrlPrintsCardSaid : Prop := Claim7.holds Tryd.pinned (.plain (OpenSpec.ofChange urlPrintsSpec)) urlPrintsCard

/-- THE TIED CARD OF 'chatelainelaw04.UrlWith'. -/
def urlWithCard : Claim7 := { stood := { row := urlWithRow, standIns := [], harness := (true, "440f880c5ba82a160a7ab4d76605e745db5c66f799164bf3597f6292d31ffc16"), looks := true }, kinds := [], alts := [], laidByText := true, laidKinds := [.data, .data, .data, .data, .sentinel, .sentinel, .pinned], laidTests := true, laidLooks := .later }
def UrlWithCardSaid : Prop := Claim7.holds Tryd.pinned (.plain (OpenSpec.ofChange urlWithSpec)) urlWithCard

/-- THE TIED CARD OF 'chatelainelaw04.UrlBack'. -/
def urlBackCard : Claim7 := { stood := { row := urlBackRow, standIns := [], harness := (true, "440f880c5ba82a160a7ab4d76605e745db5c66f799164bf3597f6292d31ffc16"), looks := true }, kinds := [], alts := [], laidByText := true, laidKinds := [.data, .data, .data, .data, .sentinel, .sentinel, .pinned], laidTests := true, laidLooks := .later }
def UrlBackCardSaid : Prop := Claim7.holds Tryd.pinned (.plain (OpenSpec.ofChange urlBackSpec)) urlBackCard

/-- THE TIED CARD OF 'chatelainelaw04.UrlUnlike'. -/
def urlUnlikeCard : Claim7 := { stood := { row := urlUnlikeRow, standIns := [], harness := (true, "440f880c5ba82a160a7ab4d76605e745db5c66f799164bf3597f6292d31ffc16"), looks := true }, kinds := [], alts := [], laidByText := true, laidKinds := [.data, .data, .data, .data, .sentinel, .sentinel, .pinned], laidTests := true, laidLooks := .later }
def UrlUnlikeCardSaid : Prop := Claim7.holds Tryd.pinned (.plain (OpenSpec.ofChange urlUnlikeSpec)) urlUnlikeCard

/-- THE TIED CARD OF 'chatelainelaw04.UrlTwice'. -/
def urlTwiceCard : Claim7 := { stood := { row := urlTwiceRow, standIns := [], harness := (true, "440f880c5ba82a160a7ab4d76605e745db5c66f799164bf3597f6292d31ffc16"), looks := true }, kinds := [], alts := [], laidByText := true, laidKinds := [.data, .data, .data, .data, .sentinel, .sentinel, .pinned], laidTests := true, laidLooks := .later }
def UrlTwiceCardSaid : Prop := Claim7.holds Tryd.pinned (.plain (OpenSpec.ofChange urlTwiceSpec)) urlTwiceCard

/-- THE SECOND FORM's CARD OF 'chatelainelaw04.UrlParses'. -/
def urlParsesUptoCard : Claim7 := { stood := { row := urlParsesUptoRow, standIns := [], harness := (true, "440f880c5ba82a160a7ab4d76605e745db5c66f799164bf3597f6292d31ffc16"), looks := true }, kinds := [], alts := [], laidByText := true, laidKinds := [.data, .data, .data, .data, .sentinel, .sentinel, .pinned], laidTests := true, laidLooks := .later }
def UrlParsesUptoCardSaid : Prop := Claim7.holds Tryd.pinned (.plain (OpenSpec.upto urlParsesSpec)) urlParsesUptoCard

/-- THE SECOND FORM's CARD OF 'chatelainelaw04.UrlPrints'. -/
def urlPrintsUptoCard : Claim7 := { stood := { row := urlPrintsUptoRow, standIns := [], harness := (true, "440f880c5ba82a160a7ab4d76605e745db5c66f799164bf3597f6292d31ffc16"), looks := true }, kinds := [], alts := [], laidByText := true, laidKinds := [.data, .data, .data, .data, .sentinel, .sentinel, .pinned], laidTests := true, laidLooks := .later }
def UrlPrintsUptoCardSaid : Prop := Claim7.holds Tryd.pinned (.plain (OpenSpec.upto urlPrintsSpec)) urlPrintsUptoCard

/-- THE SECOND FORM's CARD OF 'chatelainelaw04.UrlWith'. -/
def urlWithUptoCard : Claim7 := { stood := { row := urlWithUptoRow, standIns := [], harness := (true, "440f880c5ba82a160a7ab4d76605e745db5c66f799164bf3597f6292d31ffc16"), looks := true }, kinds := [], alts := [], laidByText := true, laidKinds := [.data, .data, .data, .data, .sentinel, .sentinel, .pinned], laidTests := true, laidLooks := .later }
def UrlWithUptoCardSaid : Prop := Claim7.holds Tryd.pinned (.plain (OpenSpec.upto urlWithSpec)) urlWithUptoCard

/-- THE SECOND FORM's CARD OF 'chatelainelaw04.UrlBack'. -/
def urlBackUptoCard : Claim7 := { stood := { row := urlBackUptoRow, standIns := [], harness := (true, "440f880c5ba82a160a7ab4d76605e745db5c66f799164bf3597f6292d31ffc16"), looks := true }, kinds := [], alts := [], laidByText := true, laidKinds := [.data, .data, .data, .data, .sentinel, .sentinel, .pinned], laidTests := true, laidLooks := .later }
def UrlBackUptoCardSaid : Prop := Claim7.holds Tryd.pinned (.plain (OpenSpec.upto urlBackSpec)) urlBackUptoCard

/-- THE SECOND FORM's CARD OF 'chatelainelaw04.UrlUnlike'. -/
def urlUnlikeUptoCard : Claim7 := { stood := { row := urlUnlikeUptoRow, standIns := [], harness := (true, "440f880c5ba82a160a7ab4d76605e745db5c66f799164bf3597f6292d31ffc16"), looks := true }, kinds := [], alts := [], laidByText := true, laidKinds := [.data, .data, .data, .data, .sentinel, .sentinel, .pinned], laidTests := true, laidLooks := .later }
def UrlUnlikeUptoCardSaid : Prop := Claim7.holds Tryd.pinned (.plain (OpenSpec.upto urlUnlikeSpec)) urlUnlikeUptoCard

/-- THE SECOND FORM's CARD OF 'chatelainelaw04.UrlTwice'. -/
def urlTwiceUptoCard : Claim7 := { stood := { row := urlTwiceUptoRow, standIns := [], harness := (true, "440f880c5ba82a160a7ab4d76605e745db5c66f799164bf3597f6292d31ffc16"), looks := true }, kinds := [], alts := [], laidByText := true, laidKinds := [.data, .data, .data, .data, .sentinel, .sentinel, .pinned], laidTests := true, laidLooks := .later }
def UrlTwiceUptoCardSaid : Prop := Claim7.holds Tryd.pinned (.plain (OpenSpec.upto urlTwiceSpec)) urlTwiceUptoCard
end Rows
end Go.Proofs.YtejmkijnngkoaaaDoor
