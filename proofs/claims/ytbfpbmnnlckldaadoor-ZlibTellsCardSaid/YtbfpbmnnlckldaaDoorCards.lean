/-
  DERIVED. GIVEN WITH THE SEED: THE CARDS: each row of YtbfpbmnnlckldaaDoorRows.lean that lists a variable, with what it lists TIED to the program's text (the seventh form; the later family's looks); each row that meets fmt, with fmt's text TOLD by the authors' own Lean function (tested against real Go, not proved from fmt's source: count such statements apart). THE CARD IS WHAT COUNTS. Prove the row's statement (the work); the ties are given (YtbfpbmnnlckldaaDoorTie.lean); close each card by the builder's one call (the guide's Derived/Test/ToyasCard.lean, 'card_holds'). Laid BY PROGRAM, IN A SANDBOX (cutbox-door.mjs). By AI agents, Wed Nov 11 2026. No macro, syntax, notation, axiom, sorry.
-/
import Derived.Test.YtbfpbmnnlckldaaDoorRows
import GoSem.ClaimSeven
namespace Go.Proofs.YtbfpbmnnlckldaaDoor
namespace Rows

/-- THE TIED CARD OF 'lightwelllaw08.ZlibNumbers'. -/
def zlibNumbersCard : Claim7 := { stood := { row := zlibNumbersRow, standIns := [], harness := (true, "c43d3e97e70ed835ca5fe10b014b2d5af618833afa9df70c7eaafb923b87d7a1"), looks := true }, kinds := [], alts := [], laidByText := true, laidKinds := [.data], laidTests := true, laidLooks := .later }
def ZlibNumbersCardSaid : Prop := Claim7.holds Tryd.pinned (.plain (OpenSpec.ofChange zlibNumbersSpec)) zlibNumbersCard

/-- THE TIED CARD OF 'lightwelllaw08.ZlibTells'. -/
def zlibTellsCard : Claim7 := { stood := { row := zlibTellsRow, standIns := [], harness := (true, "c43d3e97e70ed835ca5fe10b014b2d5af618833afa9df70c7eaafb923b87d7a1"), looks := true }, kinds := [], alts := [], laidByText := true, laidKinds := [.data], laidTests := true, laidLooks := .later }
def ZlibTellsCardSaid : Prop := Claim7.holds Tryd.pinned (.plain (OpenSpec.ofChange zlibTellsSpec)) zlibTellsCard

/-- THE TIED CARD OF 'lightwelllaw08.ZlibNone'. -/
def zlibNoneCard : Claim7 := { stood := { row := zlibNoneRow, standIns := [], harness := (true, "c43d3e97e70ed835ca5fe10b014b2d5af618833afa9df70c7eaafb923b87d7a1"), looks := true }, kinds := [], alts := [], laidByText := true, laidKinds := [.data], laidTests := true, laidLooks := .later }
def ZlibNoneCardSaid : Prop := Claim7.holds Tryd.pinned (.plain (OpenSpec.ofChange zlibNoneSpec)) zlibNoneCard

/-- THE TIED CARD OF 'lightwelllaw08.ZlibBack'. -/
def zlibBackCard : Claim7 := { stood := { row := zlibBackRow, standIns := [], harness := (true, "c43d3e97e70ed835ca5fe10b014b2d5af618833afa9df70c7eaafb923b87d7a1"), looks := true }, kinds := [], alts := [], laidByText := true, laidKinds := [.data], laidTests := true, laidLooks := .later }
def ZlibBackCardSaid : Prop := Claim7.holds Tryd.pinned (.plain (OpenSpec.ofChange zlibBackSpec)) zlibBackCard

/-- THE TIED CARD OF 'lightwelllaw08.ZlibCut'. -/
def zlibCutCard : Claim7 := { stood := { row := zlibCutRow, standIns := [], harness := (true, "c43d3e97e70ed835ca5fe10b014b2d5af618833afa9df70c7eaafb923b87d7a1"), looks := true }, kinds := [], alts := [], laidByText := true, laidKinds := [.data], laidTests := true, laidLooks := .later }
def ZlibCutCardSaid : Prop := Claim7.holds Tryd.pinned (.plain (OpenSpec.ofChange zlibCutSpec)) zlibCutCard

/-- THE TIED CARD OF 'lightwelllaw08.ZlibHead'. -/
def zlibHeadCard : Claim7 := { stood := { row := zlibHeadRow, standIns := [], harness := (true, "c43d3e97e70ed835ca5fe10b014b2d5af618833afa9df70c7eaafb923b87d7a1"), looks := true }, kinds := [], alts := [], laidByText := true, laidKinds := [.data], laidTests := true, laidLooks := .later }
def ZlibHeadCardSaid : Prop := Claim7.holds Tryd.pinned (.plain (OpenSpec.ofChange zlibHeadSpec)) zlibHeadCard

/-- THE SECOND FORM's CARD OF 'lightwelllaw08.ZlibNumbers'. -/
def zlibNumbersUptoCard : Claim7 := { stood := { row := zlibNumbersUptoRow, standIns := [], harness := (true, "c43d3e97e70ed835ca5fe10b014b2d5af618833afa9df70c7eaafb923b87d7a1"), looks := true }, kinds := [], alts := [], laidByText := true, laidKinds := [.data], laidTests := true, laidLooks := .later }
def ZlibNumbersUptoCardSaid : Prop := Claim7.holds Tryd.pinned (.plain (OpenSpec.upto zlibNumbersSpec)) zlibNumbersUptoCard

/-- THE SECOND FORM's CARD OF 'lightwelllaw08.ZlibTells'. -/
def zlibTellsUptoCard : Claim7 := { stood := { row := zlibTellsUptoRow, standIns := [], harness := (true, "c43d3e97e70ed835ca5fe10b014b2d5af618833afa9df70c7eaafb923b87d7a1"), looks := true }, kinds := [], alts := [], laidByText := true, laidKinds := [.data], laidTests := true, laidLooks := .later }
def ZlibTellsUptoCardSaid : Prop := Claim7.holds Tryd.pinned (.plain (OpenSpec.upto zlibTellsSpec)) zlibTellsUptoCard

/-- THE SECOND FORM's CARD OF 'lightwelllaw08.ZlibNone'. -/
def zlibNoneUptoCard : Claim7 := { stood := { row := zlibNoneUptoRow, standIns := [], harness := (true, "c43d3e97e70ed835ca5fe10b014b2d5af618833afa9df70c7eaafb923b87d7a1"), looks := true }, kinds := [], alts := [], laidByText := true, laidKinds := [.data], laidTests := true, laidLooks := .later }
def ZlibNoneUptoCardSaid : Prop := Claim7.holds Tryd.pinned (.plain (OpenSpec.upto zlibNoneSpec)) zlibNoneUptoCard

/-- THE SECOND FORM's CARD OF 'lightwelllaw08.ZlibBack'. -/
def zlibBackUptoCard : Claim7 := { stood := { row := zlibBackUptoRow, standIns := [], harness := (true, "c43d3e97e70ed835ca5fe10b014b2d5af618833afa9df70c7eaafb923b87d7a1"), looks := true }, kinds := [], alts := [], laidByText := true, laidKinds := [.data], laidTests := true, laidLooks := .later }
def ZlibBackUptoCardSaid : Prop := Claim7.holds Tryd.pinned (.plain (OpenSpec.upto zlibBackSpec)) zlibBackUptoCard

/-- THE SECOND FORM's CARD OF 'lightwelllaw08.ZlibCut'. -/
def zlibCutUptoCard : Claim7 := { stood := { row := zlibCutUptoRow, standIns := [], harness := (true, "c43d3e97e70ed835ca5fe10b014b2d5af618833afa9df70c7eaafb923b87d7a1"), looks := true }, kinds := [], alts := [], laidByText := true, laidKinds := [.data], laidTests := true, laidLooks := .later }
def ZlibCutUptoCardSaid : Prop := Claim7.holds Tryd.pinned (.plain (OpenSpec.upto zlibCutSpec)) zlibCutUptoCard

/-- THE SECOND FORM's CARD OF 'lightwelllaw08.ZlibHead'. -/
def zlibHeadUptoCard : Claim7 := { stood := { row := zlibHeadUptoRow, standIns := [], harness := (true, "c43d3e97e70ed835ca5fe10b014b2d5af618833afa9df70c7eaafb923b87d7a1"), looks := true }, kinds := [], alts := [], laidByText := true, laidKinds := [.data], laidTests := true, laidLooks := .later }
def ZlibHeadUptoCardSaid : Prop := Claim7.holds Tryd.pinned (.plain (OpenSpec.upto zlibHeadSpec)) zlibHeadUptoCard
end Rows
end Go.Proofs.YtbfpbmnnlckldaaDoor
