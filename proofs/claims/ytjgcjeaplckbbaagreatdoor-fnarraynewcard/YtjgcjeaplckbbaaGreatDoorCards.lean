/-
  DERIVED. GIVEN WITH THE SEED: THE CARDS: each row of YtjgcjeaplckbbaaGreatDoorRows.lean that lists a variable, with what it lists TIED to the program's text (the seventh form; the later family's looks); each row that meets fmt, with fmt's text TOLD by the authors' own Lean function (tested against real Go, not proved from fmt's source: count such statements apart). THE CARD IS WHAT COUNTS. Prove the row's statement (the work); the ties are given (YtjgcjeaplckbbaaGreatDoorTie.lean); close each card by the builder's one call (the guide's Derived/Test/ToyasCard.lean, 'card_holds'). Laid BY PROGRAM, IN A SANDBOX (cutbox-door.mjs). By AI agents, Wed Nov 11 2026. No macro, syntax, notation, axiom, sorry.
-/
import Derived.Test.YtjgcjeaplckbbaaGreatDoorRows
import GoSem.ClaimSeven
namespace Go.Proofs.YtjgcjeaplckbbaaGreatDoor
namespace Rows

/-- THE TIED CARD OF 'laws.FnArrayNew'. -/
def fnArrayNewCard : Claim7 := { stood := { row := fnArrayNewRow, standIns := [], harness := (true, "febc665e6297bf1a72b0057aaf00b7d3a976f2e8de9ce2793056c959f6bc0b0e"), looks := true }, kinds := [], alts := [], goes := true, laidByText := true, laidKinds := [.sentinel, .sentinel, .sentinel, .sentinel, .sentinel, .sentinel, .sentinel, .sentinel], laidTests := true, laidLooks := .later }
def FnArrayNewCardSaid : Prop := Claim7.holds Tryz.pinned (.plain (OpenSpec.ofChange fnArrayNewSpec)) fnArrayNewCard

/-- THE TIED CARD OF 'laws.FnArrayDone'. -/
def fnArrayDoneCard : Claim7 := { stood := { row := fnArrayDoneRow, standIns := [], harness := (true, "febc665e6297bf1a72b0057aaf00b7d3a976f2e8de9ce2793056c959f6bc0b0e"), looks := true }, kinds := [], alts := [], goes := true, laidByText := true, laidKinds := [.handle, .sentinel, .sentinel, .sentinel, .sentinel, .sentinel, .sentinel, .sentinel, .sentinel], laidTests := true, laidLooks := .later }
def FnArrayDoneCardSaid : Prop := Claim7.holds Tryz.pinned (.plain (OpenSpec.ofChange fnArrayDoneSpec)) fnArrayDoneCard

/-- THE TIED CARD OF 'laws.FnStripes'. -/
def fnStripesCard : Claim7 := { stood := { row := fnStripesRow, standIns := [], harness := (true, "febc665e6297bf1a72b0057aaf00b7d3a976f2e8de9ce2793056c959f6bc0b0e"), looks := true }, kinds := [], alts := [], goes := true, laidByText := true, laidKinds := [.sentinel, .sentinel, .sentinel, .sentinel, .sentinel, .sentinel, .sentinel, .sentinel], laidTests := true, laidLooks := .later }
def FnStripesCardSaid : Prop := Claim7.holds Tryz.pinned (.plain (OpenSpec.ofChange fnStripesSpec)) fnStripesCard

/-- THE TIED CARD OF 'laws.FnLost'. -/
def fnLostCard : Claim7 := { stood := { row := fnLostRow, standIns := [], harness := (true, "febc665e6297bf1a72b0057aaf00b7d3a976f2e8de9ce2793056c959f6bc0b0e"), looks := true }, kinds := [], alts := [], goes := true, laidByText := true, laidKinds := [.handle, .sentinel, .sentinel, .sentinel, .sentinel, .sentinel, .sentinel, .sentinel, .sentinel], laidTests := true, laidLooks := .later }
def FnLostCardSaid : Prop := Claim7.holds Tryz.pinned (.plain (OpenSpec.ofChange fnLostSpec)) fnLostCard

/-- THE TIED CARD OF 'laws.FnModel'. -/
def fnModelCard : Claim7 := { stood := { row := fnModelRow, standIns := [], harness := (true, "febc665e6297bf1a72b0057aaf00b7d3a976f2e8de9ce2793056c959f6bc0b0e"), looks := true }, kinds := [], alts := [], goes := true, laidByText := true, laidKinds := [.handle, .sentinel, .sentinel, .sentinel, .sentinel, .sentinel, .sentinel, .sentinel, .sentinel], laidTests := true, laidLooks := .later }
def FnModelCardSaid : Prop := Claim7.holds Tryz.pinned (.plain (OpenSpec.ofChange fnModelSpec)) fnModelCard

/-- THE TIED CARD OF 'laws.FnPlayed'. -/
def fnPlayedCard : Claim7 := { stood := { row := fnPlayedRow, standIns := [], harness := (true, "febc665e6297bf1a72b0057aaf00b7d3a976f2e8de9ce2793056c959f6bc0b0e"), looks := true }, kinds := [], alts := [], goes := true, laidByText := true, laidKinds := [.handle, .sentinel, .sentinel, .sentinel, .sentinel, .sentinel, .sentinel, .sentinel, .sentinel], laidTests := true, laidLooks := .later }
def FnPlayedCardSaid : Prop := Claim7.holds Tryz.pinned (.plain (OpenSpec.ofChange fnPlayedSpec)) fnPlayedCard

/-- THE TIED CARD OF 'laws.FnTwice'. -/
def fnTwiceCard : Claim7 := { stood := { row := fnTwiceRow, standIns := [], harness := (true, "febc665e6297bf1a72b0057aaf00b7d3a976f2e8de9ce2793056c959f6bc0b0e"), looks := true }, kinds := [], alts := [], goes := true, laidByText := true, laidKinds := [.handle, .sentinel, .sentinel, .sentinel, .sentinel, .sentinel, .sentinel, .sentinel, .sentinel], laidTests := true, laidLooks := .later }
def FnTwiceCardSaid : Prop := Claim7.holds Tryz.pinned (.plain (OpenSpec.ofChange fnTwiceSpec)) fnTwiceCard

/-- THE TIED CARD OF 'laws.FnExactBlockAt'. -/
def fnExactBlockAtCard : Claim7 := { stood := { row := fnExactBlockAtRow, standIns := [], harness := (true, "febc665e6297bf1a72b0057aaf00b7d3a976f2e8de9ce2793056c959f6bc0b0e"), looks := true }, kinds := [], alts := [], goes := true, laidByText := true, laidKinds := [.sentinel, .sentinel, .sentinel, .sentinel, .sentinel, .sentinel, .sentinel, .sentinel], laidTests := true, laidLooks := .later }
def FnExactBlockAtCardSaid : Prop := Claim7.holds Tryz.pinned (.plain (OpenSpec.ofChange fnExactBlockAtSpec)) fnExactBlockAtCard

/-- THE TIED CARD OF 'laws.FnExactStripeOk'. -/
def fnExactStripeOkCard : Claim7 := { stood := { row := fnExactStripeOkRow, standIns := [], harness := (true, "febc665e6297bf1a72b0057aaf00b7d3a976f2e8de9ce2793056c959f6bc0b0e"), looks := true }, kinds := [], alts := [], goes := true, laidByText := true, laidKinds := [.sentinel, .sentinel, .sentinel, .sentinel, .sentinel, .sentinel, .sentinel, .sentinel], laidTests := true, laidLooks := .later }
def FnExactStripeOkCardSaid : Prop := Claim7.holds Tryz.pinned (.plain (OpenSpec.ofChange fnExactStripeOkSpec)) fnExactStripeOkCard

/-- THE SECOND FORM's CARD OF 'laws.FnArrayNew'. -/
def fnArrayNewUptoCard : Claim7 := { stood := { row := fnArrayNewUptoRow, standIns := [], harness := (true, "febc665e6297bf1a72b0057aaf00b7d3a976f2e8de9ce2793056c959f6bc0b0e"), looks := true }, kinds := [], alts := [], goes := true, laidByText := true, laidKinds := [.sentinel, .sentinel, .sentinel, .sentinel, .sentinel, .sentinel, .sentinel, .sentinel], laidTests := true, laidLooks := .later }
def FnArrayNewUptoCardSaid : Prop := Claim7.holds Tryz.pinned (.plain (OpenSpec.upto fnArrayNewSpec)) fnArrayNewUptoCard

/-- THE SECOND FORM's CARD OF 'laws.FnArrayDone'. -/
def fnArrayDoneUptoCard : Claim7 := { stood := { row := fnArrayDoneUptoRow, standIns := [], harness := (true, "febc665e6297bf1a72b0057aaf00b7d3a976f2e8de9ce2793056c959f6bc0b0e"), looks := true }, kinds := [], alts := [], goes := true, laidByText := true, laidKinds := [.handle, .sentinel, .sentinel, .sentinel, .sentinel, .sentinel, .sentinel, .sentinel, .sentinel], laidTests := true, laidLooks := .later }
def FnArrayDoneUptoCardSaid : Prop := Claim7.holds Tryz.pinned (.plain (OpenSpec.upto fnArrayDoneSpec)) fnArrayDoneUptoCard

/-- THE SECOND FORM's CARD OF 'laws.FnStripes'. -/
def fnStripesUptoCard : Claim7 := { stood := { row := fnStripesUptoRow, standIns := [], harness := (true, "febc665e6297bf1a72b0057aaf00b7d3a976f2e8de9ce2793056c959f6bc0b0e"), looks := true }, kinds := [], alts := [], goes := true, laidByText := true, laidKinds := [.sentinel, .sentinel, .sentinel, .sentinel, .sentinel, .sentinel, .sentinel, .sentinel], laidTests := true, laidLooks := .later }
def FnStripesUptoCardSaid : Prop := Claim7.holds Tryz.pinned (.plain (OpenSpec.upto fnStripesSpec)) fnStripesUptoCard

/-- THE SECOND FORM's CARD OF 'laws.FnLost'. -/
def fnLostUptoCard : Claim7 := { stood := { row := fnLostUptoRow, standIns := [], harness := (true, "febc665e6297bf1a72b0057aaf00b7d3a976f2e8de9ce2793056c959f6bc0b0e"), looks := true }, kinds := [], alts := [], goes := true, laidByText := true, laidKinds := [.handle, .sentinel, .sentinel, .sentinel, .sentinel, .sentinel, .sentinel, .sentinel, .sentinel], laidTests := true, laidLooks := .later }
def FnLostUptoCardSaid : Prop := Claim7.holds Tryz.pinned (.plain (OpenSpec.upto fnLostSpec)) fnLostUptoCard

/-- THE SECOND FORM's CARD OF 'laws.FnModel'. -/
def fnModelUptoCard : Claim7 := { stood := { row := fnModelUptoRow, standIns := [], harness := (true, "febc665e6297bf1a72b0057aaf00b7d3a976f2e8de9ce2793056c959f6bc0b0e"), looks := true }, kinds := [], alts := [], goes := true, laidByText := true, laidKinds := [.handle, .sentinel, .sentinel, .sentinel, .sentinel, .sentinel, .sentinel, .sentinel, .sentinel], laidTests := true, laidLooks := .later }
def FnModelUptoCardSaid : Prop := Claim7.holds Tryz.pinned (.plain (OpenSpec.upto fnModelSpec)) fnModelUptoCard

/-- THE SECOND FORM's CARD OF 'laws.FnPlayed'. -/
def fnPlayedUptoCard : Claim7 := { stood := { row := fnPlayedUptoRow, standIns := [], harness := (true, "febc665e6297bf1a72b0057aaf00b7d3a976f2e8de9ce2793056c959f6bc0b0e"), looks := true }, kinds := [], alts := [], goes := true, laidByText := true, laidKinds := [.handle, .sentinel, .sentinel, .sentinel, .sentinel, .sentinel, .sentinel, .sentinel, .sentinel], laidTests := true, laidLooks := .later }
def FnPlayedUptoCardSaid : Prop := Claim7.holds Tryz.pinned (.plain (OpenSpec.upto fnPlayedSpec)) fnPlayedUptoCard

/-- THE SECOND FORM's CARD OF 'laws.FnTwice'. -/
def fnTwiceUptoCard : Claim7 := { stood := { row := fnTwiceUptoRow, standIns := [], harness := (true, "febc665e6297bf1a72b0057aaf00b7d3a976f2e8de9ce2793056c959f6bc0b0e"), looks := true }, kinds := [], alts := [], goes := true, laidByText := true, laidKinds := [.handle, .sentinel, .sentinel, .sentinel, .sentinel, .sentinel, .sentinel, .sentinel, .sentinel], laidTests := true, laidLooks := .later }
def FnTwiceUptoCardSaid : Prop := Claim7.holds Tryz.pinned (.plain (OpenSpec.upto fnTwiceSpec)) fnTwiceUptoCard

/-- THE SECOND FORM's CARD OF 'laws.FnExactBlockAt'. -/
def fnExactBlockAtUptoCard : Claim7 := { stood := { row := fnExactBlockAtUptoRow, standIns := [], harness := (true, "febc665e6297bf1a72b0057aaf00b7d3a976f2e8de9ce2793056c959f6bc0b0e"), looks := true }, kinds := [], alts := [], goes := true, laidByText := true, laidKinds := [.sentinel, .sentinel, .sentinel, .sentinel, .sentinel, .sentinel, .sentinel, .sentinel], laidTests := true, laidLooks := .later }
def FnExactBlockAtUptoCardSaid : Prop := Claim7.holds Tryz.pinned (.plain (OpenSpec.upto fnExactBlockAtSpec)) fnExactBlockAtUptoCard

/-- THE SECOND FORM's CARD OF 'laws.FnExactStripeOk'. -/
def fnExactStripeOkUptoCard : Claim7 := { stood := { row := fnExactStripeOkUptoRow, standIns := [], harness := (true, "febc665e6297bf1a72b0057aaf00b7d3a976f2e8de9ce2793056c959f6bc0b0e"), looks := true }, kinds := [], alts := [], goes := true, laidByText := true, laidKinds := [.sentinel, .sentinel, .sentinel, .sentinel, .sentinel, .sentinel, .sentinel, .sentinel], laidTests := true, laidLooks := .later }
def FnExactStripeOkUptoCardSaid : Prop := Claim7.holds Tryz.pinned (.plain (OpenSpec.upto fnExactStripeOkSpec)) fnExactStripeOkUptoCard
end Rows
end Go.Proofs.YtjgcjeaplckbbaaGreatDoor
