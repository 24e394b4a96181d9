/-
  DERIVED. GIVEN WITH THE SEED: THE CARDS: each row of YtbkbbkkmahenlaaGreatDoorRows.lean that lists a variable, with what it lists TIED to the program's text (the seventh form; the later family's looks); each row that meets fmt, with fmt's text TOLD by the authors' own Lean function (tested against real Go, not proved from fmt's source: count such statements apart). THE CARD IS WHAT COUNTS. Prove the row's statement (the work); the ties are given (YtbkbbkkmahenlaaGreatDoorTie.lean); close each card by the builder's one call (the guide's Derived/Test/ToyasCard.lean, 'card_holds'). Laid BY PROGRAM, IN A SANDBOX (cutbox-door.mjs). By AI agents, Wed Nov 11 2026. No macro, syntax, notation, axiom, sorry.
-/
import Derived.Test.YtbkbbkkmahenlaaGreatDoorRows
import GoSem.ClaimSeven
namespace Go.Proofs.YtbkbbkkmahenlaaGreatDoor
namespace Rows

/-- THE TIED CARD OF 'shearworkslaw08.PressReads'. -/
def pressReadsCard : Claim7 := { stood := { row := pressReadsRow, standIns := [], harness := (true, "a875a7a5d48e2146789987ba714ac6e4ee592a70d9a560aad9dc83cf25de5745"), looks := true }, kinds := [], alts := [], laidByText := true, laidKinds := [.data, .data], laidTests := true, laidLooks := .later }
def PressReadsCardSaid : Prop := Claim7.holds Tryz.pinned (.plain (OpenSpec.ofChange pressReadsSpec)) pressReadsCard

/-- THE TIED CARD OF 'shearworkslaw08.PressPlans'. -/
def pressPlansCard : Claim7 := { stood := { row := pressPlansRow, standIns := [], harness := (true, "a875a7a5d48e2146789987ba714ac6e4ee592a70d9a560aad9dc83cf25de5745"), looks := true }, kinds := [], alts := [], laidByText := true, laidKinds := [.data, .data], laidTests := true, laidLooks := .later }
def PressPlansCardSaid : Prop := Claim7.holds Tryz.pinned (.plain (OpenSpec.ofChange pressPlansSpec)) pressPlansCard

/-- THE TIED CARD OF 'shearworkslaw08.PressTrue'. -/
def pressTrueCard : Claim7 := { stood := { row := pressTrueRow, standIns := [], harness := (true, "a875a7a5d48e2146789987ba714ac6e4ee592a70d9a560aad9dc83cf25de5745"), looks := true }, kinds := [], alts := [], laidByText := true, laidKinds := [.data, .data], laidTests := true, laidLooks := .later }
def PressTrueCardSaid : Prop := Claim7.holds Tryz.pinned (.plain (OpenSpec.ofChange pressTrueSpec)) pressTrueCard

/-- THE TIED CARD OF 'shearworkslaw08.PressEnds'. -/
def pressEndsCard : Claim7 := { stood := { row := pressEndsRow, standIns := [], harness := (true, "a875a7a5d48e2146789987ba714ac6e4ee592a70d9a560aad9dc83cf25de5745"), looks := true }, kinds := [], alts := [], laidByText := true, laidKinds := [.data, .data], laidTests := true, laidLooks := .later }
def PressEndsCardSaid : Prop := Claim7.holds Tryz.pinned (.plain (OpenSpec.ofChange pressEndsSpec)) pressEndsCard

/-- THE TIED CARD OF 'shearworkslaw08.PressParts'. -/
def pressPartsCard : Claim7 := { stood := { row := pressPartsRow, standIns := [], harness := (true, "a875a7a5d48e2146789987ba714ac6e4ee592a70d9a560aad9dc83cf25de5745"), looks := true }, kinds := [], alts := [], laidByText := true, laidKinds := [.data, .data], laidTests := true, laidLooks := .later }
def PressPartsCardSaid : Prop := Claim7.holds Tryz.pinned (.plain (OpenSpec.ofChange pressPartsSpec)) pressPartsCard

/-- THE TIED CARD OF 'shearworkslaw08.PressFits'. -/
def pressFitsCard : Claim7 := { stood := { row := pressFitsRow, standIns := [], harness := (true, "a875a7a5d48e2146789987ba714ac6e4ee592a70d9a560aad9dc83cf25de5745"), looks := true }, kinds := [], alts := [], laidByText := true, laidKinds := [.data, .data], laidTests := true, laidLooks := .later }
def PressFitsCardSaid : Prop := Claim7.holds Tryz.pinned (.plain (OpenSpec.ofChange pressFitsSpec)) pressFitsCard

/-- THE TIED CARD OF 'shearworkslaw08.PressPlan'. -/
def pressPlanCard : Claim7 := { stood := { row := pressPlanRow, standIns := [], harness := (true, "a875a7a5d48e2146789987ba714ac6e4ee592a70d9a560aad9dc83cf25de5745"), looks := true }, kinds := [], alts := [], laidByText := true, laidKinds := [.data, .data], laidTests := true, laidLooks := .later }
def PressPlanCardSaid : Prop := Claim7.holds Tryz.pinned (.plain (OpenSpec.ofChange pressPlanSpec)) pressPlanCard

/-- THE TIED CARD OF 'shearworkslaw08.PressMore'. -/
def pressMoreCard : Claim7 := { stood := { row := pressMoreRow, standIns := [], harness := (true, "a875a7a5d48e2146789987ba714ac6e4ee592a70d9a560aad9dc83cf25de5745"), looks := true }, kinds := [], alts := [], laidByText := true, laidKinds := [.data, .data], laidTests := true, laidLooks := .later }
def PressMoreCardSaid : Prop := Claim7.holds Tryz.pinned (.plain (OpenSpec.ofChange pressMoreSpec)) pressMoreCard

/-- THE SECOND FORM's CARD OF 'shearworkslaw08.PressReads'. -/
def pressReadsUptoCard : Claim7 := { stood := { row := pressReadsUptoRow, standIns := [], harness := (true, "a875a7a5d48e2146789987ba714ac6e4ee592a70d9a560aad9dc83cf25de5745"), looks := true }, kinds := [], alts := [], laidByText := true, laidKinds := [.data, .data], laidTests := true, laidLooks := .later }
def PressReadsUptoCardSaid : Prop := Claim7.holds Tryz.pinned (.plain (OpenSpec.upto pressReadsSpec)) pressReadsUptoCard

/-- THE SECOND FORM's CARD OF 'shearworkslaw08.PressPlans'. -/
def pressPlansUptoCard : Claim7 := { stood := { row := pressPlansUptoRow, standIns := [], harness := (true, "a875a7a5d48e2146789987ba714ac6e4ee592a70d9a560aad9dc83cf25de5745"), looks := true }, kinds := [], alts := [], laidByText := true, laidKinds := [.data, .data], laidTests := true, laidLooks := .later }
def PressPlansUptoCardSaid : Prop := Claim7.holds Tryz.pinned (.plain (OpenSpec.upto pressPlansSpec)) pressPlansUptoCard

/-- THE SECOND FORM's CARD OF 'shearworkslaw08.PressTrue'. -/
def pressTrueUptoCard : Claim7 := { stood := { row := pressTrueUptoRow, standIns := [], harness := (true, "a875a7a5d48e2146789987ba714ac6e4ee592a70d9a560aad9dc83cf25de5745"), looks := true }, kinds := [], alts := [], laidByText := true, laidKinds := [.data, .data], laidTests := true, laidLooks := .later }
def PressTrueUptoCardSaid : Prop := Claim7.holds Tryz.pinned (.plain (OpenSpec.upto pressTrueSpec)) pressTrueUptoCard

/-- THE SECOND FORM's CARD OF 'shearworkslaw08.PressEnds'. -/
def pressEndsUptoCard : Claim7 := { stood := { row := pressEndsUptoRow, standIns := [], harness := (true, "a875a7a5d48e2146789987ba714ac6e4ee592a70d9a560aad9dc83cf25de5745"), looks := true }, kinds := [], alts := [], laidByText := true, laidKinds := [.data, .data], laidTests := true, laidLooks := .later }
def PressEndsUptoCardSaid : Prop := Claim7.holds Tryz.pinned (.plain (OpenSpec.upto pressEndsSpec)) pressEndsUptoCard

/-- THE SECOND FORM's CARD OF 'shearworkslaw08.PressParts'. -/
def pressPartsUptoCard : Claim7 := { stood := { row := pressPartsUptoRow, standIns := [], harness := (true, "a875a7a5d48e2146789987ba714ac6e4ee592a70d9a560aad9dc83cf25de5745"), looks := true }, kinds := [], alts := [], laidByText := true, laidKinds := [.data, .data], laidTests := true, laidLooks := .later }
def PressPartsUptoCardSaid : Prop := Claim7.holds Tryz.pinned (.plain (OpenSpec.upto pressPartsSpec)) pressPartsUptoCard

/-- THE SECOND FORM's CARD OF 'shearworkslaw08.PressFits'. -/
def pressFitsUptoCard : Claim7 := { stood := { row := pressFitsUptoRow, standIns := [], harness := (true, "a875a7a5d48e2146789987ba714ac6e4ee592a70d9a560aad9dc83cf25de5745"), looks := true }, kinds := [], alts := [], laidByText := true, laidKinds := [.data, .data], laidTests := true, laidLooks := .later }
def PressFitsUptoCardSaid : Prop := Claim7.holds Tryz.pinned (.plain (OpenSpec.upto pressFitsSpec)) pressFitsUptoCard

/-- THE SECOND FORM's CARD OF 'shearworkslaw08.PressPlan'. -/
def pressPlanUptoCard : Claim7 := { stood := { row := pressPlanUptoRow, standIns := [], harness := (true, "a875a7a5d48e2146789987ba714ac6e4ee592a70d9a560aad9dc83cf25de5745"), looks := true }, kinds := [], alts := [], laidByText := true, laidKinds := [.data, .data], laidTests := true, laidLooks := .later }
def PressPlanUptoCardSaid : Prop := Claim7.holds Tryz.pinned (.plain (OpenSpec.upto pressPlanSpec)) pressPlanUptoCard

/-- THE SECOND FORM's CARD OF 'shearworkslaw08.PressMore'. -/
def pressMoreUptoCard : Claim7 := { stood := { row := pressMoreUptoRow, standIns := [], harness := (true, "a875a7a5d48e2146789987ba714ac6e4ee592a70d9a560aad9dc83cf25de5745"), looks := true }, kinds := [], alts := [], laidByText := true, laidKinds := [.data, .data], laidTests := true, laidLooks := .later }
def PressMoreUptoCardSaid : Prop := Claim7.holds Tryz.pinned (.plain (OpenSpec.upto pressMoreSpec)) pressMoreUptoCard
end Rows
end Go.Proofs.YtbkbbkkmahenlaaGreatDoor
