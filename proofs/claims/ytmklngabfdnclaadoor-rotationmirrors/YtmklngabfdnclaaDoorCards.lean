/-
  DERIVED. GIVEN WITH THE SEED: THE CARDS: each row of YtmklngabfdnclaaDoorRows.lean that lists a variable, with what it lists TIED to the program's text (the seventh form; the later family's looks); each row that meets fmt, with fmt's text TOLD by the authors' own Lean function (tested against real Go, not proved from fmt's source: count such statements apart). THE CARD IS WHAT COUNTS. Prove the row's statement (the work); the ties are given (YtmklngabfdnclaaDoorTie.lean); close each card by the builder's one call (the guide's Derived/Test/ToyasCard.lean, 'card_holds'). Laid BY PROGRAM, IN A SANDBOX (cutbox-door.mjs). By AI agents, Wed Nov 11 2026. No macro, syntax, notation, axiom, sorry.
-/
import Derived.Test.YtmklngabfdnclaaDoorRows
import GoSem.ClaimSeven
namespace Go.Proofs.YtmklngabfdnclaaDoor
namespace Rows

/-- THE TIED CARD OF 'arborlaw05.RotationTells'. -/
def rotationTellsCard : Claim7 := { stood := { row := rotationTellsRow, standIns := [], harness := (true, "4163b446f63689460fe17dfc25247f77bcf98c1915c26249f9f0139e454fa925"), looks := false }, kinds := [], alts := [], laidByText := true, laidKinds := [.data], laidTests := true, laidLooks := .later }
def RotationTellsCardSaid : Prop := Claim7.holds Tryd.pinned (.plain (OpenSpec.ofChange rotationTellsSpec)) rotationTellsCard

/-- THE TIED CARD OF 'arborlaw05.RotationMirrors'. -/
def rotationMirrorsCard : Claim7 := { stood := { row := rotationMirrorsRow, standIns := [], harness := (true, "4163b446f63689460fe17dfc25247f77bcf98c1915c26249f9f0139e454fa925"), looks := false }, kinds := [], alts := [], laidByText := true, laidKinds := [.data], laidTests := true, laidLooks := .later }
def RotationMirrorsCardSaid : Prop := Claim7.holds Tryd.pinned (.plain (OpenSpec.ofChange rotationMirrorsSpec)) rotationMirrorsCard

/-- THE TIED CARD OF 'arborlaw05.RotationSwaps'. -/
def rotationSwapsCard : Claim7 := { stood := { row := rotationSwapsRow, standIns := [], harness := (true, "4163b446f63689460fe17dfc25247f77bcf98c1915c26249f9f0139e454fa925"), looks := false }, kinds := [], alts := [], laidByText := true, laidKinds := [.data], laidTests := true, laidLooks := .later }
def RotationSwapsCardSaid : Prop := Claim7.holds Tryd.pinned (.plain (OpenSpec.ofChange rotationSwapsSpec)) rotationSwapsCard

/-- THE SECOND FORM's CARD OF 'arborlaw05.RotationTells'. -/
def rotationTellsUptoCard : Claim7 := { stood := { row := rotationTellsUptoRow, standIns := [], harness := (true, "4163b446f63689460fe17dfc25247f77bcf98c1915c26249f9f0139e454fa925"), looks := false }, kinds := [], alts := [], laidByText := true, laidKinds := [.data], laidTests := true, laidLooks := .later }
def RotationTellsUptoCardSaid : Prop := Claim7.holds Tryd.pinned (.plain (OpenSpec.upto rotationTellsSpec)) rotationTellsUptoCard

/-- THE SECOND FORM's CARD OF 'arborlaw05.RotationMirrors'. -/
def rotationMirrorsUptoCard : Claim7 := { stood := { row := rotationMirrorsUptoRow, standIns := [], harness := (true, "4163b446f63689460fe17dfc25247f77bcf98c1915c26249f9f0139e454fa925"), looks := false }, kinds := [], alts := [], laidByText := true, laidKinds := [.data], laidTests := true, laidLooks := .later }
def RotationMirrorsUptoCardSaid : Prop := Claim7.holds Tryd.pinned (.plain (OpenSpec.upto rotationMirrorsSpec)) rotationMirrorsUptoCard

/-- THE SECOND FORM's CARD OF 'arborlaw05.RotationSwaps'. -/
def rotationSwapsUptoCard : Claim7 := { stood := { row := rotationSwapsUptoRow, standIns := [], harness := (true, "4163b446f63689460fe17dfc25247f77bcf98c1915c26249f9f0139e454fa925"), looks := false }, kinds := [], alts := [], laidByText := true, laidKinds := [.data], laidTests := true, laidLooks := .later }
def RotationSwapsUptoCardSaid : Prop := Claim7.holds Tryd.pinned (.plain (OpenSpec.upto rotationSwapsSpec)) rotationSwapsUptoCard
end Rows
end Go.Proofs.YtmklngabfdnclaaDoor
