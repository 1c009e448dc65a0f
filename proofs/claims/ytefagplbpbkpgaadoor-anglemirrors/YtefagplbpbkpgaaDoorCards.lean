/-
  DERIVED. GIVEN WITH THE SEED: THE CARDS: each row of YtefagplbpbkpgaaDoorRows.lean that lists a variable, with what it lists TIED to the program's text (the seventh form; the later family's looks); each row that meets fmt, with fmt's text TOLD by the authors' own Lean function (tested against real Go, not proved from fmt's source: count such statements apart). THE CARD IS WHAT COUNTS. Prove the row's statement (the work); the ties are given (YtefagplbpbkpgaaDoorTie.lean); close each card by the builder's one call (the guide's Derived/Test/ToyasCard.lean, 'card_holds'). Laid BY PROGRAM, IN A SANDBOX (cutbox-door.mjs). By AI agents, Wed Nov 11 2026. No macro, syntax, notation, axiom, sorry.
-/
import Derived.Test.YtefagplbpbkpgaaDoorRows
import GoSem.ClaimSeven
namespace Go.Proofs.YtefagplbpbkpgaaDoor
namespace Rows

/-- THE TIED CARD OF 'arborlaw06.AngleTells'. -/
def angleTellsCard : Claim7 := { stood := { row := angleTellsRow, standIns := [], harness := (true, "d7d9f17154a01ad969c00eb8982c76e358c38fc142aa2b0e12a0eb70d0826f3c"), looks := false }, kinds := [], alts := [], laidByText := true, laidKinds := [.data], laidTests := true, laidLooks := .later }
def AngleTellsCardSaid : Prop := Claim7.holds Tryd.pinned (.plain (OpenSpec.ofChange angleTellsSpec)) angleTellsCard

/-- THE TIED CARD OF 'arborlaw06.AngleFits'. -/
def angleFitsCard : Claim7 := { stood := { row := angleFitsRow, standIns := [], harness := (true, "d7d9f17154a01ad969c00eb8982c76e358c38fc142aa2b0e12a0eb70d0826f3c"), looks := false }, kinds := [], alts := [], laidByText := true, laidKinds := [.data], laidTests := true, laidLooks := .later }
def AngleFitsCardSaid : Prop := Claim7.holds Tryd.pinned (.plain (OpenSpec.ofChange angleFitsSpec)) angleFitsCard

/-- THE TIED CARD OF 'arborlaw06.AngleMirrors'. -/
def angleMirrorsCard : Claim7 := { stood := { row := angleMirrorsRow, standIns := [], harness := (true, "d7d9f17154a01ad969c00eb8982c76e358c38fc142aa2b0e12a0eb70d0826f3c"), looks := false }, kinds := [], alts := [], laidByText := true, laidKinds := [.data], laidTests := true, laidLooks := .later }
def AngleMirrorsCardSaid : Prop := Claim7.holds Tryd.pinned (.plain (OpenSpec.ofChange angleMirrorsSpec)) angleMirrorsCard

/-- THE TIED CARD OF 'arborlaw06.AngleSwitches'. -/
def angleSwitchesCard : Claim7 := { stood := { row := angleSwitchesRow, standIns := [], harness := (true, "d7d9f17154a01ad969c00eb8982c76e358c38fc142aa2b0e12a0eb70d0826f3c"), looks := false }, kinds := [], alts := [], laidByText := true, laidKinds := [.data], laidTests := true, laidLooks := .later }
def AngleSwitchesCardSaid : Prop := Claim7.holds Tryd.pinned (.plain (OpenSpec.ofChange angleSwitchesSpec)) angleSwitchesCard

/-- THE SECOND FORM's CARD OF 'arborlaw06.AngleTells'. -/
def angleTellsUptoCard : Claim7 := { stood := { row := angleTellsUptoRow, standIns := [], harness := (true, "d7d9f17154a01ad969c00eb8982c76e358c38fc142aa2b0e12a0eb70d0826f3c"), looks := false }, kinds := [], alts := [], laidByText := true, laidKinds := [.data], laidTests := true, laidLooks := .later }
def AngleTellsUptoCardSaid : Prop := Claim7.holds Tryd.pinned (.plain (OpenSpec.upto angleTellsSpec)) angleTellsUptoCard

/-- THE SECOND FORM's CARD OF 'arborlaw06.AngleFits'. -/
def angleFitsUptoCard : Claim7 := { stood := { row := angleFitsUptoRow, standIns := [], harness := (true, "d7d9f17154a01ad969c00eb8982c76e358c38fc142aa2b0e12a0eb70d0826f3c"), looks := false }, kinds := [], alts := [], laidByText := true, laidKinds := [.data], laidTests := true, laidLooks := .later }
def AngleFitsUptoCardSaid : Prop := Claim7.holds Tryd.pinned (.plain (OpenSpec.upto angleFitsSpec)) angleFitsUptoCard

/-- THE SECOND FORM's CARD OF 'arborlaw06.AngleMirrors'. -/
def angleMirrorsUptoCard : Claim7 := { stood := { row := angleMirrorsUptoRow, standIns := [], harness := (true, "d7d9f17154a01ad969c00eb8982c76e358c38fc142aa2b0e12a0eb70d0826f3c"), looks := false }, kinds := [], alts := [], laidByText := true, laidKinds := [.data], laidTests := true, laidLooks := .later }
def AngleMirrorsUptoCardSaid : Prop := Claim7.holds Tryd.pinned (.plain (OpenSpec.upto angleMirrorsSpec)) angleMirrorsUptoCard

/-- THE SECOND FORM's CARD OF 'arborlaw06.AngleSwitches'. -/
def angleSwitchesUptoCard : Claim7 := { stood := { row := angleSwitchesUptoRow, standIns := [], harness := (true, "d7d9f17154a01ad969c00eb8982c76e358c38fc142aa2b0e12a0eb70d0826f3c"), looks := false }, kinds := [], alts := [], laidByText := true, laidKinds := [.data], laidTests := true, laidLooks := .later }
def AngleSwitchesUptoCardSaid : Prop := Claim7.holds Tryd.pinned (.plain (OpenSpec.upto angleSwitchesSpec)) angleSwitchesUptoCard
end Rows
end Go.Proofs.YtefagplbpbkpgaaDoor
