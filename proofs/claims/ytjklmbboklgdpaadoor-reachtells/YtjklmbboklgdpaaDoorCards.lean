/-
  DERIVED. GIVEN WITH THE SEED: THE CARDS: each row of YtjklmbboklgdpaaDoorRows.lean that lists a variable, with what it lists TIED to the program's text (the seventh form; the later family's looks); each row that meets fmt, with fmt's text TOLD by the authors' own Lean function (tested against real Go, not proved from fmt's source: count such statements apart). THE CARD IS WHAT COUNTS. Prove the row's statement (the work); the ties are given (YtjklmbboklgdpaaDoorTie.lean); close each card by the builder's one call (the guide's Derived/Test/ToyasCard.lean, 'card_holds'). Laid BY PROGRAM, IN A SANDBOX (cutbox-door.mjs). By AI agents, Wed Nov 11 2026. No macro, syntax, notation, axiom, sorry.
-/
import Derived.Test.YtjklmbboklgdpaaDoorRows
import GoSem.ClaimSeven
namespace Go.Proofs.YtjklmbboklgdpaaDoor
namespace Rows

/-- THE TIED CARD OF 'arborlaw03.ReachSets'. -/
def reachSetsCard : Claim7 := { stood := { row := reachSetsRow, standIns := [], harness := (true, "4f3b6cc226e3ec03e4e48e2e6ccfd1511ec6d2c7b8faae291300d8009a1769b6"), looks := false }, kinds := [], alts := [], laidByText := true, laidKinds := [.data], laidTests := true, laidLooks := .later }
def ReachSetsCardSaid : Prop := Claim7.holds Tryd.pinned (.plain (OpenSpec.ofChange reachSetsSpec)) reachSetsCard

/-- THE TIED CARD OF 'arborlaw03.ReachTells'. -/
def reachTellsCard : Claim7 := { stood := { row := reachTellsRow, standIns := [], harness := (true, "4f3b6cc226e3ec03e4e48e2e6ccfd1511ec6d2c7b8faae291300d8009a1769b6"), looks := false }, kinds := [], alts := [], laidByText := true, laidKinds := [.data], laidTests := true, laidLooks := .later }
def ReachTellsCardSaid : Prop := Claim7.holds Tryd.pinned (.plain (OpenSpec.ofChange reachTellsSpec)) reachTellsCard

/-- THE TIED CARD OF 'arborlaw03.ReachGood'. -/
def reachGoodCard : Claim7 := { stood := { row := reachGoodRow, standIns := [], harness := (true, "4f3b6cc226e3ec03e4e48e2e6ccfd1511ec6d2c7b8faae291300d8009a1769b6"), looks := false }, kinds := [], alts := [], laidByText := true, laidKinds := [.data], laidTests := true, laidLooks := .later }
def ReachGoodCardSaid : Prop := Claim7.holds Tryd.pinned (.plain (OpenSpec.ofChange reachGoodSpec)) reachGoodCard

/-- THE TIED CARD OF 'arborlaw03.ReachGrows'. -/
def reachGrowsCard : Claim7 := { stood := { row := reachGrowsRow, standIns := [], harness := (true, "4f3b6cc226e3ec03e4e48e2e6ccfd1511ec6d2c7b8faae291300d8009a1769b6"), looks := false }, kinds := [], alts := [], laidByText := true, laidKinds := [.data], laidTests := true, laidLooks := .later }
def ReachGrowsCardSaid : Prop := Claim7.holds Tryd.pinned (.plain (OpenSpec.ofChange reachGrowsSpec)) reachGrowsCard

/-- THE SECOND FORM's CARD OF 'arborlaw03.ReachSets'. -/
def reachSetsUptoCard : Claim7 := { stood := { row := reachSetsUptoRow, standIns := [], harness := (true, "4f3b6cc226e3ec03e4e48e2e6ccfd1511ec6d2c7b8faae291300d8009a1769b6"), looks := false }, kinds := [], alts := [], laidByText := true, laidKinds := [.data], laidTests := true, laidLooks := .later }
def ReachSetsUptoCardSaid : Prop := Claim7.holds Tryd.pinned (.plain (OpenSpec.upto reachSetsSpec)) reachSetsUptoCard

/-- THE SECOND FORM's CARD OF 'arborlaw03.ReachTells'. -/
def reachTellsUptoCard : Claim7 := { stood := { row := reachTellsUptoRow, standIns := [], harness := (true, "4f3b6cc226e3ec03e4e48e2e6ccfd1511ec6d2c7b8faae291300d8009a1769b6"), looks := false }, kinds := [], alts := [], laidByText := true, laidKinds := [.data], laidTests := true, laidLooks := .later }
def ReachTellsUptoCardSaid : Prop := Claim7.holds Tryd.pinned (.plain (OpenSpec.upto reachTellsSpec)) reachTellsUptoCard

/-- THE SECOND FORM's CARD OF 'arborlaw03.ReachGood'. -/
def reachGoodUptoCard : Claim7 := { stood := { row := reachGoodUptoRow, standIns := [], harness := (true, "4f3b6cc226e3ec03e4e48e2e6ccfd1511ec6d2c7b8faae291300d8009a1769b6"), looks := false }, kinds := [], alts := [], laidByText := true, laidKinds := [.data], laidTests := true, laidLooks := .later }
def ReachGoodUptoCardSaid : Prop := Claim7.holds Tryd.pinned (.plain (OpenSpec.upto reachGoodSpec)) reachGoodUptoCard

/-- THE SECOND FORM's CARD OF 'arborlaw03.ReachGrows'. -/
def reachGrowsUptoCard : Claim7 := { stood := { row := reachGrowsUptoRow, standIns := [], harness := (true, "4f3b6cc226e3ec03e4e48e2e6ccfd1511ec6d2c7b8faae291300d8009a1769b6"), looks := false }, kinds := [], alts := [], laidByText := true, laidKinds := [.data], laidTests := true, laidLooks := .later }
def ReachGrowsUptoCardSaid : Prop := Claim7.holds Tryd.pinned (.plain (OpenSpec.upto reachGrowsSpec)) reachGrowsUptoCard
end Rows
end Go.Proofs.YtjklmbboklgdpaaDoor
