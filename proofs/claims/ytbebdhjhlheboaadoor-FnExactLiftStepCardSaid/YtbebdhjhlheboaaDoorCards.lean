/-
  DERIVED. GIVEN WITH THE SEED: THE CARDS: each row of YtbebdhjhlheboaaDoorRows.lean that lists a variable, with what it lists TIED to the program's text (the seventh form; the later family's looks); each row that meets fmt, with fmt's text TOLD by the authors' own Lean function (tested against real Go, not proved from fmt's source: count such statements apart). THE CARD IS WHAT COUNTS. Prove the row's statement (the work); the ties are given (YtbebdhjhlheboaaDoorTie.lean); close each card by the builder's one call (the guide's Derived/Test/ToyasCard.lean, 'card_holds'). Laid BY PROGRAM, IN A SANDBOX (cutbox-door.mjs). By AI agents, Wed Nov 11 2026. No macro, syntax, notation, axiom, sorry.
-/
import Derived.Test.YtbebdhjhlheboaaDoorRows
import GoSem.ClaimSeven
namespace Go.Proofs.YtbebdhjhlheboaaDoor
namespace Rows

/-- THE TIED CARD OF 'laws.FnExactLiftStep'. -/
def fnExactLiftStepCard : Claim7 := { stood := { row := fnExactLiftStepRow, standIns := [], harness := (true, "ceaa83f3bc9ed62e9181890566137e22a1b44ce3553f7c74c00964ab13d3e39c"), looks := false }, kinds := [], alts := [], laidByText := true, laidKinds := [.data], laidTests := true, laidLooks := .later }
def FnExactLiftStepCardSaid : Prop := Claim7.holds Tryd.pinned (.plain (OpenSpec.ofChange fnExactLiftStepSpec)) fnExactLiftStepCard

/-- THE TIED CARD OF 'laws.FnLiftStep'. -/
def fnLiftStepCard : Claim7 := { stood := { row := fnLiftStepRow, standIns := [], harness := (true, "ceaa83f3bc9ed62e9181890566137e22a1b44ce3553f7c74c00964ab13d3e39c"), looks := false }, kinds := [], alts := [], laidByText := true, laidKinds := [.data], laidTests := true, laidLooks := .later }
def FnLiftStepCardSaid : Prop := Claim7.holds Tryd.pinned (.plain (OpenSpec.ofChange fnLiftStepSpec)) fnLiftStepCard

/-- THE SECOND FORM's CARD OF 'laws.FnExactLiftStep'. -/
def fnExactLiftStepUptoCard : Claim7 := { stood := { row := fnExactLiftStepUptoRow, standIns := [], harness := (true, "ceaa83f3bc9ed62e9181890566137e22a1b44ce3553f7c74c00964ab13d3e39c"), looks := false }, kinds := [], alts := [], laidByText := true, laidKinds := [.data], laidTests := true, laidLooks := .later }
def FnExactLiftStepUptoCardSaid : Prop := Claim7.holds Tryd.pinned (.plain (OpenSpec.upto fnExactLiftStepSpec)) fnExactLiftStepUptoCard

/-- THE SECOND FORM's CARD OF 'laws.FnLiftStep'. -/
def fnLiftStepUptoCard : Claim7 := { stood := { row := fnLiftStepUptoRow, standIns := [], harness := (true, "ceaa83f3bc9ed62e9181890566137e22a1b44ce3553f7c74c00964ab13d3e39c"), looks := false }, kinds := [], alts := [], laidByText := true, laidKinds := [.data], laidTests := true, laidLooks := .later }
def FnLiftStepUptoCardSaid : Prop := Claim7.holds Tryd.pinned (.plain (OpenSpec.upto fnLiftStepSpec)) fnLiftStepUptoCard
end Rows
end Go.Proofs.YtbebdhjhlheboaaDoor
