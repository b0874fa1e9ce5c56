/-
  NARROWER THAN 'FOR EVERY INPUT', by the rows' own cells (each row's printed sentence says how): FnExactLiftStep: laid · FnLiftStep: laid.
  DERIVED. THE GIVEN ROWS OF THIS SEAT. 2 by the template 'for every input the law returns true; each argument reads behind the call as it read before'; 0 by the template 'total and deterministic' (their statements: YtbebdhjhlheboaaDoorTotals.lean).
  GIVEN WITH THE SEED: the statements are not yours to turn. If you find one false, say at which input.
  Laid BY PROGRAM, IN A SANDBOX (cutbox-rows.mjs): the forced cells as the released guide's own fill.sh prints them over the translation 714667037063b7c6… (all of the seat's roots in one cut). By AI agents, Wed Nov 11 2026. No macro, syntax, notation, axiom, sorry.
-/
import Derived.Test.YtbebdhjhlheboaaDoorChecked
import GoSem.Claim
import GoSem.ClaimJoined
import GoSem.ClaimMapViews
import Derived.JoinedTies
import Derived.KernelRfl
namespace Go.Proofs.YtbebdhjhlheboaaDoor
/- THE CELL 'sum', in the pinned program and in every row, IS THE sha256 OF THE DUMP (.gsa) THAT YtbebdhjhlheboaaDoorProg.lean LOADS. Nothing in Lean hashes anything: it is a label: what it is worth is what the hold of that sum in a sandbox is worth. -/
noncomputable def Tryd.pinned : Pinned := { name := "ytbebdhjhlheboaadoor", sum := "714667037063b7c68b6a791c8af4ef666bedc021430de84bd4c189d61583cd4d", checked := Tryd.checked }
namespace Rows
def none {H : Type} : Left H := { results := [], args := [] }

/- WHAT THE LISTED PACKAGE-LEVEL VARIABLES READ AS WHEN THE CALL BEGINS. Each datum BY PROGRAM (the guide's laid-datum.mjs) off the statement by which the dump's own 'gosem.cut.vars' lays the variable. In a bare row this is a premise. The card (YtbebdhjhlheboaaDoorCards.lean) ties it to the program's text. -/
def laid_loop_example_cuttingplanes_impl_layouts {H : Type} : DataW H := .agg [.agg [.lit (.string []), .lit (.int .i64 0), .lit (.int .i64 0), .lit (.bool false)], .agg [.lit (.string [97, 100, 100]), .lit (.int .i64 1), .lit (.int .i64 1), .lit (.bool false)], .agg [.lit (.string [109, 117, 108, 116, 105, 112, 108, 121]), .lit (.int .i64 1), .lit (.int .i64 2), .lit (.bool false)], .agg [.lit (.string [100, 105, 118, 105, 100, 101]), .lit (.int .i64 1), .lit (.int .i64 2), .lit (.bool false)], .agg [.lit (.string [115, 97, 116, 117, 114, 97, 116, 101]), .lit (.int .i64 1), .lit (.int .i64 0), .lit (.bool false)], .agg [.lit (.string [119, 101, 97, 107, 101, 110]), .lit (.int .i64 1), .lit (.int .i64 2), .lit (.bool false)], .agg [.lit (.string [108, 105, 116, 101, 114, 97, 108]), .lit (.int .i64 3), .lit (.int .i64 0), .lit (.bool false)], .agg [.lit (.string [114, 117, 112]), .lit (.int .i64 0), .lit (.int .i64 0), .lit (.bool true)], .agg [.lit (.string [100, 101, 108, 101, 116, 101]), .lit (.int .i64 1), .lit (.int .i64 0), .lit (.bool false)]]

/-- 'laws.FnExactLiftStep': WHATEVER THE INPUT: true; the input reads as it did. -/
def fnExactLiftStepSpec : ChangeSpec := { name := "fnExactLiftStep", vars := ["loop.example/cuttingplanes/impl.layouts"], fn := fun _ => fun
  | [d1, d2, g1] => { results := [.lit (.bool true)], args := [d1, d2], vars := [g1] }
  | _ => none }
def fnExactLiftStepRow : OpenClaim := { program := "ytbebdhjhlheboaadoor", sum := "714667037063b7c68b6a791c8af4ef666bedc021430de84bd4c189d61583cd4d", func := "loop.example/cuttingplanes/laws.FnExactLiftStep", spec := "fnExactLiftStep", unfollowed := true, recurses := true, named := ["loop.example/cuttingplanes/impl.layouts"], apart := false, laid := [("loop.example/cuttingplanes/impl.layouts", laid_loop_example_cuttingplanes_impl_layouts)] }
def FnExactLiftStepSaid : Prop := fnExactLiftStepRow.holds Tryd.pinned (OpenSpec.ofChange fnExactLiftStepSpec)

/-- ITS FALSE NEIGHBOUR: 'it returns false'. Refute it at one input. -/
def fnExactLiftStepWrong : ChangeSpec := { name := "fnExactLiftStep", vars := ["loop.example/cuttingplanes/impl.layouts"], fn := fun _ => fun
  | [d1, d2, g1] => { results := [.lit (.bool false)], args := [d1, d2], vars := [g1] }
  | _ => none }
def FnExactLiftStepWrongFalsely : Prop := fnExactLiftStepRow.holds Tryd.pinned (OpenSpec.ofChange fnExactLiftStepWrong)

/-- 'laws.FnLiftStep': WHATEVER THE INPUT: true; the input reads as it did. -/
def fnLiftStepSpec : ChangeSpec := { name := "fnLiftStep", vars := ["loop.example/cuttingplanes/impl.layouts"], fn := fun _ => fun
  | [d1, d2, g1] => { results := [.lit (.bool true)], args := [d1, d2], vars := [g1] }
  | _ => none }
def fnLiftStepRow : OpenClaim := { program := "ytbebdhjhlheboaadoor", sum := "714667037063b7c68b6a791c8af4ef666bedc021430de84bd4c189d61583cd4d", func := "loop.example/cuttingplanes/laws.FnLiftStep", spec := "fnLiftStep", unfollowed := true, recurses := true, named := ["loop.example/cuttingplanes/impl.layouts"], apart := false, laid := [("loop.example/cuttingplanes/impl.layouts", laid_loop_example_cuttingplanes_impl_layouts)] }
def FnLiftStepSaid : Prop := fnLiftStepRow.holds Tryd.pinned (OpenSpec.ofChange fnLiftStepSpec)

/-- ITS FALSE NEIGHBOUR: 'it returns false'. Refute it at one input. -/
def fnLiftStepWrong : ChangeSpec := { name := "fnLiftStep", vars := ["loop.example/cuttingplanes/impl.layouts"], fn := fun _ => fun
  | [d1, d2, g1] => { results := [.lit (.bool false)], args := [d1, d2], vars := [g1] }
  | _ => none }
def FnLiftStepWrongFalsely : Prop := fnLiftStepRow.holds Tryd.pinned (OpenSpec.ofChange fnLiftStepWrong)

/- THE SECOND FORM. 'bulk': how many values and letters a reading holds, each counted each time it is reached (what is shared counts as often as it is met; a slice's spare places count too). A statement '..UptoSaid' is the law's where the arguments, and the package variables that the reading takes, are together of bulk at most 1048576: NARROWER than '..Said'. Prove '..Said' where nothing that the law and all that it calls make is longer than what came in: it says more and counts as full. Else prove '..UptoSaid'. A law counts once. -/
mutual
def uptoBulk {H : Type} : DataW H → Nat
  | .lit (.string bytes) => bytes.length + 1
  | .lit _ => 1
  | .nil => 1
  | .ptr d => uptoBulk d + 1
  | .slice elems spare => uptoBulkAll elems + uptoBulkAll spare + 1
  | .agg parts => uptoBulkAll parts + 1
  | .iface _ d => uptoBulk d + 1
  | .map entries => uptoBulkEntries entries + 1
  | .held _ => 1
def uptoBulkAll {H : Type} : List (DataW H) → Nat
  | [] => 0
  | d :: r => uptoBulk d + uptoBulkAll r
def uptoBulkEntries {H : Type} : List (Lit × DataW H) → Nat
  | [] => 0
  | x :: r => uptoBulkEntry x + uptoBulkEntries r
def uptoBulkEntry {H : Type} : Lit × DataW H → Nat
  | (.string bytes, d) => bytes.length + uptoBulk d + 1
  | (_, d) => uptoBulk d + 1
 end
def uptoSmall : (H : Type) → List (DataW H) → Bool := fun _ ds => decide (uptoBulkAll ds ≤ 1048576)
def OpenSpec.upto (s : _root_.Go.ChangeSpec) : _root_.Go.OpenSpec := { _root_.Go.OpenSpec.ofChange s with cond := some uptoSmall }

/-- 'laws.FnExactLiftStep', WHERE WHAT IT READS IS OF BULK AT MOST 1048576: true; the input reads as it did. -/
def fnExactLiftStepUptoRow : OpenClaim := { program := "ytbebdhjhlheboaadoor", sum := "714667037063b7c68b6a791c8af4ef666bedc021430de84bd4c189d61583cd4d", func := "loop.example/cuttingplanes/laws.FnExactLiftStep", spec := "fnExactLiftStep", unfollowed := true, recurses := true, named := ["loop.example/cuttingplanes/impl.layouts"], apart := false, laid := [("loop.example/cuttingplanes/impl.layouts", laid_loop_example_cuttingplanes_impl_layouts)], narrowed := true }
def FnExactLiftStepUptoSaid : Prop := fnExactLiftStepUptoRow.holds Tryd.pinned (OpenSpec.upto fnExactLiftStepSpec)

/-- 'laws.FnLiftStep', WHERE WHAT IT READS IS OF BULK AT MOST 1048576: true; the input reads as it did. -/
def fnLiftStepUptoRow : OpenClaim := { program := "ytbebdhjhlheboaadoor", sum := "714667037063b7c68b6a791c8af4ef666bedc021430de84bd4c189d61583cd4d", func := "loop.example/cuttingplanes/laws.FnLiftStep", spec := "fnLiftStep", unfollowed := true, recurses := true, named := ["loop.example/cuttingplanes/impl.layouts"], apart := false, laid := [("loop.example/cuttingplanes/impl.layouts", laid_loop_example_cuttingplanes_impl_layouts)], narrowed := true }
def FnLiftStepUptoSaid : Prop := fnLiftStepUptoRow.holds Tryd.pinned (OpenSpec.upto fnLiftStepSpec)

end Rows
end Go.Proofs.YtbebdhjhlheboaaDoor
