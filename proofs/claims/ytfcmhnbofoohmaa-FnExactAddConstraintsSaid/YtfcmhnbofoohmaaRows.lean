/-
  No cell of these rows narrows 'for every input' (looked for: loops, veiled, ifaces, maps, wideKeys, modest, calm, conditions, laid).
  DERIVED. THE GIVEN ROWS OF THIS SEAT. 8 by the template 'for every input the law returns true; each argument reads behind the call as it read before'; 0 by the template 'total and deterministic' (their statements: YtfcmhnbofoohmaaTotals.lean).
  GIVEN WITH THE SEED: the statements are not yours to turn. If you find one false, say at which input.
  Laid BY PROGRAM, IN A SANDBOX (cutbox-rows.mjs): the forced cells as the released guide's own fill.sh prints them over the translation eccde7a09242bd72… (all of the seat's roots in one cut). By AI agents, Wed Nov 11 2026. No macro, syntax, notation, axiom, sorry.
-/
import Derived.Test.YtfcmhnbofoohmaaChecked
import GoSem.Claim
import GoSem.ClaimJoined
import GoSem.ClaimMapViews
import Derived.JoinedTies
import Derived.KernelRfl
namespace Go.Proofs.Ytfcmhnbofoohmaa
/- THE CELL 'sum', in the pinned program and in every row, IS THE sha256 OF THE DUMP (.gsa) THAT YtfcmhnbofoohmaaProg.lean LOADS. Nothing in Lean hashes anything: it is a label: what it is worth is what the hold of that sum in a sandbox is worth. -/
noncomputable def Try.pinned : Pinned := { name := "ytfcmhnbofoohmaa", sum := "eccde7a09242bd7202cc265cf8812e91df5138cb2b7c4810c608a3bb4b5251da", checked := Try.checked }
namespace Rows
def none {H : Type} : Left H := { results := [], args := [] }

/-- 'laws.FnExactLiteralAxiom': WHATEVER THE INPUT: true; the input reads as it did. -/
def fnExactLiteralAxiomSpec : ChangeSpec := { name := "fnExactLiteralAxiom", fn := fun _ => fun
  | [d] => { results := [.lit (.bool true)], args := [d] }
  | _ => none }
def fnExactLiteralAxiomRow : OpenClaim := { program := "ytfcmhnbofoohmaa", sum := "eccde7a09242bd7202cc265cf8812e91df5138cb2b7c4810c608a3bb4b5251da", func := "loop.example/cuttingplanes/laws.FnExactLiteralAxiom", spec := "fnExactLiteralAxiom", unfollowed := true, recurses := true, apart := false }
def FnExactLiteralAxiomSaid : Prop := fnExactLiteralAxiomRow.holds Try.pinned (OpenSpec.ofChange fnExactLiteralAxiomSpec)

/-- ITS FALSE NEIGHBOUR: 'it returns false'. Refute it at one input. -/
def fnExactLiteralAxiomWrong : ChangeSpec := { name := "fnExactLiteralAxiom", fn := fun _ => fun
  | [d] => { results := [.lit (.bool false)], args := [d] }
  | _ => none }
def FnExactLiteralAxiomWrongFalsely : Prop := fnExactLiteralAxiomRow.holds Try.pinned (OpenSpec.ofChange fnExactLiteralAxiomWrong)

/-- 'laws.FnExactAddConstraints': WHATEVER THE INPUT: true; the input reads as it did. -/
def fnExactAddConstraintsSpec : ChangeSpec := { name := "fnExactAddConstraints", fn := fun _ => fun
  | [d1, d2] => { results := [.lit (.bool true)], args := [d1, d2] }
  | _ => none }
def fnExactAddConstraintsRow : OpenClaim := { program := "ytfcmhnbofoohmaa", sum := "eccde7a09242bd7202cc265cf8812e91df5138cb2b7c4810c608a3bb4b5251da", func := "loop.example/cuttingplanes/laws.FnExactAddConstraints", spec := "fnExactAddConstraints", unfollowed := true, recurses := true, apart := false }
def FnExactAddConstraintsSaid : Prop := fnExactAddConstraintsRow.holds Try.pinned (OpenSpec.ofChange fnExactAddConstraintsSpec)

/-- ITS FALSE NEIGHBOUR: 'it returns false'. Refute it at one input. -/
def fnExactAddConstraintsWrong : ChangeSpec := { name := "fnExactAddConstraints", fn := fun _ => fun
  | [d1, d2] => { results := [.lit (.bool false)], args := [d1, d2] }
  | _ => none }
def FnExactAddConstraintsWrongFalsely : Prop := fnExactAddConstraintsRow.holds Try.pinned (OpenSpec.ofChange fnExactAddConstraintsWrong)

/-- 'laws.FnExactMultiplyConstraint': WHATEVER THE INPUT: true; the input reads as it did. -/
def fnExactMultiplyConstraintSpec : ChangeSpec := { name := "fnExactMultiplyConstraint", fn := fun _ => fun
  | [d1, d2] => { results := [.lit (.bool true)], args := [d1, d2] }
  | _ => none }
def fnExactMultiplyConstraintRow : OpenClaim := { program := "ytfcmhnbofoohmaa", sum := "eccde7a09242bd7202cc265cf8812e91df5138cb2b7c4810c608a3bb4b5251da", func := "loop.example/cuttingplanes/laws.FnExactMultiplyConstraint", spec := "fnExactMultiplyConstraint", unfollowed := true, recurses := true, apart := false }
def FnExactMultiplyConstraintSaid : Prop := fnExactMultiplyConstraintRow.holds Try.pinned (OpenSpec.ofChange fnExactMultiplyConstraintSpec)

/-- ITS FALSE NEIGHBOUR: 'it returns false'. Refute it at one input. -/
def fnExactMultiplyConstraintWrong : ChangeSpec := { name := "fnExactMultiplyConstraint", fn := fun _ => fun
  | [d1, d2] => { results := [.lit (.bool false)], args := [d1, d2] }
  | _ => none }
def FnExactMultiplyConstraintWrongFalsely : Prop := fnExactMultiplyConstraintRow.holds Try.pinned (OpenSpec.ofChange fnExactMultiplyConstraintWrong)

/-- 'laws.FnExactDivideConstraint': WHATEVER THE INPUT: true; the input reads as it did. -/
def fnExactDivideConstraintSpec : ChangeSpec := { name := "fnExactDivideConstraint", fn := fun _ => fun
  | [d1, d2] => { results := [.lit (.bool true)], args := [d1, d2] }
  | _ => none }
def fnExactDivideConstraintRow : OpenClaim := { program := "ytfcmhnbofoohmaa", sum := "eccde7a09242bd7202cc265cf8812e91df5138cb2b7c4810c608a3bb4b5251da", func := "loop.example/cuttingplanes/laws.FnExactDivideConstraint", spec := "fnExactDivideConstraint", unfollowed := true, recurses := true, apart := false }
def FnExactDivideConstraintSaid : Prop := fnExactDivideConstraintRow.holds Try.pinned (OpenSpec.ofChange fnExactDivideConstraintSpec)

/-- ITS FALSE NEIGHBOUR: 'it returns false'. Refute it at one input. -/
def fnExactDivideConstraintWrong : ChangeSpec := { name := "fnExactDivideConstraint", fn := fun _ => fun
  | [d1, d2] => { results := [.lit (.bool false)], args := [d1, d2] }
  | _ => none }
def FnExactDivideConstraintWrongFalsely : Prop := fnExactDivideConstraintRow.holds Try.pinned (OpenSpec.ofChange fnExactDivideConstraintWrong)

/-- 'laws.FnExactSaturateConstraint': WHATEVER THE INPUT: true; the input reads as it did. -/
def fnExactSaturateConstraintSpec : ChangeSpec := { name := "fnExactSaturateConstraint", fn := fun _ => fun
  | [d] => { results := [.lit (.bool true)], args := [d] }
  | _ => none }
def fnExactSaturateConstraintRow : OpenClaim := { program := "ytfcmhnbofoohmaa", sum := "eccde7a09242bd7202cc265cf8812e91df5138cb2b7c4810c608a3bb4b5251da", func := "loop.example/cuttingplanes/laws.FnExactSaturateConstraint", spec := "fnExactSaturateConstraint", unfollowed := true, recurses := true, apart := false }
def FnExactSaturateConstraintSaid : Prop := fnExactSaturateConstraintRow.holds Try.pinned (OpenSpec.ofChange fnExactSaturateConstraintSpec)

/-- ITS FALSE NEIGHBOUR: 'it returns false'. Refute it at one input. -/
def fnExactSaturateConstraintWrong : ChangeSpec := { name := "fnExactSaturateConstraint", fn := fun _ => fun
  | [d] => { results := [.lit (.bool false)], args := [d] }
  | _ => none }
def FnExactSaturateConstraintWrongFalsely : Prop := fnExactSaturateConstraintRow.holds Try.pinned (OpenSpec.ofChange fnExactSaturateConstraintWrong)

/-- 'laws.FnExactWeakenConstraint': WHATEVER THE INPUT: true; the input reads as it did. -/
def fnExactWeakenConstraintSpec : ChangeSpec := { name := "fnExactWeakenConstraint", fn := fun _ => fun
  | [d1, d2] => { results := [.lit (.bool true)], args := [d1, d2] }
  | _ => none }
def fnExactWeakenConstraintRow : OpenClaim := { program := "ytfcmhnbofoohmaa", sum := "eccde7a09242bd7202cc265cf8812e91df5138cb2b7c4810c608a3bb4b5251da", func := "loop.example/cuttingplanes/laws.FnExactWeakenConstraint", spec := "fnExactWeakenConstraint", unfollowed := true, recurses := true, apart := false }
def FnExactWeakenConstraintSaid : Prop := fnExactWeakenConstraintRow.holds Try.pinned (OpenSpec.ofChange fnExactWeakenConstraintSpec)

/-- ITS FALSE NEIGHBOUR: 'it returns false'. Refute it at one input. -/
def fnExactWeakenConstraintWrong : ChangeSpec := { name := "fnExactWeakenConstraint", fn := fun _ => fun
  | [d1, d2] => { results := [.lit (.bool false)], args := [d1, d2] }
  | _ => none }
def FnExactWeakenConstraintWrongFalsely : Prop := fnExactWeakenConstraintRow.holds Try.pinned (OpenSpec.ofChange fnExactWeakenConstraintWrong)

/-- 'laws.FnExactCoversConstraint': WHATEVER THE INPUT: true; the input reads as it did. -/
def fnExactCoversConstraintSpec : ChangeSpec := { name := "fnExactCoversConstraint", fn := fun _ => fun
  | [d1, d2] => { results := [.lit (.bool true)], args := [d1, d2] }
  | _ => none }
def fnExactCoversConstraintRow : OpenClaim := { program := "ytfcmhnbofoohmaa", sum := "eccde7a09242bd7202cc265cf8812e91df5138cb2b7c4810c608a3bb4b5251da", func := "loop.example/cuttingplanes/laws.FnExactCoversConstraint", spec := "fnExactCoversConstraint", unfollowed := true, recurses := true, apart := false }
def FnExactCoversConstraintSaid : Prop := fnExactCoversConstraintRow.holds Try.pinned (OpenSpec.ofChange fnExactCoversConstraintSpec)

/-- ITS FALSE NEIGHBOUR: 'it returns false'. Refute it at one input. -/
def fnExactCoversConstraintWrong : ChangeSpec := { name := "fnExactCoversConstraint", fn := fun _ => fun
  | [d1, d2] => { results := [.lit (.bool false)], args := [d1, d2] }
  | _ => none }
def FnExactCoversConstraintWrongFalsely : Prop := fnExactCoversConstraintRow.holds Try.pinned (OpenSpec.ofChange fnExactCoversConstraintWrong)

/-- 'laws.FnExactClauseOf': WHATEVER THE INPUT: true; the input reads as it did. -/
def fnExactClauseOfSpec : ChangeSpec := { name := "fnExactClauseOf", fn := fun _ => fun
  | [d] => { results := [.lit (.bool true)], args := [d] }
  | _ => none }
def fnExactClauseOfRow : OpenClaim := { program := "ytfcmhnbofoohmaa", sum := "eccde7a09242bd7202cc265cf8812e91df5138cb2b7c4810c608a3bb4b5251da", func := "loop.example/cuttingplanes/laws.FnExactClauseOf", spec := "fnExactClauseOf", unfollowed := true, recurses := true, apart := false }
def FnExactClauseOfSaid : Prop := fnExactClauseOfRow.holds Try.pinned (OpenSpec.ofChange fnExactClauseOfSpec)

/-- ITS FALSE NEIGHBOUR: 'it returns false'. Refute it at one input. -/
def fnExactClauseOfWrong : ChangeSpec := { name := "fnExactClauseOf", fn := fun _ => fun
  | [d] => { results := [.lit (.bool false)], args := [d] }
  | _ => none }
def FnExactClauseOfWrongFalsely : Prop := fnExactClauseOfRow.holds Try.pinned (OpenSpec.ofChange fnExactClauseOfWrong)

/- THE SECOND FORM. 'bulk': how many values and letters a reading holds, each counted each time it is reached (what is shared counts as often as it is met; a slice's spare places count too). A statement '..UptoSaid' is the law's where the arguments, and the package variables that the reading takes, are together of bulk at most 1048576: NARROWER than '..Said'. Prove '..Said' where nothing that the law and all that it calls make is longer than what came in: it says more and counts as full. Else prove '..UptoSaid'. A law counts once. -/
mutual
def uptoBulk {H : Type} : DataW H → Nat
  | .lit (.string bytes) => bytes.length + 1
  | .lit _ => 1
  | .nil => 1
  | .ptr d => uptoBulk d + 1
  | .slice elems spare => uptoBulkAll elems + uptoBulkAll spare + 1
  | .agg parts => uptoBulkAll parts + 1
  | .iface _ d => uptoBulk d + 1
  | .map entries => uptoBulkEntries entries + 1
  | .held _ => 1
def uptoBulkAll {H : Type} : List (DataW H) → Nat
  | [] => 0
  | d :: r => uptoBulk d + uptoBulkAll r
def uptoBulkEntries {H : Type} : List (Lit × DataW H) → Nat
  | [] => 0
  | x :: r => uptoBulkEntry x + uptoBulkEntries r
def uptoBulkEntry {H : Type} : Lit × DataW H → Nat
  | (.string bytes, d) => bytes.length + uptoBulk d + 1
  | (_, d) => uptoBulk d + 1
 end
def uptoSmall : (H : Type) → List (DataW H) → Bool := fun _ ds => decide (uptoBulkAll ds ≤ 1048576)
def OpenSpec.upto (s : _root_.Go.ChangeSpec) : _root_.Go.OpenSpec := { _root_.Go.OpenSpec.ofChange s with cond := some uptoSmall }

/-- 'laws.FnExactLiteralAxiom', WHERE WHAT IT READS IS OF BULK AT MOST 1048576: true; the input reads as it did. -/
def fnExactLiteralAxiomUptoRow : OpenClaim := { program := "ytfcmhnbofoohmaa", sum := "eccde7a09242bd7202cc265cf8812e91df5138cb2b7c4810c608a3bb4b5251da", func := "loop.example/cuttingplanes/laws.FnExactLiteralAxiom", spec := "fnExactLiteralAxiom", unfollowed := true, recurses := true, apart := false, narrowed := true }
def FnExactLiteralAxiomUptoSaid : Prop := fnExactLiteralAxiomUptoRow.holds Try.pinned (OpenSpec.upto fnExactLiteralAxiomSpec)

/-- 'laws.FnExactAddConstraints', WHERE WHAT IT READS IS OF BULK AT MOST 1048576: true; the input reads as it did. -/
def fnExactAddConstraintsUptoRow : OpenClaim := { program := "ytfcmhnbofoohmaa", sum := "eccde7a09242bd7202cc265cf8812e91df5138cb2b7c4810c608a3bb4b5251da", func := "loop.example/cuttingplanes/laws.FnExactAddConstraints", spec := "fnExactAddConstraints", unfollowed := true, recurses := true, apart := false, narrowed := true }
def FnExactAddConstraintsUptoSaid : Prop := fnExactAddConstraintsUptoRow.holds Try.pinned (OpenSpec.upto fnExactAddConstraintsSpec)

/-- 'laws.FnExactMultiplyConstraint', WHERE WHAT IT READS IS OF BULK AT MOST 1048576: true; the input reads as it did. -/
def fnExactMultiplyConstraintUptoRow : OpenClaim := { program := "ytfcmhnbofoohmaa", sum := "eccde7a09242bd7202cc265cf8812e91df5138cb2b7c4810c608a3bb4b5251da", func := "loop.example/cuttingplanes/laws.FnExactMultiplyConstraint", spec := "fnExactMultiplyConstraint", unfollowed := true, recurses := true, apart := false, narrowed := true }
def FnExactMultiplyConstraintUptoSaid : Prop := fnExactMultiplyConstraintUptoRow.holds Try.pinned (OpenSpec.upto fnExactMultiplyConstraintSpec)

/-- 'laws.FnExactDivideConstraint', WHERE WHAT IT READS IS OF BULK AT MOST 1048576: true; the input reads as it did. -/
def fnExactDivideConstraintUptoRow : OpenClaim := { program := "ytfcmhnbofoohmaa", sum := "eccde7a09242bd7202cc265cf8812e91df5138cb2b7c4810c608a3bb4b5251da", func := "loop.example/cuttingplanes/laws.FnExactDivideConstraint", spec := "fnExactDivideConstraint", unfollowed := true, recurses := true, apart := false, narrowed := true }
def FnExactDivideConstraintUptoSaid : Prop := fnExactDivideConstraintUptoRow.holds Try.pinned (OpenSpec.upto fnExactDivideConstraintSpec)

/-- 'laws.FnExactSaturateConstraint', WHERE WHAT IT READS IS OF BULK AT MOST 1048576: true; the input reads as it did. -/
def fnExactSaturateConstraintUptoRow : OpenClaim := { program := "ytfcmhnbofoohmaa", sum := "eccde7a09242bd7202cc265cf8812e91df5138cb2b7c4810c608a3bb4b5251da", func := "loop.example/cuttingplanes/laws.FnExactSaturateConstraint", spec := "fnExactSaturateConstraint", unfollowed := true, recurses := true, apart := false, narrowed := true }
def FnExactSaturateConstraintUptoSaid : Prop := fnExactSaturateConstraintUptoRow.holds Try.pinned (OpenSpec.upto fnExactSaturateConstraintSpec)

/-- 'laws.FnExactWeakenConstraint', WHERE WHAT IT READS IS OF BULK AT MOST 1048576: true; the input reads as it did. -/
def fnExactWeakenConstraintUptoRow : OpenClaim := { program := "ytfcmhnbofoohmaa", sum := "eccde7a09242bd7202cc265cf8812e91df5138cb2b7c4810c608a3bb4b5251da", func := "loop.example/cuttingplanes/laws.FnExactWeakenConstraint", spec := "fnExactWeakenConstraint", unfollowed := true, recurses := true, apart := false, narrowed := true }
def FnExactWeakenConstraintUptoSaid : Prop := fnExactWeakenConstraintUptoRow.holds Try.pinned (OpenSpec.upto fnExactWeakenConstraintSpec)

/-- 'laws.FnExactCoversConstraint', WHERE WHAT IT READS IS OF BULK AT MOST 1048576: true; the input reads as it did. -/
def fnExactCoversConstraintUptoRow : OpenClaim := { program := "ytfcmhnbofoohmaa", sum := "eccde7a09242bd7202cc265cf8812e91df5138cb2b7c4810c608a3bb4b5251da", func := "loop.example/cuttingplanes/laws.FnExactCoversConstraint", spec := "fnExactCoversConstraint", unfollowed := true, recurses := true, apart := false, narrowed := true }
def FnExactCoversConstraintUptoSaid : Prop := fnExactCoversConstraintUptoRow.holds Try.pinned (OpenSpec.upto fnExactCoversConstraintSpec)

/-- 'laws.FnExactClauseOf', WHERE WHAT IT READS IS OF BULK AT MOST 1048576: true; the input reads as it did. -/
def fnExactClauseOfUptoRow : OpenClaim := { program := "ytfcmhnbofoohmaa", sum := "eccde7a09242bd7202cc265cf8812e91df5138cb2b7c4810c608a3bb4b5251da", func := "loop.example/cuttingplanes/laws.FnExactClauseOf", spec := "fnExactClauseOf", unfollowed := true, recurses := true, apart := false, narrowed := true }
def FnExactClauseOfUptoSaid : Prop := fnExactClauseOfUptoRow.holds Try.pinned (OpenSpec.upto fnExactClauseOfSpec)

end Rows
end Go.Proofs.Ytfcmhnbofoohmaa
