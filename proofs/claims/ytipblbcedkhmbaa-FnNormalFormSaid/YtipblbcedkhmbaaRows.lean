/-
  No cell of these rows narrows 'for every input' (looked for: loops, veiled, ifaces, maps, wideKeys, modest, calm, conditions, laid).
  DERIVED. THE GIVEN ROWS OF THIS SEAT. 13 by the template 'for every input the law returns true; each argument reads behind the call as it read before'; 0 by the template 'total and deterministic' (their statements: YtipblbcedkhmbaaTotals.lean).
  GIVEN WITH THE SEED: the statements are not yours to turn. If you find one false, say at which input.
  Laid BY PROGRAM, IN A SANDBOX (cutbox-rows.mjs): the forced cells as the released guide's own fill.sh prints them over the translation 9f65bfbba5bc1636… (all of the seat's roots in one cut). By AI agents, Wed Nov 11 2026. No macro, syntax, notation, axiom, sorry.
-/
import Derived.Test.YtipblbcedkhmbaaChecked
import GoSem.Claim
import GoSem.ClaimJoined
import GoSem.ClaimMapViews
import Derived.JoinedTies
import Derived.KernelRfl
namespace Go.Proofs.Ytipblbcedkhmbaa
/- THE CELL 'sum', in the pinned program and in every row, IS THE sha256 OF THE DUMP (.gsa) THAT YtipblbcedkhmbaaProg.lean LOADS. Nothing in Lean hashes anything: it is a label: what it is worth is what the hold of that sum in a sandbox is worth. -/
noncomputable def Try.pinned : Pinned := { name := "ytipblbcedkhmbaa", sum := "9f65bfbba5bc16362abf7d8b4ebf86516bfecc4e9004bd935e8858e001e83e46", checked := Try.checked }
namespace Rows
def none {H : Type} : Left H := { results := [], args := [] }

/-- 'laws.FnNormalForm': WHATEVER THE INPUT: true; the input reads as it did. -/
def fnNormalFormSpec : ChangeSpec := { name := "fnNormalForm", fn := fun _ => fun
  | [d1, d2] => { results := [.lit (.bool true)], args := [d1, d2] }
  | _ => none }
def fnNormalFormRow : OpenClaim := { program := "ytipblbcedkhmbaa", sum := "9f65bfbba5bc16362abf7d8b4ebf86516bfecc4e9004bd935e8858e001e83e46", func := "loop.example/cuttingplanes/laws.FnNormalForm", spec := "fnNormalForm", unfollowed := true, recurses := true, apart := false }
def FnNormalFormSaid : Prop := fnNormalFormRow.holds Try.pinned (OpenSpec.ofChange fnNormalFormSpec)

/-- ITS FALSE NEIGHBOUR: 'it returns false'. Refute it at one input. -/
def fnNormalFormWrong : ChangeSpec := { name := "fnNormalForm", fn := fun _ => fun
  | [d1, d2] => { results := [.lit (.bool false)], args := [d1, d2] }
  | _ => none }
def FnNormalFormWrongFalsely : Prop := fnNormalFormRow.holds Try.pinned (OpenSpec.ofChange fnNormalFormWrong)

/-- 'laws.FnNormalTwice': WHATEVER THE INPUT: true; the input reads as it did. -/
def fnNormalTwiceSpec : ChangeSpec := { name := "fnNormalTwice", fn := fun _ => fun
  | [d] => { results := [.lit (.bool true)], args := [d] }
  | _ => none }
def fnNormalTwiceRow : OpenClaim := { program := "ytipblbcedkhmbaa", sum := "9f65bfbba5bc16362abf7d8b4ebf86516bfecc4e9004bd935e8858e001e83e46", func := "loop.example/cuttingplanes/laws.FnNormalTwice", spec := "fnNormalTwice", unfollowed := true, recurses := true, apart := false }
def FnNormalTwiceSaid : Prop := fnNormalTwiceRow.holds Try.pinned (OpenSpec.ofChange fnNormalTwiceSpec)

/-- ITS FALSE NEIGHBOUR: 'it returns false'. Refute it at one input. -/
def fnNormalTwiceWrong : ChangeSpec := { name := "fnNormalTwice", fn := fun _ => fun
  | [d] => { results := [.lit (.bool false)], args := [d] }
  | _ => none }
def FnNormalTwiceWrongFalsely : Prop := fnNormalTwiceRow.holds Try.pinned (OpenSpec.ofChange fnNormalTwiceWrong)

/-- 'laws.FnExtendsPartial': WHATEVER THE INPUT: true; the input reads as it did. -/
def fnExtendsPartialSpec : ChangeSpec := { name := "fnExtendsPartial", fn := fun _ => fun
  | [d1, d2] => { results := [.lit (.bool true)], args := [d1, d2] }
  | _ => none }
def fnExtendsPartialRow : OpenClaim := { program := "ytipblbcedkhmbaa", sum := "9f65bfbba5bc16362abf7d8b4ebf86516bfecc4e9004bd935e8858e001e83e46", func := "loop.example/cuttingplanes/laws.FnExtendsPartial", spec := "fnExtendsPartial", unfollowed := true, recurses := true, apart := false }
def FnExtendsPartialSaid : Prop := fnExtendsPartialRow.holds Try.pinned (OpenSpec.ofChange fnExtendsPartialSpec)

/-- ITS FALSE NEIGHBOUR: 'it returns false'. Refute it at one input. -/
def fnExtendsPartialWrong : ChangeSpec := { name := "fnExtendsPartial", fn := fun _ => fun
  | [d1, d2] => { results := [.lit (.bool false)], args := [d1, d2] }
  | _ => none }
def FnExtendsPartialWrongFalsely : Prop := fnExtendsPartialRow.holds Try.pinned (OpenSpec.ofChange fnExtendsPartialWrong)

/-- 'laws.FnProofSame': WHATEVER THE INPUT: true; the input reads as it did. -/
def fnProofSameSpec : ChangeSpec := { name := "fnProofSame", fn := fun _ => fun
  | [d] => { results := [.lit (.bool true)], args := [d] }
  | _ => none }
def fnProofSameRow : OpenClaim := { program := "ytipblbcedkhmbaa", sum := "9f65bfbba5bc16362abf7d8b4ebf86516bfecc4e9004bd935e8858e001e83e46", func := "loop.example/cuttingplanes/laws.FnProofSame", spec := "fnProofSame", unfollowed := true, recurses := true, apart := false }
def FnProofSameSaid : Prop := fnProofSameRow.holds Try.pinned (OpenSpec.ofChange fnProofSameSpec)

/-- ITS FALSE NEIGHBOUR: 'it returns false'. Refute it at one input. -/
def fnProofSameWrong : ChangeSpec := { name := "fnProofSame", fn := fun _ => fun
  | [d] => { results := [.lit (.bool false)], args := [d] }
  | _ => none }
def FnProofSameWrongFalsely : Prop := fnProofSameRow.holds Try.pinned (OpenSpec.ofChange fnProofSameWrong)

/-- 'laws.FnLiteralAxiom': WHATEVER THE INPUT: true; the input reads as it did. -/
def fnLiteralAxiomSpec : ChangeSpec := { name := "fnLiteralAxiom", fn := fun _ => fun
  | [d1, d2] => { results := [.lit (.bool true)], args := [d1, d2] }
  | _ => none }
def fnLiteralAxiomRow : OpenClaim := { program := "ytipblbcedkhmbaa", sum := "9f65bfbba5bc16362abf7d8b4ebf86516bfecc4e9004bd935e8858e001e83e46", func := "loop.example/cuttingplanes/laws.FnLiteralAxiom", spec := "fnLiteralAxiom", unfollowed := true, recurses := true, apart := false }
def FnLiteralAxiomSaid : Prop := fnLiteralAxiomRow.holds Try.pinned (OpenSpec.ofChange fnLiteralAxiomSpec)

/-- ITS FALSE NEIGHBOUR: 'it returns false'. Refute it at one input. -/
def fnLiteralAxiomWrong : ChangeSpec := { name := "fnLiteralAxiom", fn := fun _ => fun
  | [d1, d2] => { results := [.lit (.bool false)], args := [d1, d2] }
  | _ => none }
def FnLiteralAxiomWrongFalsely : Prop := fnLiteralAxiomRow.holds Try.pinned (OpenSpec.ofChange fnLiteralAxiomWrong)

/-- 'laws.FnMultiplyConstraint': WHATEVER THE INPUT: true; the input reads as it did. -/
def fnMultiplyConstraintSpec : ChangeSpec := { name := "fnMultiplyConstraint", fn := fun _ => fun
  | [d1, d2] => { results := [.lit (.bool true)], args := [d1, d2] }
  | _ => none }
def fnMultiplyConstraintRow : OpenClaim := { program := "ytipblbcedkhmbaa", sum := "9f65bfbba5bc16362abf7d8b4ebf86516bfecc4e9004bd935e8858e001e83e46", func := "loop.example/cuttingplanes/laws.FnMultiplyConstraint", spec := "fnMultiplyConstraint", unfollowed := true, recurses := true, apart := false }
def FnMultiplyConstraintSaid : Prop := fnMultiplyConstraintRow.holds Try.pinned (OpenSpec.ofChange fnMultiplyConstraintSpec)

/-- ITS FALSE NEIGHBOUR: 'it returns false'. Refute it at one input. -/
def fnMultiplyConstraintWrong : ChangeSpec := { name := "fnMultiplyConstraint", fn := fun _ => fun
  | [d1, d2] => { results := [.lit (.bool false)], args := [d1, d2] }
  | _ => none }
def FnMultiplyConstraintWrongFalsely : Prop := fnMultiplyConstraintRow.holds Try.pinned (OpenSpec.ofChange fnMultiplyConstraintWrong)

/-- 'laws.FnDivideConstraint': WHATEVER THE INPUT: true; the input reads as it did. -/
def fnDivideConstraintSpec : ChangeSpec := { name := "fnDivideConstraint", fn := fun _ => fun
  | [d1, d2] => { results := [.lit (.bool true)], args := [d1, d2] }
  | _ => none }
def fnDivideConstraintRow : OpenClaim := { program := "ytipblbcedkhmbaa", sum := "9f65bfbba5bc16362abf7d8b4ebf86516bfecc4e9004bd935e8858e001e83e46", func := "loop.example/cuttingplanes/laws.FnDivideConstraint", spec := "fnDivideConstraint", unfollowed := true, recurses := true, apart := false }
def FnDivideConstraintSaid : Prop := fnDivideConstraintRow.holds Try.pinned (OpenSpec.ofChange fnDivideConstraintSpec)

/-- ITS FALSE NEIGHBOUR: 'it returns false'. Refute it at one input. -/
def fnDivideConstraintWrong : ChangeSpec := { name := "fnDivideConstraint", fn := fun _ => fun
  | [d1, d2] => { results := [.lit (.bool false)], args := [d1, d2] }
  | _ => none }
def FnDivideConstraintWrongFalsely : Prop := fnDivideConstraintRow.holds Try.pinned (OpenSpec.ofChange fnDivideConstraintWrong)

/-- 'laws.FnSaturateConstraint': WHATEVER THE INPUT: true; the input reads as it did. -/
def fnSaturateConstraintSpec : ChangeSpec := { name := "fnSaturateConstraint", fn := fun _ => fun
  | [d1, d2] => { results := [.lit (.bool true)], args := [d1, d2] }
  | _ => none }
def fnSaturateConstraintRow : OpenClaim := { program := "ytipblbcedkhmbaa", sum := "9f65bfbba5bc16362abf7d8b4ebf86516bfecc4e9004bd935e8858e001e83e46", func := "loop.example/cuttingplanes/laws.FnSaturateConstraint", spec := "fnSaturateConstraint", unfollowed := true, recurses := true, apart := false }
def FnSaturateConstraintSaid : Prop := fnSaturateConstraintRow.holds Try.pinned (OpenSpec.ofChange fnSaturateConstraintSpec)

/-- ITS FALSE NEIGHBOUR: 'it returns false'. Refute it at one input. -/
def fnSaturateConstraintWrong : ChangeSpec := { name := "fnSaturateConstraint", fn := fun _ => fun
  | [d1, d2] => { results := [.lit (.bool false)], args := [d1, d2] }
  | _ => none }
def FnSaturateConstraintWrongFalsely : Prop := fnSaturateConstraintRow.holds Try.pinned (OpenSpec.ofChange fnSaturateConstraintWrong)

/-- 'laws.FnWeakenConstraint': WHATEVER THE INPUT: true; the input reads as it did. -/
def fnWeakenConstraintSpec : ChangeSpec := { name := "fnWeakenConstraint", fn := fun _ => fun
  | [d1, d2] => { results := [.lit (.bool true)], args := [d1, d2] }
  | _ => none }
def fnWeakenConstraintRow : OpenClaim := { program := "ytipblbcedkhmbaa", sum := "9f65bfbba5bc16362abf7d8b4ebf86516bfecc4e9004bd935e8858e001e83e46", func := "loop.example/cuttingplanes/laws.FnWeakenConstraint", spec := "fnWeakenConstraint", unfollowed := true, recurses := true, apart := false }
def FnWeakenConstraintSaid : Prop := fnWeakenConstraintRow.holds Try.pinned (OpenSpec.ofChange fnWeakenConstraintSpec)

/-- ITS FALSE NEIGHBOUR: 'it returns false'. Refute it at one input. -/
def fnWeakenConstraintWrong : ChangeSpec := { name := "fnWeakenConstraint", fn := fun _ => fun
  | [d1, d2] => { results := [.lit (.bool false)], args := [d1, d2] }
  | _ => none }
def FnWeakenConstraintWrongFalsely : Prop := fnWeakenConstraintRow.holds Try.pinned (OpenSpec.ofChange fnWeakenConstraintWrong)

/-- 'laws.FnAddConstraints': WHATEVER THE INPUT: true; the input reads as it did. -/
def fnAddConstraintsSpec : ChangeSpec := { name := "fnAddConstraints", fn := fun _ => fun
  | [d1, d2] => { results := [.lit (.bool true)], args := [d1, d2] }
  | _ => none }
def fnAddConstraintsRow : OpenClaim := { program := "ytipblbcedkhmbaa", sum := "9f65bfbba5bc16362abf7d8b4ebf86516bfecc4e9004bd935e8858e001e83e46", func := "loop.example/cuttingplanes/laws.FnAddConstraints", spec := "fnAddConstraints", unfollowed := true, recurses := true, apart := false }
def FnAddConstraintsSaid : Prop := fnAddConstraintsRow.holds Try.pinned (OpenSpec.ofChange fnAddConstraintsSpec)

/-- ITS FALSE NEIGHBOUR: 'it returns false'. Refute it at one input. -/
def fnAddConstraintsWrong : ChangeSpec := { name := "fnAddConstraints", fn := fun _ => fun
  | [d1, d2] => { results := [.lit (.bool false)], args := [d1, d2] }
  | _ => none }
def FnAddConstraintsWrongFalsely : Prop := fnAddConstraintsRow.holds Try.pinned (OpenSpec.ofChange fnAddConstraintsWrong)

/-- 'laws.FnCoversConstraint': WHATEVER THE INPUT: true; the input reads as it did. -/
def fnCoversConstraintSpec : ChangeSpec := { name := "fnCoversConstraint", fn := fun _ => fun
  | [d1, d2] => { results := [.lit (.bool true)], args := [d1, d2] }
  | _ => none }
def fnCoversConstraintRow : OpenClaim := { program := "ytipblbcedkhmbaa", sum := "9f65bfbba5bc16362abf7d8b4ebf86516bfecc4e9004bd935e8858e001e83e46", func := "loop.example/cuttingplanes/laws.FnCoversConstraint", spec := "fnCoversConstraint", unfollowed := true, recurses := true, apart := false }
def FnCoversConstraintSaid : Prop := fnCoversConstraintRow.holds Try.pinned (OpenSpec.ofChange fnCoversConstraintSpec)

/-- ITS FALSE NEIGHBOUR: 'it returns false'. Refute it at one input. -/
def fnCoversConstraintWrong : ChangeSpec := { name := "fnCoversConstraint", fn := fun _ => fun
  | [d1, d2] => { results := [.lit (.bool false)], args := [d1, d2] }
  | _ => none }
def FnCoversConstraintWrongFalsely : Prop := fnCoversConstraintRow.holds Try.pinned (OpenSpec.ofChange fnCoversConstraintWrong)

/-- 'laws.FnCoversWeaken': WHATEVER THE INPUT: true; the input reads as it did. -/
def fnCoversWeakenSpec : ChangeSpec := { name := "fnCoversWeaken", fn := fun _ => fun
  | [d] => { results := [.lit (.bool true)], args := [d] }
  | _ => none }
def fnCoversWeakenRow : OpenClaim := { program := "ytipblbcedkhmbaa", sum := "9f65bfbba5bc16362abf7d8b4ebf86516bfecc4e9004bd935e8858e001e83e46", func := "loop.example/cuttingplanes/laws.FnCoversWeaken", spec := "fnCoversWeaken", unfollowed := true, recurses := true, apart := false }
def FnCoversWeakenSaid : Prop := fnCoversWeakenRow.holds Try.pinned (OpenSpec.ofChange fnCoversWeakenSpec)

/-- ITS FALSE NEIGHBOUR: 'it returns false'. Refute it at one input. -/
def fnCoversWeakenWrong : ChangeSpec := { name := "fnCoversWeaken", fn := fun _ => fun
  | [d] => { results := [.lit (.bool false)], args := [d] }
  | _ => none }
def FnCoversWeakenWrongFalsely : Prop := fnCoversWeakenRow.holds Try.pinned (OpenSpec.ofChange fnCoversWeakenWrong)

/-- 'laws.FnDivideTwice': WHATEVER THE INPUT: true; the input reads as it did. -/
def fnDivideTwiceSpec : ChangeSpec := { name := "fnDivideTwice", fn := fun _ => fun
  | [d1, d2] => { results := [.lit (.bool true)], args := [d1, d2] }
  | _ => none }
def fnDivideTwiceRow : OpenClaim := { program := "ytipblbcedkhmbaa", sum := "9f65bfbba5bc16362abf7d8b4ebf86516bfecc4e9004bd935e8858e001e83e46", func := "loop.example/cuttingplanes/laws.FnDivideTwice", spec := "fnDivideTwice", unfollowed := true, recurses := true, apart := false }
def FnDivideTwiceSaid : Prop := fnDivideTwiceRow.holds Try.pinned (OpenSpec.ofChange fnDivideTwiceSpec)

/-- ITS FALSE NEIGHBOUR: 'it returns false'. Refute it at one input. -/
def fnDivideTwiceWrong : ChangeSpec := { name := "fnDivideTwice", fn := fun _ => fun
  | [d1, d2] => { results := [.lit (.bool false)], args := [d1, d2] }
  | _ => none }
def FnDivideTwiceWrongFalsely : Prop := fnDivideTwiceRow.holds Try.pinned (OpenSpec.ofChange fnDivideTwiceWrong)

/- THE SECOND FORM. 'bulk': how many values and letters a reading holds, each counted each time it is reached (what is shared counts as often as it is met; a slice's spare places count too). A statement '..UptoSaid' is the law's where the arguments, and the package variables that the reading takes, are together of bulk at most 1048576: NARROWER than '..Said'. Prove '..Said' where nothing that the law and all that it calls make is longer than what came in: it says more and counts as full. Else prove '..UptoSaid'. A law counts once. -/
mutual
def uptoBulk {H : Type} : DataW H → Nat
  | .lit (.string bytes) => bytes.length + 1
  | .lit _ => 1
  | .nil => 1
  | .ptr d => uptoBulk d + 1
  | .slice elems spare => uptoBulkAll elems + uptoBulkAll spare + 1
  | .agg parts => uptoBulkAll parts + 1
  | .iface _ d => uptoBulk d + 1
  | .map entries => uptoBulkEntries entries + 1
  | .held _ => 1
def uptoBulkAll {H : Type} : List (DataW H) → Nat
  | [] => 0
  | d :: r => uptoBulk d + uptoBulkAll r
def uptoBulkEntries {H : Type} : List (Lit × DataW H) → Nat
  | [] => 0
  | x :: r => uptoBulkEntry x + uptoBulkEntries r
def uptoBulkEntry {H : Type} : Lit × DataW H → Nat
  | (.string bytes, d) => bytes.length + uptoBulk d + 1
  | (_, d) => uptoBulk d + 1
 end
def uptoSmall : (H : Type) → List (DataW H) → Bool := fun _ ds => decide (uptoBulkAll ds ≤ 1048576)
def OpenSpec.upto (s : _root_.Go.ChangeSpec) : _root_.Go.OpenSpec := { _root_.Go.OpenSpec.ofChange s with cond := some uptoSmall }

/-- 'laws.FnNormalForm', WHERE WHAT IT READS IS OF BULK AT MOST 1048576: true; the input reads as it did. -/
def fnNormalFormUptoRow : OpenClaim := { program := "ytipblbcedkhmbaa", sum := "9f65bfbba5bc16362abf7d8b4ebf86516bfecc4e9004bd935e8858e001e83e46", func := "loop.example/cuttingplanes/laws.FnNormalForm", spec := "fnNormalForm", unfollowed := true, recurses := true, apart := false, narrowed := true }
def FnNormalFormUptoSaid : Prop := fnNormalFormUptoRow.holds Try.pinned (OpenSpec.upto fnNormalFormSpec)

/-- 'laws.FnNormalTwice', WHERE WHAT IT READS IS OF BULK AT MOST 1048576: true; the input reads as it did. -/
def fnNormalTwiceUptoRow : OpenClaim := { program := "ytipblbcedkhmbaa", sum := "9f65bfbba5bc16362abf7d8b4ebf86516bfecc4e9004bd935e8858e001e83e46", func := "loop.example/cuttingplanes/laws.FnNormalTwice", spec := "fnNormalTwice", unfollowed := true, recurses := true, apart := false, narrowed := true }
def FnNormalTwiceUptoSaid : Prop := fnNormalTwiceUptoRow.holds Try.pinned (OpenSpec.upto fnNormalTwiceSpec)

/-- 'laws.FnExtendsPartial', WHERE WHAT IT READS IS OF BULK AT MOST 1048576: true; the input reads as it did. -/
def fnExtendsPartialUptoRow : OpenClaim := { program := "ytipblbcedkhmbaa", sum := "9f65bfbba5bc16362abf7d8b4ebf86516bfecc4e9004bd935e8858e001e83e46", func := "loop.example/cuttingplanes/laws.FnExtendsPartial", spec := "fnExtendsPartial", unfollowed := true, recurses := true, apart := false, narrowed := true }
def FnExtendsPartialUptoSaid : Prop := fnExtendsPartialUptoRow.holds Try.pinned (OpenSpec.upto fnExtendsPartialSpec)

/-- 'laws.FnProofSame', WHERE WHAT IT READS IS OF BULK AT MOST 1048576: true; the input reads as it did. -/
def fnProofSameUptoRow : OpenClaim := { program := "ytipblbcedkhmbaa", sum := "9f65bfbba5bc16362abf7d8b4ebf86516bfecc4e9004bd935e8858e001e83e46", func := "loop.example/cuttingplanes/laws.FnProofSame", spec := "fnProofSame", unfollowed := true, recurses := true, apart := false, narrowed := true }
def FnProofSameUptoSaid : Prop := fnProofSameUptoRow.holds Try.pinned (OpenSpec.upto fnProofSameSpec)

/-- 'laws.FnLiteralAxiom', WHERE WHAT IT READS IS OF BULK AT MOST 1048576: true; the input reads as it did. -/
def fnLiteralAxiomUptoRow : OpenClaim := { program := "ytipblbcedkhmbaa", sum := "9f65bfbba5bc16362abf7d8b4ebf86516bfecc4e9004bd935e8858e001e83e46", func := "loop.example/cuttingplanes/laws.FnLiteralAxiom", spec := "fnLiteralAxiom", unfollowed := true, recurses := true, apart := false, narrowed := true }
def FnLiteralAxiomUptoSaid : Prop := fnLiteralAxiomUptoRow.holds Try.pinned (OpenSpec.upto fnLiteralAxiomSpec)

/-- 'laws.FnMultiplyConstraint', WHERE WHAT IT READS IS OF BULK AT MOST 1048576: true; the input reads as it did. -/
def fnMultiplyConstraintUptoRow : OpenClaim := { program := "ytipblbcedkhmbaa", sum := "9f65bfbba5bc16362abf7d8b4ebf86516bfecc4e9004bd935e8858e001e83e46", func := "loop.example/cuttingplanes/laws.FnMultiplyConstraint", spec := "fnMultiplyConstraint", unfollowed := true, recurses := true, apart := false, narrowed := true }
def FnMultiplyConstraintUptoSaid : Prop := fnMultiplyConstraintUptoRow.holds Try.pinned (OpenSpec.upto fnMultiplyConstraintSpec)

/-- 'laws.FnDivideConstraint', WHERE WHAT IT READS IS OF BULK AT MOST 1048576: true; the input reads as it did. -/
def fnDivideConstraintUptoRow : OpenClaim := { program := "ytipblbcedkhmbaa", sum := "9f65bfbba5bc16362abf7d8b4ebf86516bfecc4e9004bd935e8858e001e83e46", func := "loop.example/cuttingplanes/laws.FnDivideConstraint", spec := "fnDivideConstraint", unfollowed := true, recurses := true, apart := false, narrowed := true }
def FnDivideConstraintUptoSaid : Prop := fnDivideConstraintUptoRow.holds Try.pinned (OpenSpec.upto fnDivideConstraintSpec)

/-- 'laws.FnSaturateConstraint', WHERE WHAT IT READS IS OF BULK AT MOST 1048576: true; the input reads as it did. -/
def fnSaturateConstraintUptoRow : OpenClaim := { program := "ytipblbcedkhmbaa", sum := "9f65bfbba5bc16362abf7d8b4ebf86516bfecc4e9004bd935e8858e001e83e46", func := "loop.example/cuttingplanes/laws.FnSaturateConstraint", spec := "fnSaturateConstraint", unfollowed := true, recurses := true, apart := false, narrowed := true }
def FnSaturateConstraintUptoSaid : Prop := fnSaturateConstraintUptoRow.holds Try.pinned (OpenSpec.upto fnSaturateConstraintSpec)

/-- 'laws.FnWeakenConstraint', WHERE WHAT IT READS IS OF BULK AT MOST 1048576: true; the input reads as it did. -/
def fnWeakenConstraintUptoRow : OpenClaim := { program := "ytipblbcedkhmbaa", sum := "9f65bfbba5bc16362abf7d8b4ebf86516bfecc4e9004bd935e8858e001e83e46", func := "loop.example/cuttingplanes/laws.FnWeakenConstraint", spec := "fnWeakenConstraint", unfollowed := true, recurses := true, apart := false, narrowed := true }
def FnWeakenConstraintUptoSaid : Prop := fnWeakenConstraintUptoRow.holds Try.pinned (OpenSpec.upto fnWeakenConstraintSpec)

/-- 'laws.FnAddConstraints', WHERE WHAT IT READS IS OF BULK AT MOST 1048576: true; the input reads as it did. -/
def fnAddConstraintsUptoRow : OpenClaim := { program := "ytipblbcedkhmbaa", sum := "9f65bfbba5bc16362abf7d8b4ebf86516bfecc4e9004bd935e8858e001e83e46", func := "loop.example/cuttingplanes/laws.FnAddConstraints", spec := "fnAddConstraints", unfollowed := true, recurses := true, apart := false, narrowed := true }
def FnAddConstraintsUptoSaid : Prop := fnAddConstraintsUptoRow.holds Try.pinned (OpenSpec.upto fnAddConstraintsSpec)

/-- 'laws.FnCoversConstraint', WHERE WHAT IT READS IS OF BULK AT MOST 1048576: true; the input reads as it did. -/
def fnCoversConstraintUptoRow : OpenClaim := { program := "ytipblbcedkhmbaa", sum := "9f65bfbba5bc16362abf7d8b4ebf86516bfecc4e9004bd935e8858e001e83e46", func := "loop.example/cuttingplanes/laws.FnCoversConstraint", spec := "fnCoversConstraint", unfollowed := true, recurses := true, apart := false, narrowed := true }
def FnCoversConstraintUptoSaid : Prop := fnCoversConstraintUptoRow.holds Try.pinned (OpenSpec.upto fnCoversConstraintSpec)

/-- 'laws.FnCoversWeaken', WHERE WHAT IT READS IS OF BULK AT MOST 1048576: true; the input reads as it did. -/
def fnCoversWeakenUptoRow : OpenClaim := { program := "ytipblbcedkhmbaa", sum := "9f65bfbba5bc16362abf7d8b4ebf86516bfecc4e9004bd935e8858e001e83e46", func := "loop.example/cuttingplanes/laws.FnCoversWeaken", spec := "fnCoversWeaken", unfollowed := true, recurses := true, apart := false, narrowed := true }
def FnCoversWeakenUptoSaid : Prop := fnCoversWeakenUptoRow.holds Try.pinned (OpenSpec.upto fnCoversWeakenSpec)

/-- 'laws.FnDivideTwice', WHERE WHAT IT READS IS OF BULK AT MOST 1048576: true; the input reads as it did. -/
def fnDivideTwiceUptoRow : OpenClaim := { program := "ytipblbcedkhmbaa", sum := "9f65bfbba5bc16362abf7d8b4ebf86516bfecc4e9004bd935e8858e001e83e46", func := "loop.example/cuttingplanes/laws.FnDivideTwice", spec := "fnDivideTwice", unfollowed := true, recurses := true, apart := false, narrowed := true }
def FnDivideTwiceUptoSaid : Prop := fnDivideTwiceUptoRow.holds Try.pinned (OpenSpec.upto fnDivideTwiceSpec)

end Rows
end Go.Proofs.Ytipblbcedkhmbaa
