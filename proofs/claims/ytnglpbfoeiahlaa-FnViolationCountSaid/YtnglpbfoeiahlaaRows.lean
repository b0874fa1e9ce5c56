/-
  No cell of these rows narrows 'for every input' (looked for: loops, veiled, ifaces, maps, wideKeys, modest, calm, conditions, laid).
  DERIVED. THE GIVEN ROWS OF THIS SEAT. 6 by the template 'for every input the law returns true; each argument reads behind the call as it read before'; 0 by the template 'total and deterministic' (their statements: YtnglpbfoeiahlaaTotals.lean).
  GIVEN WITH THE SEED: the statements are not yours to turn. If you find one false, say at which input.
  Laid BY PROGRAM, IN A SANDBOX (cutbox-rows.mjs): the forced cells as the released guide's own fill.sh prints them over the translation 3a30fa1198ea5500… (all of the seat's roots in one cut). By AI agents, Wed Nov 11 2026. No macro, syntax, notation, axiom, sorry.
-/
import Derived.Test.YtnglpbfoeiahlaaChecked
import GoSem.Claim
import GoSem.ClaimJoined
import GoSem.ClaimMapViews
import Derived.JoinedTies
import Derived.KernelRfl
namespace Go.Proofs.Ytnglpbfoeiahlaa
/- THE CELL 'sum', in the pinned program and in every row, IS THE sha256 OF THE DUMP (.gsa) THAT YtnglpbfoeiahlaaProg.lean LOADS. Nothing in Lean hashes anything: it is a label: what it is worth is what the hold of that sum in a sandbox is worth. -/
noncomputable def Try.pinned : Pinned := { name := "ytnglpbfoeiahlaa", sum := "3a30fa1198ea55005c7c85a6c22e85c3272f3d476c75bf93208828c451b487a3", checked := Try.checked }
namespace Rows
def none {H : Type} : Left H := { results := [], args := [] }

/-- 'laws.FnExactViolationCount': WHATEVER THE INPUT: true; the input reads as it did. -/
def fnExactViolationCountSpec : ChangeSpec := { name := "fnExactViolationCount", fn := fun _ => fun
  | [d1, d2] => { results := [.lit (.bool true)], args := [d1, d2] }
  | _ => none }
def fnExactViolationCountRow : OpenClaim := { program := "ytnglpbfoeiahlaa", sum := "3a30fa1198ea55005c7c85a6c22e85c3272f3d476c75bf93208828c451b487a3", func := "loop.example/cuttingplanes/laws.FnExactViolationCount", spec := "fnExactViolationCount", unfollowed := true, recurses := true, apart := false }
def FnExactViolationCountSaid : Prop := fnExactViolationCountRow.holds Try.pinned (OpenSpec.ofChange fnExactViolationCountSpec)

/-- ITS FALSE NEIGHBOUR: 'it returns false'. Refute it at one input. -/
def fnExactViolationCountWrong : ChangeSpec := { name := "fnExactViolationCount", fn := fun _ => fun
  | [d1, d2] => { results := [.lit (.bool false)], args := [d1, d2] }
  | _ => none }
def FnExactViolationCountWrongFalsely : Prop := fnExactViolationCountRow.holds Try.pinned (OpenSpec.ofChange fnExactViolationCountWrong)

/-- 'laws.FnExactFlipBest': WHATEVER THE INPUT: true; the input reads as it did. -/
def fnExactFlipBestSpec : ChangeSpec := { name := "fnExactFlipBest", fn := fun _ => fun
  | [d1, d2] => { results := [.lit (.bool true)], args := [d1, d2] }
  | _ => none }
def fnExactFlipBestRow : OpenClaim := { program := "ytnglpbfoeiahlaa", sum := "3a30fa1198ea55005c7c85a6c22e85c3272f3d476c75bf93208828c451b487a3", func := "loop.example/cuttingplanes/laws.FnExactFlipBest", spec := "fnExactFlipBest", unfollowed := true, recurses := true, apart := false }
def FnExactFlipBestSaid : Prop := fnExactFlipBestRow.holds Try.pinned (OpenSpec.ofChange fnExactFlipBestSpec)

/-- ITS FALSE NEIGHBOUR: 'it returns false'. Refute it at one input. -/
def fnExactFlipBestWrong : ChangeSpec := { name := "fnExactFlipBest", fn := fun _ => fun
  | [d1, d2] => { results := [.lit (.bool false)], args := [d1, d2] }
  | _ => none }
def FnExactFlipBestWrongFalsely : Prop := fnExactFlipBestRow.holds Try.pinned (OpenSpec.ofChange fnExactFlipBestWrong)

/-- 'laws.FnViolationCount': WHATEVER THE INPUT: true; the input reads as it did. -/
def fnViolationCountSpec : ChangeSpec := { name := "fnViolationCount", fn := fun _ => fun
  | [d1, d2] => { results := [.lit (.bool true)], args := [d1, d2] }
  | _ => none }
def fnViolationCountRow : OpenClaim := { program := "ytnglpbfoeiahlaa", sum := "3a30fa1198ea55005c7c85a6c22e85c3272f3d476c75bf93208828c451b487a3", func := "loop.example/cuttingplanes/laws.FnViolationCount", spec := "fnViolationCount", unfollowed := true, recurses := true, apart := false }
def FnViolationCountSaid : Prop := fnViolationCountRow.holds Try.pinned (OpenSpec.ofChange fnViolationCountSpec)

/-- ITS FALSE NEIGHBOUR: 'it returns false'. Refute it at one input. -/
def fnViolationCountWrong : ChangeSpec := { name := "fnViolationCount", fn := fun _ => fun
  | [d1, d2] => { results := [.lit (.bool false)], args := [d1, d2] }
  | _ => none }
def FnViolationCountWrongFalsely : Prop := fnViolationCountRow.holds Try.pinned (OpenSpec.ofChange fnViolationCountWrong)

/-- 'laws.FnFlipBest': WHATEVER THE INPUT: true; the input reads as it did. -/
def fnFlipBestSpec : ChangeSpec := { name := "fnFlipBest", fn := fun _ => fun
  | [d] => { results := [.lit (.bool true)], args := [d] }
  | _ => none }
def fnFlipBestRow : OpenClaim := { program := "ytnglpbfoeiahlaa", sum := "3a30fa1198ea55005c7c85a6c22e85c3272f3d476c75bf93208828c451b487a3", func := "loop.example/cuttingplanes/laws.FnFlipBest", spec := "fnFlipBest", unfollowed := true, recurses := true, apart := false }
def FnFlipBestSaid : Prop := fnFlipBestRow.holds Try.pinned (OpenSpec.ofChange fnFlipBestSpec)

/-- ITS FALSE NEIGHBOUR: 'it returns false'. Refute it at one input. -/
def fnFlipBestWrong : ChangeSpec := { name := "fnFlipBest", fn := fun _ => fun
  | [d] => { results := [.lit (.bool false)], args := [d] }
  | _ => none }
def FnFlipBestWrongFalsely : Prop := fnFlipBestRow.holds Try.pinned (OpenSpec.ofChange fnFlipBestWrong)

/-- 'laws.FnExactSubProblem': WHATEVER THE INPUT: true; the input reads as it did. -/
def fnExactSubProblemSpec : ChangeSpec := { name := "fnExactSubProblem", fn := fun _ => fun
  | [d1, d2] => { results := [.lit (.bool true)], args := [d1, d2] }
  | _ => none }
def fnExactSubProblemRow : OpenClaim := { program := "ytnglpbfoeiahlaa", sum := "3a30fa1198ea55005c7c85a6c22e85c3272f3d476c75bf93208828c451b487a3", func := "loop.example/cuttingplanes/laws.FnExactSubProblem", spec := "fnExactSubProblem", unfollowed := true, recurses := true, apart := false }
def FnExactSubProblemSaid : Prop := fnExactSubProblemRow.holds Try.pinned (OpenSpec.ofChange fnExactSubProblemSpec)

/-- ITS FALSE NEIGHBOUR: 'it returns false'. Refute it at one input. -/
def fnExactSubProblemWrong : ChangeSpec := { name := "fnExactSubProblem", fn := fun _ => fun
  | [d1, d2] => { results := [.lit (.bool false)], args := [d1, d2] }
  | _ => none }
def FnExactSubProblemWrongFalsely : Prop := fnExactSubProblemRow.holds Try.pinned (OpenSpec.ofChange fnExactSubProblemWrong)

/-- 'laws.FnExactPermuteModel': WHATEVER THE INPUT: true; the input reads as it did. -/
def fnExactPermuteModelSpec : ChangeSpec := { name := "fnExactPermuteModel", fn := fun _ => fun
  | [d1, d2] => { results := [.lit (.bool true)], args := [d1, d2] }
  | _ => none }
def fnExactPermuteModelRow : OpenClaim := { program := "ytnglpbfoeiahlaa", sum := "3a30fa1198ea55005c7c85a6c22e85c3272f3d476c75bf93208828c451b487a3", func := "loop.example/cuttingplanes/laws.FnExactPermuteModel", spec := "fnExactPermuteModel", unfollowed := true, recurses := true, apart := false }
def FnExactPermuteModelSaid : Prop := fnExactPermuteModelRow.holds Try.pinned (OpenSpec.ofChange fnExactPermuteModelSpec)

/-- ITS FALSE NEIGHBOUR: 'it returns false'. Refute it at one input. -/
def fnExactPermuteModelWrong : ChangeSpec := { name := "fnExactPermuteModel", fn := fun _ => fun
  | [d1, d2] => { results := [.lit (.bool false)], args := [d1, d2] }
  | _ => none }
def FnExactPermuteModelWrongFalsely : Prop := fnExactPermuteModelRow.holds Try.pinned (OpenSpec.ofChange fnExactPermuteModelWrong)

/- THE SECOND FORM. 'bulk': how many values and letters a reading holds, each counted each time it is reached (what is shared counts as often as it is met; a slice's spare places count too). A statement '..UptoSaid' is the law's where the arguments, and the package variables that the reading takes, are together of bulk at most 1048576: NARROWER than '..Said'. Prove '..Said' where nothing that the law and all that it calls make is longer than what came in: it says more and counts as full. Else prove '..UptoSaid'. A law counts once. -/
mutual
def uptoBulk {H : Type} : DataW H → Nat
  | .lit (.string bytes) => bytes.length + 1
  | .lit _ => 1
  | .nil => 1
  | .ptr d => uptoBulk d + 1
  | .slice elems spare => uptoBulkAll elems + uptoBulkAll spare + 1
  | .agg parts => uptoBulkAll parts + 1
  | .iface _ d => uptoBulk d + 1
  | .map entries => uptoBulkEntries entries + 1
  | .held _ => 1
def uptoBulkAll {H : Type} : List (DataW H) → Nat
  | [] => 0
  | d :: r => uptoBulk d + uptoBulkAll r
def uptoBulkEntries {H : Type} : List (Lit × DataW H) → Nat
  | [] => 0
  | x :: r => uptoBulkEntry x + uptoBulkEntries r
def uptoBulkEntry {H : Type} : Lit × DataW H → Nat
  | (.string bytes, d) => bytes.length + uptoBulk d + 1
  | (_, d) => uptoBulk d + 1
 end
def uptoSmall : (H : Type) → List (DataW H) → Bool := fun _ ds => decide (uptoBulkAll ds ≤ 1048576)
def OpenSpec.upto (s : _root_.Go.ChangeSpec) : _root_.Go.OpenSpec := { _root_.Go.OpenSpec.ofChange s with cond := some uptoSmall }

/-- 'laws.FnExactViolationCount', WHERE WHAT IT READS IS OF BULK AT MOST 1048576: true; the input reads as it did. -/
def fnExactViolationCountUptoRow : OpenClaim := { program := "ytnglpbfoeiahlaa", sum := "3a30fa1198ea55005c7c85a6c22e85c3272f3d476c75bf93208828c451b487a3", func := "loop.example/cuttingplanes/laws.FnExactViolationCount", spec := "fnExactViolationCount", unfollowed := true, recurses := true, apart := false, narrowed := true }
def FnExactViolationCountUptoSaid : Prop := fnExactViolationCountUptoRow.holds Try.pinned (OpenSpec.upto fnExactViolationCountSpec)

/-- 'laws.FnExactFlipBest', WHERE WHAT IT READS IS OF BULK AT MOST 1048576: true; the input reads as it did. -/
def fnExactFlipBestUptoRow : OpenClaim := { program := "ytnglpbfoeiahlaa", sum := "3a30fa1198ea55005c7c85a6c22e85c3272f3d476c75bf93208828c451b487a3", func := "loop.example/cuttingplanes/laws.FnExactFlipBest", spec := "fnExactFlipBest", unfollowed := true, recurses := true, apart := false, narrowed := true }
def FnExactFlipBestUptoSaid : Prop := fnExactFlipBestUptoRow.holds Try.pinned (OpenSpec.upto fnExactFlipBestSpec)

/-- 'laws.FnViolationCount', WHERE WHAT IT READS IS OF BULK AT MOST 1048576: true; the input reads as it did. -/
def fnViolationCountUptoRow : OpenClaim := { program := "ytnglpbfoeiahlaa", sum := "3a30fa1198ea55005c7c85a6c22e85c3272f3d476c75bf93208828c451b487a3", func := "loop.example/cuttingplanes/laws.FnViolationCount", spec := "fnViolationCount", unfollowed := true, recurses := true, apart := false, narrowed := true }
def FnViolationCountUptoSaid : Prop := fnViolationCountUptoRow.holds Try.pinned (OpenSpec.upto fnViolationCountSpec)

/-- 'laws.FnFlipBest', WHERE WHAT IT READS IS OF BULK AT MOST 1048576: true; the input reads as it did. -/
def fnFlipBestUptoRow : OpenClaim := { program := "ytnglpbfoeiahlaa", sum := "3a30fa1198ea55005c7c85a6c22e85c3272f3d476c75bf93208828c451b487a3", func := "loop.example/cuttingplanes/laws.FnFlipBest", spec := "fnFlipBest", unfollowed := true, recurses := true, apart := false, narrowed := true }
def FnFlipBestUptoSaid : Prop := fnFlipBestUptoRow.holds Try.pinned (OpenSpec.upto fnFlipBestSpec)

/-- 'laws.FnExactSubProblem', WHERE WHAT IT READS IS OF BULK AT MOST 1048576: true; the input reads as it did. -/
def fnExactSubProblemUptoRow : OpenClaim := { program := "ytnglpbfoeiahlaa", sum := "3a30fa1198ea55005c7c85a6c22e85c3272f3d476c75bf93208828c451b487a3", func := "loop.example/cuttingplanes/laws.FnExactSubProblem", spec := "fnExactSubProblem", unfollowed := true, recurses := true, apart := false, narrowed := true }
def FnExactSubProblemUptoSaid : Prop := fnExactSubProblemUptoRow.holds Try.pinned (OpenSpec.upto fnExactSubProblemSpec)

/-- 'laws.FnExactPermuteModel', WHERE WHAT IT READS IS OF BULK AT MOST 1048576: true; the input reads as it did. -/
def fnExactPermuteModelUptoRow : OpenClaim := { program := "ytnglpbfoeiahlaa", sum := "3a30fa1198ea55005c7c85a6c22e85c3272f3d476c75bf93208828c451b487a3", func := "loop.example/cuttingplanes/laws.FnExactPermuteModel", spec := "fnExactPermuteModel", unfollowed := true, recurses := true, apart := false, narrowed := true }
def FnExactPermuteModelUptoSaid : Prop := fnExactPermuteModelUptoRow.holds Try.pinned (OpenSpec.upto fnExactPermuteModelSpec)

end Rows
end Go.Proofs.Ytnglpbfoeiahlaa
