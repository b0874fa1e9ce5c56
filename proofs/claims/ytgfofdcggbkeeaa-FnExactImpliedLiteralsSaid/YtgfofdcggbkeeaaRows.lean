/-
  No cell of these rows narrows 'for every input' (looked for: loops, veiled, ifaces, maps, wideKeys, modest, calm, conditions, laid).
  DERIVED. THE GIVEN ROWS OF THIS SEAT. 9 by the template 'for every input the law returns true; each argument reads behind the call as it read before'; 0 by the template 'total and deterministic' (their statements: YtgfofdcggbkeeaaTotals.lean).
  GIVEN WITH THE SEED: the statements are not yours to turn. If you find one false, say at which input.
  Laid BY PROGRAM, IN A SANDBOX (cutbox-rows.mjs): the forced cells as the released guide's own fill.sh prints them over the translation 12daecd131b34bf6… (all of the seat's roots in one cut). By AI agents, Wed Nov 11 2026. No macro, syntax, notation, axiom, sorry.
-/
import Derived.Test.YtgfofdcggbkeeaaChecked
import GoSem.Claim
import GoSem.ClaimJoined
import GoSem.ClaimMapViews
import Derived.JoinedTies
import Derived.KernelRfl
namespace Go.Proofs.Ytgfofdcggbkeeaa
/- THE CELL 'sum', in the pinned program and in every row, IS THE sha256 OF THE DUMP (.gsa) THAT YtgfofdcggbkeeaaProg.lean LOADS. Nothing in Lean hashes anything: it is a label: what it is worth is what the hold of that sum in a sandbox is worth. -/
noncomputable def Try.pinned : Pinned := { name := "ytgfofdcggbkeeaa", sum := "12daecd131b34bf6aaf99d531966ffadbecb56b0af762f83e048968a7215cd1a", checked := Try.checked }
namespace Rows
def none {H : Type} : Left H := { results := [], args := [] }

/-- 'laws.FnExactPartialValid': WHATEVER THE INPUT: true; the input reads as it did. -/
def fnExactPartialValidSpec : ChangeSpec := { name := "fnExactPartialValid", fn := fun _ => fun
  | [d] => { results := [.lit (.bool true)], args := [d] }
  | _ => none }
def fnExactPartialValidRow : OpenClaim := { program := "ytgfofdcggbkeeaa", sum := "12daecd131b34bf6aaf99d531966ffadbecb56b0af762f83e048968a7215cd1a", func := "loop.example/cuttingplanes/laws.FnExactPartialValid", spec := "fnExactPartialValid", apart := false }
def FnExactPartialValidSaid : Prop := fnExactPartialValidRow.holds Try.pinned (OpenSpec.ofChange fnExactPartialValidSpec)

/-- ITS FALSE NEIGHBOUR: 'it returns false'. Refute it at one input. -/
def fnExactPartialValidWrong : ChangeSpec := { name := "fnExactPartialValid", fn := fun _ => fun
  | [d] => { results := [.lit (.bool false)], args := [d] }
  | _ => none }
def FnExactPartialValidWrongFalsely : Prop := fnExactPartialValidRow.holds Try.pinned (OpenSpec.ofChange fnExactPartialValidWrong)

/-- 'laws.FnExactProblemValid': WHATEVER THE INPUT: true; the input reads as it did. -/
def fnExactProblemValidSpec : ChangeSpec := { name := "fnExactProblemValid", fn := fun _ => fun
  | [d] => { results := [.lit (.bool true)], args := [d] }
  | _ => none }
def fnExactProblemValidRow : OpenClaim := { program := "ytgfofdcggbkeeaa", sum := "12daecd131b34bf6aaf99d531966ffadbecb56b0af762f83e048968a7215cd1a", func := "loop.example/cuttingplanes/laws.FnExactProblemValid", spec := "fnExactProblemValid", unfollowed := true, recurses := true, apart := false }
def FnExactProblemValidSaid : Prop := fnExactProblemValidRow.holds Try.pinned (OpenSpec.ofChange fnExactProblemValidSpec)

/-- ITS FALSE NEIGHBOUR: 'it returns false'. Refute it at one input. -/
def fnExactProblemValidWrong : ChangeSpec := { name := "fnExactProblemValid", fn := fun _ => fun
  | [d] => { results := [.lit (.bool false)], args := [d] }
  | _ => none }
def FnExactProblemValidWrongFalsely : Prop := fnExactProblemValidRow.holds Try.pinned (OpenSpec.ofChange fnExactProblemValidWrong)

/-- 'laws.FnExactSlackOf': WHATEVER THE INPUT: true; the input reads as it did. -/
def fnExactSlackOfSpec : ChangeSpec := { name := "fnExactSlackOf", fn := fun _ => fun
  | [d1, d2] => { results := [.lit (.bool true)], args := [d1, d2] }
  | _ => none }
def fnExactSlackOfRow : OpenClaim := { program := "ytgfofdcggbkeeaa", sum := "12daecd131b34bf6aaf99d531966ffadbecb56b0af762f83e048968a7215cd1a", func := "loop.example/cuttingplanes/laws.FnExactSlackOf", spec := "fnExactSlackOf", unfollowed := true, recurses := true, apart := false }
def FnExactSlackOfSaid : Prop := fnExactSlackOfRow.holds Try.pinned (OpenSpec.ofChange fnExactSlackOfSpec)

/-- ITS FALSE NEIGHBOUR: 'it returns false'. Refute it at one input. -/
def fnExactSlackOfWrong : ChangeSpec := { name := "fnExactSlackOf", fn := fun _ => fun
  | [d1, d2] => { results := [.lit (.bool false)], args := [d1, d2] }
  | _ => none }
def FnExactSlackOfWrongFalsely : Prop := fnExactSlackOfRow.holds Try.pinned (OpenSpec.ofChange fnExactSlackOfWrong)

/-- 'laws.FnExactImpliedLiterals': WHATEVER THE INPUT: true; the input reads as it did. -/
def fnExactImpliedLiteralsSpec : ChangeSpec := { name := "fnExactImpliedLiterals", fn := fun _ => fun
  | [d1, d2] => { results := [.lit (.bool true)], args := [d1, d2] }
  | _ => none }
def fnExactImpliedLiteralsRow : OpenClaim := { program := "ytgfofdcggbkeeaa", sum := "12daecd131b34bf6aaf99d531966ffadbecb56b0af762f83e048968a7215cd1a", func := "loop.example/cuttingplanes/laws.FnExactImpliedLiterals", spec := "fnExactImpliedLiterals", unfollowed := true, recurses := true, apart := false }
def FnExactImpliedLiteralsSaid : Prop := fnExactImpliedLiteralsRow.holds Try.pinned (OpenSpec.ofChange fnExactImpliedLiteralsSpec)

/-- ITS FALSE NEIGHBOUR: 'it returns false'. Refute it at one input. -/
def fnExactImpliedLiteralsWrong : ChangeSpec := { name := "fnExactImpliedLiterals", fn := fun _ => fun
  | [d1, d2] => { results := [.lit (.bool false)], args := [d1, d2] }
  | _ => none }
def FnExactImpliedLiteralsWrongFalsely : Prop := fnExactImpliedLiteralsRow.holds Try.pinned (OpenSpec.ofChange fnExactImpliedLiteralsWrong)

/-- 'laws.FnExactPropagate': WHATEVER THE INPUT: true; the input reads as it did. -/
def fnExactPropagateSpec : ChangeSpec := { name := "fnExactPropagate", fn := fun _ => fun
  | [d1, d2] => { results := [.lit (.bool true)], args := [d1, d2] }
  | _ => none }
def fnExactPropagateRow : OpenClaim := { program := "ytgfofdcggbkeeaa", sum := "12daecd131b34bf6aaf99d531966ffadbecb56b0af762f83e048968a7215cd1a", func := "loop.example/cuttingplanes/laws.FnExactPropagate", spec := "fnExactPropagate", unfollowed := true, recurses := true, apart := false }
def FnExactPropagateSaid : Prop := fnExactPropagateRow.holds Try.pinned (OpenSpec.ofChange fnExactPropagateSpec)

/-- ITS FALSE NEIGHBOUR: 'it returns false'. Refute it at one input. -/
def fnExactPropagateWrong : ChangeSpec := { name := "fnExactPropagate", fn := fun _ => fun
  | [d1, d2] => { results := [.lit (.bool false)], args := [d1, d2] }
  | _ => none }
def FnExactPropagateWrongFalsely : Prop := fnExactPropagateRow.holds Try.pinned (OpenSpec.ofChange fnExactPropagateWrong)

/-- 'laws.FnExactRupConstraint': WHATEVER THE INPUT: true; the input reads as it did. -/
def fnExactRupConstraintSpec : ChangeSpec := { name := "fnExactRupConstraint", fn := fun _ => fun
  | [d1, d2] => { results := [.lit (.bool true)], args := [d1, d2] }
  | _ => none }
def fnExactRupConstraintRow : OpenClaim := { program := "ytgfofdcggbkeeaa", sum := "12daecd131b34bf6aaf99d531966ffadbecb56b0af762f83e048968a7215cd1a", func := "loop.example/cuttingplanes/laws.FnExactRupConstraint", spec := "fnExactRupConstraint", unfollowed := true, recurses := true, apart := false }
def FnExactRupConstraintSaid : Prop := fnExactRupConstraintRow.holds Try.pinned (OpenSpec.ofChange fnExactRupConstraintSpec)

/-- ITS FALSE NEIGHBOUR: 'it returns false'. Refute it at one input. -/
def fnExactRupConstraintWrong : ChangeSpec := { name := "fnExactRupConstraint", fn := fun _ => fun
  | [d1, d2] => { results := [.lit (.bool false)], args := [d1, d2] }
  | _ => none }
def FnExactRupConstraintWrongFalsely : Prop := fnExactRupConstraintRow.holds Try.pinned (OpenSpec.ofChange fnExactRupConstraintWrong)

/-- 'laws.FnExactExtendsPartial': WHATEVER THE INPUT: true; the input reads as it did. -/
def fnExactExtendsPartialSpec : ChangeSpec := { name := "fnExactExtendsPartial", fn := fun _ => fun
  | [d1, d2] => { results := [.lit (.bool true)], args := [d1, d2] }
  | _ => none }
def fnExactExtendsPartialRow : OpenClaim := { program := "ytgfofdcggbkeeaa", sum := "12daecd131b34bf6aaf99d531966ffadbecb56b0af762f83e048968a7215cd1a", func := "loop.example/cuttingplanes/laws.FnExactExtendsPartial", spec := "fnExactExtendsPartial", unfollowed := true, recurses := true, apart := false }
def FnExactExtendsPartialSaid : Prop := fnExactExtendsPartialRow.holds Try.pinned (OpenSpec.ofChange fnExactExtendsPartialSpec)

/-- ITS FALSE NEIGHBOUR: 'it returns false'. Refute it at one input. -/
def fnExactExtendsPartialWrong : ChangeSpec := { name := "fnExactExtendsPartial", fn := fun _ => fun
  | [d1, d2] => { results := [.lit (.bool false)], args := [d1, d2] }
  | _ => none }
def FnExactExtendsPartialWrongFalsely : Prop := fnExactExtendsPartialRow.holds Try.pinned (OpenSpec.ofChange fnExactExtendsPartialWrong)

/-- 'laws.FnExactSatisfiesAll': WHATEVER THE INPUT: true; the input reads as it did. -/
def fnExactSatisfiesAllSpec : ChangeSpec := { name := "fnExactSatisfiesAll", fn := fun _ => fun
  | [d1, d2] => { results := [.lit (.bool true)], args := [d1, d2] }
  | _ => none }
def fnExactSatisfiesAllRow : OpenClaim := { program := "ytgfofdcggbkeeaa", sum := "12daecd131b34bf6aaf99d531966ffadbecb56b0af762f83e048968a7215cd1a", func := "loop.example/cuttingplanes/laws.FnExactSatisfiesAll", spec := "fnExactSatisfiesAll", unfollowed := true, recurses := true, apart := false }
def FnExactSatisfiesAllSaid : Prop := fnExactSatisfiesAllRow.holds Try.pinned (OpenSpec.ofChange fnExactSatisfiesAllSpec)

/-- ITS FALSE NEIGHBOUR: 'it returns false'. Refute it at one input. -/
def fnExactSatisfiesAllWrong : ChangeSpec := { name := "fnExactSatisfiesAll", fn := fun _ => fun
  | [d1, d2] => { results := [.lit (.bool false)], args := [d1, d2] }
  | _ => none }
def FnExactSatisfiesAllWrongFalsely : Prop := fnExactSatisfiesAllRow.holds Try.pinned (OpenSpec.ofChange fnExactSatisfiesAllWrong)

/-- 'laws.FnExactClauseOf': WHATEVER THE INPUT: true; the input reads as it did. -/
def fnExactClauseOfSpec : ChangeSpec := { name := "fnExactClauseOf", fn := fun _ => fun
  | [d] => { results := [.lit (.bool true)], args := [d] }
  | _ => none }
def fnExactClauseOfRow : OpenClaim := { program := "ytgfofdcggbkeeaa", sum := "12daecd131b34bf6aaf99d531966ffadbecb56b0af762f83e048968a7215cd1a", func := "loop.example/cuttingplanes/laws.FnExactClauseOf", spec := "fnExactClauseOf", unfollowed := true, recurses := true, apart := false }
def FnExactClauseOfSaid : Prop := fnExactClauseOfRow.holds Try.pinned (OpenSpec.ofChange fnExactClauseOfSpec)

/-- ITS FALSE NEIGHBOUR: 'it returns false'. Refute it at one input. -/
def fnExactClauseOfWrong : ChangeSpec := { name := "fnExactClauseOf", fn := fun _ => fun
  | [d] => { results := [.lit (.bool false)], args := [d] }
  | _ => none }
def FnExactClauseOfWrongFalsely : Prop := fnExactClauseOfRow.holds Try.pinned (OpenSpec.ofChange fnExactClauseOfWrong)

/- THE SECOND FORM. 'bulk': how many values and letters a reading holds, each counted each time it is reached (what is shared counts as often as it is met; a slice's spare places count too). A statement '..UptoSaid' is the law's where the arguments, and the package variables that the reading takes, are together of bulk at most 1048576: NARROWER than '..Said'. Prove '..Said' where nothing that the law and all that it calls make is longer than what came in: it says more and counts as full. Else prove '..UptoSaid'. A law counts once. -/
mutual
def uptoBulk {H : Type} : DataW H → Nat
  | .lit (.string bytes) => bytes.length + 1
  | .lit _ => 1
  | .nil => 1
  | .ptr d => uptoBulk d + 1
  | .slice elems spare => uptoBulkAll elems + uptoBulkAll spare + 1
  | .agg parts => uptoBulkAll parts + 1
  | .iface _ d => uptoBulk d + 1
  | .map entries => uptoBulkEntries entries + 1
  | .held _ => 1
def uptoBulkAll {H : Type} : List (DataW H) → Nat
  | [] => 0
  | d :: r => uptoBulk d + uptoBulkAll r
def uptoBulkEntries {H : Type} : List (Lit × DataW H) → Nat
  | [] => 0
  | x :: r => uptoBulkEntry x + uptoBulkEntries r
def uptoBulkEntry {H : Type} : Lit × DataW H → Nat
  | (.string bytes, d) => bytes.length + uptoBulk d + 1
  | (_, d) => uptoBulk d + 1
 end
def uptoSmall : (H : Type) → List (DataW H) → Bool := fun _ ds => decide (uptoBulkAll ds ≤ 1048576)
def OpenSpec.upto (s : _root_.Go.ChangeSpec) : _root_.Go.OpenSpec := { _root_.Go.OpenSpec.ofChange s with cond := some uptoSmall }

/-- 'laws.FnExactPartialValid', WHERE WHAT IT READS IS OF BULK AT MOST 1048576: true; the input reads as it did. -/
def fnExactPartialValidUptoRow : OpenClaim := { program := "ytgfofdcggbkeeaa", sum := "12daecd131b34bf6aaf99d531966ffadbecb56b0af762f83e048968a7215cd1a", func := "loop.example/cuttingplanes/laws.FnExactPartialValid", spec := "fnExactPartialValid", apart := false, narrowed := true }
def FnExactPartialValidUptoSaid : Prop := fnExactPartialValidUptoRow.holds Try.pinned (OpenSpec.upto fnExactPartialValidSpec)

/-- 'laws.FnExactProblemValid', WHERE WHAT IT READS IS OF BULK AT MOST 1048576: true; the input reads as it did. -/
def fnExactProblemValidUptoRow : OpenClaim := { program := "ytgfofdcggbkeeaa", sum := "12daecd131b34bf6aaf99d531966ffadbecb56b0af762f83e048968a7215cd1a", func := "loop.example/cuttingplanes/laws.FnExactProblemValid", spec := "fnExactProblemValid", unfollowed := true, recurses := true, apart := false, narrowed := true }
def FnExactProblemValidUptoSaid : Prop := fnExactProblemValidUptoRow.holds Try.pinned (OpenSpec.upto fnExactProblemValidSpec)

/-- 'laws.FnExactSlackOf', WHERE WHAT IT READS IS OF BULK AT MOST 1048576: true; the input reads as it did. -/
def fnExactSlackOfUptoRow : OpenClaim := { program := "ytgfofdcggbkeeaa", sum := "12daecd131b34bf6aaf99d531966ffadbecb56b0af762f83e048968a7215cd1a", func := "loop.example/cuttingplanes/laws.FnExactSlackOf", spec := "fnExactSlackOf", unfollowed := true, recurses := true, apart := false, narrowed := true }
def FnExactSlackOfUptoSaid : Prop := fnExactSlackOfUptoRow.holds Try.pinned (OpenSpec.upto fnExactSlackOfSpec)

/-- 'laws.FnExactImpliedLiterals', WHERE WHAT IT READS IS OF BULK AT MOST 1048576: true; the input reads as it did. -/
def fnExactImpliedLiteralsUptoRow : OpenClaim := { program := "ytgfofdcggbkeeaa", sum := "12daecd131b34bf6aaf99d531966ffadbecb56b0af762f83e048968a7215cd1a", func := "loop.example/cuttingplanes/laws.FnExactImpliedLiterals", spec := "fnExactImpliedLiterals", unfollowed := true, recurses := true, apart := false, narrowed := true }
def FnExactImpliedLiteralsUptoSaid : Prop := fnExactImpliedLiteralsUptoRow.holds Try.pinned (OpenSpec.upto fnExactImpliedLiteralsSpec)

/-- 'laws.FnExactPropagate', WHERE WHAT IT READS IS OF BULK AT MOST 1048576: true; the input reads as it did. -/
def fnExactPropagateUptoRow : OpenClaim := { program := "ytgfofdcggbkeeaa", sum := "12daecd131b34bf6aaf99d531966ffadbecb56b0af762f83e048968a7215cd1a", func := "loop.example/cuttingplanes/laws.FnExactPropagate", spec := "fnExactPropagate", unfollowed := true, recurses := true, apart := false, narrowed := true }
def FnExactPropagateUptoSaid : Prop := fnExactPropagateUptoRow.holds Try.pinned (OpenSpec.upto fnExactPropagateSpec)

/-- 'laws.FnExactRupConstraint', WHERE WHAT IT READS IS OF BULK AT MOST 1048576: true; the input reads as it did. -/
def fnExactRupConstraintUptoRow : OpenClaim := { program := "ytgfofdcggbkeeaa", sum := "12daecd131b34bf6aaf99d531966ffadbecb56b0af762f83e048968a7215cd1a", func := "loop.example/cuttingplanes/laws.FnExactRupConstraint", spec := "fnExactRupConstraint", unfollowed := true, recurses := true, apart := false, narrowed := true }
def FnExactRupConstraintUptoSaid : Prop := fnExactRupConstraintUptoRow.holds Try.pinned (OpenSpec.upto fnExactRupConstraintSpec)

/-- 'laws.FnExactExtendsPartial', WHERE WHAT IT READS IS OF BULK AT MOST 1048576: true; the input reads as it did. -/
def fnExactExtendsPartialUptoRow : OpenClaim := { program := "ytgfofdcggbkeeaa", sum := "12daecd131b34bf6aaf99d531966ffadbecb56b0af762f83e048968a7215cd1a", func := "loop.example/cuttingplanes/laws.FnExactExtendsPartial", spec := "fnExactExtendsPartial", unfollowed := true, recurses := true, apart := false, narrowed := true }
def FnExactExtendsPartialUptoSaid : Prop := fnExactExtendsPartialUptoRow.holds Try.pinned (OpenSpec.upto fnExactExtendsPartialSpec)

/-- 'laws.FnExactSatisfiesAll', WHERE WHAT IT READS IS OF BULK AT MOST 1048576: true; the input reads as it did. -/
def fnExactSatisfiesAllUptoRow : OpenClaim := { program := "ytgfofdcggbkeeaa", sum := "12daecd131b34bf6aaf99d531966ffadbecb56b0af762f83e048968a7215cd1a", func := "loop.example/cuttingplanes/laws.FnExactSatisfiesAll", spec := "fnExactSatisfiesAll", unfollowed := true, recurses := true, apart := false, narrowed := true }
def FnExactSatisfiesAllUptoSaid : Prop := fnExactSatisfiesAllUptoRow.holds Try.pinned (OpenSpec.upto fnExactSatisfiesAllSpec)

/-- 'laws.FnExactClauseOf', WHERE WHAT IT READS IS OF BULK AT MOST 1048576: true; the input reads as it did. -/
def fnExactClauseOfUptoRow : OpenClaim := { program := "ytgfofdcggbkeeaa", sum := "12daecd131b34bf6aaf99d531966ffadbecb56b0af762f83e048968a7215cd1a", func := "loop.example/cuttingplanes/laws.FnExactClauseOf", spec := "fnExactClauseOf", unfollowed := true, recurses := true, apart := false, narrowed := true }
def FnExactClauseOfUptoSaid : Prop := fnExactClauseOfUptoRow.holds Try.pinned (OpenSpec.upto fnExactClauseOfSpec)

end Rows
end Go.Proofs.Ytgfofdcggbkeeaa
