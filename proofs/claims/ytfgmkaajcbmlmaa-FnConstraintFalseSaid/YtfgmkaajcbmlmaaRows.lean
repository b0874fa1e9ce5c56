/-
  No cell of these rows narrows 'for every input' (looked for: loops, veiled, ifaces, maps, wideKeys, modest, calm, conditions, laid).
  DERIVED. THE GIVEN ROWS OF THIS SEAT. 7 by the template 'for every input the law returns true; each argument reads behind the call as it read before'; 0 by the template 'total and deterministic' (their statements: YtfgmkaajcbmlmaaTotals.lean).
  GIVEN WITH THE SEED: the statements are not yours to turn. If you find one false, say at which input.
  Laid BY PROGRAM, IN A SANDBOX (cutbox-rows.mjs): the forced cells as the released guide's own fill.sh prints them over the translation 9ba6403d93ca25b0… (all of the seat's roots in one cut). By AI agents, Wed Nov 11 2026. No macro, syntax, notation, axiom, sorry.
-/
import Derived.Test.YtfgmkaajcbmlmaaChecked
import GoSem.Claim
import GoSem.ClaimJoined
import GoSem.ClaimMapViews
import Derived.JoinedTies
import Derived.KernelRfl
namespace Go.Proofs.Ytfgmkaajcbmlmaa
/- THE CELL 'sum', in the pinned program and in every row, IS THE sha256 OF THE DUMP (.gsa) THAT YtfgmkaajcbmlmaaProg.lean LOADS. Nothing in Lean hashes anything: it is a label: what it is worth is what the hold of that sum in a sandbox is worth. -/
noncomputable def Try.pinned : Pinned := { name := "ytfgmkaajcbmlmaa", sum := "9ba6403d93ca25b046dc887e3c641d71d638c8f6be59554c1caaf92ce80b8b72", checked := Try.checked }
namespace Rows
def none {H : Type} : Left H := { results := [], args := [] }

/-- 'laws.FnSlackOf': WHATEVER THE INPUT: true; the input reads as it did. -/
def fnSlackOfSpec : ChangeSpec := { name := "fnSlackOf", fn := fun _ => fun
  | [d1, d2] => { results := [.lit (.bool true)], args := [d1, d2] }
  | _ => none }
def fnSlackOfRow : OpenClaim := { program := "ytfgmkaajcbmlmaa", sum := "9ba6403d93ca25b046dc887e3c641d71d638c8f6be59554c1caaf92ce80b8b72", func := "loop.example/cuttingplanes/laws.FnSlackOf", spec := "fnSlackOf", unfollowed := true, recurses := true, apart := false }
def FnSlackOfSaid : Prop := fnSlackOfRow.holds Try.pinned (OpenSpec.ofChange fnSlackOfSpec)

/-- ITS FALSE NEIGHBOUR: 'it returns false'. Refute it at one input. -/
def fnSlackOfWrong : ChangeSpec := { name := "fnSlackOf", fn := fun _ => fun
  | [d1, d2] => { results := [.lit (.bool false)], args := [d1, d2] }
  | _ => none }
def FnSlackOfWrongFalsely : Prop := fnSlackOfRow.holds Try.pinned (OpenSpec.ofChange fnSlackOfWrong)

/-- 'laws.FnImpliedLiterals': WHATEVER THE INPUT: true; the input reads as it did. -/
def fnImpliedLiteralsSpec : ChangeSpec := { name := "fnImpliedLiterals", fn := fun _ => fun
  | [d] => { results := [.lit (.bool true)], args := [d] }
  | _ => none }
def fnImpliedLiteralsRow : OpenClaim := { program := "ytfgmkaajcbmlmaa", sum := "9ba6403d93ca25b046dc887e3c641d71d638c8f6be59554c1caaf92ce80b8b72", func := "loop.example/cuttingplanes/laws.FnImpliedLiterals", spec := "fnImpliedLiterals", unfollowed := true, recurses := true, apart := false }
def FnImpliedLiteralsSaid : Prop := fnImpliedLiteralsRow.holds Try.pinned (OpenSpec.ofChange fnImpliedLiteralsSpec)

/-- ITS FALSE NEIGHBOUR: 'it returns false'. Refute it at one input. -/
def fnImpliedLiteralsWrong : ChangeSpec := { name := "fnImpliedLiterals", fn := fun _ => fun
  | [d] => { results := [.lit (.bool false)], args := [d] }
  | _ => none }
def FnImpliedLiteralsWrongFalsely : Prop := fnImpliedLiteralsRow.holds Try.pinned (OpenSpec.ofChange fnImpliedLiteralsWrong)

/-- 'laws.FnSatisfiesAll': WHATEVER THE INPUT: true; the input reads as it did. -/
def fnSatisfiesAllSpec : ChangeSpec := { name := "fnSatisfiesAll", fn := fun _ => fun
  | [d1, d2] => { results := [.lit (.bool true)], args := [d1, d2] }
  | _ => none }
def fnSatisfiesAllRow : OpenClaim := { program := "ytfgmkaajcbmlmaa", sum := "9ba6403d93ca25b046dc887e3c641d71d638c8f6be59554c1caaf92ce80b8b72", func := "loop.example/cuttingplanes/laws.FnSatisfiesAll", spec := "fnSatisfiesAll", unfollowed := true, recurses := true, apart := false }
def FnSatisfiesAllSaid : Prop := fnSatisfiesAllRow.holds Try.pinned (OpenSpec.ofChange fnSatisfiesAllSpec)

/-- ITS FALSE NEIGHBOUR: 'it returns false'. Refute it at one input. -/
def fnSatisfiesAllWrong : ChangeSpec := { name := "fnSatisfiesAll", fn := fun _ => fun
  | [d1, d2] => { results := [.lit (.bool false)], args := [d1, d2] }
  | _ => none }
def FnSatisfiesAllWrongFalsely : Prop := fnSatisfiesAllRow.holds Try.pinned (OpenSpec.ofChange fnSatisfiesAllWrong)

/-- 'laws.FnNegateConstraint': WHATEVER THE INPUT: true; the input reads as it did. -/
def fnNegateConstraintSpec : ChangeSpec := { name := "fnNegateConstraint", fn := fun _ => fun
  | [d] => { results := [.lit (.bool true)], args := [d] }
  | _ => none }
def fnNegateConstraintRow : OpenClaim := { program := "ytfgmkaajcbmlmaa", sum := "9ba6403d93ca25b046dc887e3c641d71d638c8f6be59554c1caaf92ce80b8b72", func := "loop.example/cuttingplanes/laws.FnNegateConstraint", spec := "fnNegateConstraint", unfollowed := true, recurses := true, apart := false }
def FnNegateConstraintSaid : Prop := fnNegateConstraintRow.holds Try.pinned (OpenSpec.ofChange fnNegateConstraintSpec)

/-- ITS FALSE NEIGHBOUR: 'it returns false'. Refute it at one input. -/
def fnNegateConstraintWrong : ChangeSpec := { name := "fnNegateConstraint", fn := fun _ => fun
  | [d] => { results := [.lit (.bool false)], args := [d] }
  | _ => none }
def FnNegateConstraintWrongFalsely : Prop := fnNegateConstraintRow.holds Try.pinned (OpenSpec.ofChange fnNegateConstraintWrong)

/-- 'laws.FnEvalConstraint': WHATEVER THE INPUT: true; the input reads as it did. -/
def fnEvalConstraintSpec : ChangeSpec := { name := "fnEvalConstraint", fn := fun _ => fun
  | [d1, d2] => { results := [.lit (.bool true)], args := [d1, d2] }
  | _ => none }
def fnEvalConstraintRow : OpenClaim := { program := "ytfgmkaajcbmlmaa", sum := "9ba6403d93ca25b046dc887e3c641d71d638c8f6be59554c1caaf92ce80b8b72", func := "loop.example/cuttingplanes/laws.FnEvalConstraint", spec := "fnEvalConstraint", unfollowed := true, recurses := true, apart := false }
def FnEvalConstraintSaid : Prop := fnEvalConstraintRow.holds Try.pinned (OpenSpec.ofChange fnEvalConstraintSpec)

/-- ITS FALSE NEIGHBOUR: 'it returns false'. Refute it at one input. -/
def fnEvalConstraintWrong : ChangeSpec := { name := "fnEvalConstraint", fn := fun _ => fun
  | [d1, d2] => { results := [.lit (.bool false)], args := [d1, d2] }
  | _ => none }
def FnEvalConstraintWrongFalsely : Prop := fnEvalConstraintRow.holds Try.pinned (OpenSpec.ofChange fnEvalConstraintWrong)

/-- 'laws.FnConstraintFalse': WHATEVER THE INPUT: true; the input reads as it did. -/
def fnConstraintFalseSpec : ChangeSpec := { name := "fnConstraintFalse", fn := fun _ => fun
  | [d] => { results := [.lit (.bool true)], args := [d] }
  | _ => none }
def fnConstraintFalseRow : OpenClaim := { program := "ytfgmkaajcbmlmaa", sum := "9ba6403d93ca25b046dc887e3c641d71d638c8f6be59554c1caaf92ce80b8b72", func := "loop.example/cuttingplanes/laws.FnConstraintFalse", spec := "fnConstraintFalse", unfollowed := true, recurses := true, apart := false }
def FnConstraintFalseSaid : Prop := fnConstraintFalseRow.holds Try.pinned (OpenSpec.ofChange fnConstraintFalseSpec)

/-- ITS FALSE NEIGHBOUR: 'it returns false'. Refute it at one input. -/
def fnConstraintFalseWrong : ChangeSpec := { name := "fnConstraintFalse", fn := fun _ => fun
  | [d] => { results := [.lit (.bool false)], args := [d] }
  | _ => none }
def FnConstraintFalseWrongFalsely : Prop := fnConstraintFalseRow.holds Try.pinned (OpenSpec.ofChange fnConstraintFalseWrong)

/-- 'laws.FnNegateTwice': WHATEVER THE INPUT: true; the input reads as it did. -/
def fnNegateTwiceSpec : ChangeSpec := { name := "fnNegateTwice", fn := fun _ => fun
  | [d] => { results := [.lit (.bool true)], args := [d] }
  | _ => none }
def fnNegateTwiceRow : OpenClaim := { program := "ytfgmkaajcbmlmaa", sum := "9ba6403d93ca25b046dc887e3c641d71d638c8f6be59554c1caaf92ce80b8b72", func := "loop.example/cuttingplanes/laws.FnNegateTwice", spec := "fnNegateTwice", unfollowed := true, recurses := true, apart := false }
def FnNegateTwiceSaid : Prop := fnNegateTwiceRow.holds Try.pinned (OpenSpec.ofChange fnNegateTwiceSpec)

/-- ITS FALSE NEIGHBOUR: 'it returns false'. Refute it at one input. -/
def fnNegateTwiceWrong : ChangeSpec := { name := "fnNegateTwice", fn := fun _ => fun
  | [d] => { results := [.lit (.bool false)], args := [d] }
  | _ => none }
def FnNegateTwiceWrongFalsely : Prop := fnNegateTwiceRow.holds Try.pinned (OpenSpec.ofChange fnNegateTwiceWrong)

/- THE SECOND FORM. 'bulk': how many values and letters a reading holds, each counted each time it is reached (what is shared counts as often as it is met; a slice's spare places count too). A statement '..UptoSaid' is the law's where the arguments, and the package variables that the reading takes, are together of bulk at most 1048576: NARROWER than '..Said'. Prove '..Said' where nothing that the law and all that it calls make is longer than what came in: it says more and counts as full. Else prove '..UptoSaid'. A law counts once. -/
mutual
def uptoBulk {H : Type} : DataW H → Nat
  | .lit (.string bytes) => bytes.length + 1
  | .lit _ => 1
  | .nil => 1
  | .ptr d => uptoBulk d + 1
  | .slice elems spare => uptoBulkAll elems + uptoBulkAll spare + 1
  | .agg parts => uptoBulkAll parts + 1
  | .iface _ d => uptoBulk d + 1
  | .map entries => uptoBulkEntries entries + 1
  | .held _ => 1
def uptoBulkAll {H : Type} : List (DataW H) → Nat
  | [] => 0
  | d :: r => uptoBulk d + uptoBulkAll r
def uptoBulkEntries {H : Type} : List (Lit × DataW H) → Nat
  | [] => 0
  | x :: r => uptoBulkEntry x + uptoBulkEntries r
def uptoBulkEntry {H : Type} : Lit × DataW H → Nat
  | (.string bytes, d) => bytes.length + uptoBulk d + 1
  | (_, d) => uptoBulk d + 1
 end
def uptoSmall : (H : Type) → List (DataW H) → Bool := fun _ ds => decide (uptoBulkAll ds ≤ 1048576)
def OpenSpec.upto (s : _root_.Go.ChangeSpec) : _root_.Go.OpenSpec := { _root_.Go.OpenSpec.ofChange s with cond := some uptoSmall }

/-- 'laws.FnSlackOf', WHERE WHAT IT READS IS OF BULK AT MOST 1048576: true; the input reads as it did. -/
def fnSlackOfUptoRow : OpenClaim := { program := "ytfgmkaajcbmlmaa", sum := "9ba6403d93ca25b046dc887e3c641d71d638c8f6be59554c1caaf92ce80b8b72", func := "loop.example/cuttingplanes/laws.FnSlackOf", spec := "fnSlackOf", unfollowed := true, recurses := true, apart := false, narrowed := true }
def FnSlackOfUptoSaid : Prop := fnSlackOfUptoRow.holds Try.pinned (OpenSpec.upto fnSlackOfSpec)

/-- 'laws.FnImpliedLiterals', WHERE WHAT IT READS IS OF BULK AT MOST 1048576: true; the input reads as it did. -/
def fnImpliedLiteralsUptoRow : OpenClaim := { program := "ytfgmkaajcbmlmaa", sum := "9ba6403d93ca25b046dc887e3c641d71d638c8f6be59554c1caaf92ce80b8b72", func := "loop.example/cuttingplanes/laws.FnImpliedLiterals", spec := "fnImpliedLiterals", unfollowed := true, recurses := true, apart := false, narrowed := true }
def FnImpliedLiteralsUptoSaid : Prop := fnImpliedLiteralsUptoRow.holds Try.pinned (OpenSpec.upto fnImpliedLiteralsSpec)

/-- 'laws.FnSatisfiesAll', WHERE WHAT IT READS IS OF BULK AT MOST 1048576: true; the input reads as it did. -/
def fnSatisfiesAllUptoRow : OpenClaim := { program := "ytfgmkaajcbmlmaa", sum := "9ba6403d93ca25b046dc887e3c641d71d638c8f6be59554c1caaf92ce80b8b72", func := "loop.example/cuttingplanes/laws.FnSatisfiesAll", spec := "fnSatisfiesAll", unfollowed := true, recurses := true, apart := false, narrowed := true }
def FnSatisfiesAllUptoSaid : Prop := fnSatisfiesAllUptoRow.holds Try.pinned (OpenSpec.upto fnSatisfiesAllSpec)

/-- 'laws.FnNegateConstraint', WHERE WHAT IT READS IS OF BULK AT MOST 1048576: true; the input reads as it did. -/
def fnNegateConstraintUptoRow : OpenClaim := { program := "ytfgmkaajcbmlmaa", sum := "9ba6403d93ca25b046dc887e3c641d71d638c8f6be59554c1caaf92ce80b8b72", func := "loop.example/cuttingplanes/laws.FnNegateConstraint", spec := "fnNegateConstraint", unfollowed := true, recurses := true, apart := false, narrowed := true }
def FnNegateConstraintUptoSaid : Prop := fnNegateConstraintUptoRow.holds Try.pinned (OpenSpec.upto fnNegateConstraintSpec)

/-- 'laws.FnEvalConstraint', WHERE WHAT IT READS IS OF BULK AT MOST 1048576: true; the input reads as it did. -/
def fnEvalConstraintUptoRow : OpenClaim := { program := "ytfgmkaajcbmlmaa", sum := "9ba6403d93ca25b046dc887e3c641d71d638c8f6be59554c1caaf92ce80b8b72", func := "loop.example/cuttingplanes/laws.FnEvalConstraint", spec := "fnEvalConstraint", unfollowed := true, recurses := true, apart := false, narrowed := true }
def FnEvalConstraintUptoSaid : Prop := fnEvalConstraintUptoRow.holds Try.pinned (OpenSpec.upto fnEvalConstraintSpec)

/-- 'laws.FnConstraintFalse', WHERE WHAT IT READS IS OF BULK AT MOST 1048576: true; the input reads as it did. -/
def fnConstraintFalseUptoRow : OpenClaim := { program := "ytfgmkaajcbmlmaa", sum := "9ba6403d93ca25b046dc887e3c641d71d638c8f6be59554c1caaf92ce80b8b72", func := "loop.example/cuttingplanes/laws.FnConstraintFalse", spec := "fnConstraintFalse", unfollowed := true, recurses := true, apart := false, narrowed := true }
def FnConstraintFalseUptoSaid : Prop := fnConstraintFalseUptoRow.holds Try.pinned (OpenSpec.upto fnConstraintFalseSpec)

/-- 'laws.FnNegateTwice', WHERE WHAT IT READS IS OF BULK AT MOST 1048576: true; the input reads as it did. -/
def fnNegateTwiceUptoRow : OpenClaim := { program := "ytfgmkaajcbmlmaa", sum := "9ba6403d93ca25b046dc887e3c641d71d638c8f6be59554c1caaf92ce80b8b72", func := "loop.example/cuttingplanes/laws.FnNegateTwice", spec := "fnNegateTwice", unfollowed := true, recurses := true, apart := false, narrowed := true }
def FnNegateTwiceUptoSaid : Prop := fnNegateTwiceUptoRow.holds Try.pinned (OpenSpec.upto fnNegateTwiceSpec)

end Rows
end Go.Proofs.Ytfgmkaajcbmlmaa
