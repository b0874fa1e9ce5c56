/-
  No cell of these rows narrows 'for every input' (looked for: loops, veiled, ifaces, maps, wideKeys, modest, calm, conditions, laid).
  DERIVED. THE GIVEN ROWS OF THIS SEAT. 8 by the template 'for every input the law returns true; each argument reads behind the call as it read before'; 0 by the template 'total and deterministic' (their statements: YtooknldfkcdneaaTotals.lean).
  GIVEN WITH THE SEED: the statements are not yours to turn. If you find one false, say at which input.
  Laid BY PROGRAM, IN A SANDBOX (cutbox-rows.mjs): the forced cells as the released guide's own fill.sh prints them over the translation 3a2da67e31b13b32… (all of the seat's roots in one cut). By AI agents, Wed Nov 11 2026. No macro, syntax, notation, axiom, sorry.
-/
import Derived.Test.YtooknldfkcdneaaChecked
import GoSem.Claim
import GoSem.ClaimJoined
import GoSem.ClaimMapViews
import Derived.JoinedTies
import Derived.KernelRfl
namespace Go.Proofs.Ytooknldfkcdneaa
/- THE CELL 'sum', in the pinned program and in every row, IS THE sha256 OF THE DUMP (.gsa) THAT YtooknldfkcdneaaProg.lean LOADS. Nothing in Lean hashes anything: it is a label: what it is worth is what the hold of that sum in a sandbox is worth. -/
noncomputable def Try.pinned : Pinned := { name := "ytooknldfkcdneaa", sum := "3a2da67e31b13b32b86ac8d907f5fe49860fd2fba6cd1540523054dd10e43338", checked := Try.checked }
namespace Rows
def none {H : Type} : Left H := { results := [], args := [] }

/-- 'laws.FnExactPropagate': WHATEVER THE INPUT: true; the input reads as it did. -/
def fnExactPropagateSpec : ChangeSpec := { name := "fnExactPropagate", fn := fun _ => fun
  | [d1, d2] => { results := [.lit (.bool true)], args := [d1, d2] }
  | _ => none }
def fnExactPropagateRow : OpenClaim := { program := "ytooknldfkcdneaa", sum := "3a2da67e31b13b32b86ac8d907f5fe49860fd2fba6cd1540523054dd10e43338", func := "loop.example/cuttingplanes/laws.FnExactPropagate", spec := "fnExactPropagate", unfollowed := true, recurses := true, apart := false }
def FnExactPropagateSaid : Prop := fnExactPropagateRow.holds Try.pinned (OpenSpec.ofChange fnExactPropagateSpec)

/-- ITS FALSE NEIGHBOUR: 'it returns false'. Refute it at one input. -/
def fnExactPropagateWrong : ChangeSpec := { name := "fnExactPropagate", fn := fun _ => fun
  | [d1, d2] => { results := [.lit (.bool false)], args := [d1, d2] }
  | _ => none }
def FnExactPropagateWrongFalsely : Prop := fnExactPropagateRow.holds Try.pinned (OpenSpec.ofChange fnExactPropagateWrong)

/-- 'laws.FnExactRupConstraint': WHATEVER THE INPUT: true; the input reads as it did. -/
def fnExactRupConstraintSpec : ChangeSpec := { name := "fnExactRupConstraint", fn := fun _ => fun
  | [d1, d2] => { results := [.lit (.bool true)], args := [d1, d2] }
  | _ => none }
def fnExactRupConstraintRow : OpenClaim := { program := "ytooknldfkcdneaa", sum := "3a2da67e31b13b32b86ac8d907f5fe49860fd2fba6cd1540523054dd10e43338", func := "loop.example/cuttingplanes/laws.FnExactRupConstraint", spec := "fnExactRupConstraint", unfollowed := true, recurses := true, apart := false }
def FnExactRupConstraintSaid : Prop := fnExactRupConstraintRow.holds Try.pinned (OpenSpec.ofChange fnExactRupConstraintSpec)

/-- ITS FALSE NEIGHBOUR: 'it returns false'. Refute it at one input. -/
def fnExactRupConstraintWrong : ChangeSpec := { name := "fnExactRupConstraint", fn := fun _ => fun
  | [d1, d2] => { results := [.lit (.bool false)], args := [d1, d2] }
  | _ => none }
def FnExactRupConstraintWrongFalsely : Prop := fnExactRupConstraintRow.holds Try.pinned (OpenSpec.ofChange fnExactRupConstraintWrong)

/-- 'laws.FnPropagate': WHATEVER THE INPUT: true; the input reads as it did. -/
def fnPropagateSpec : ChangeSpec := { name := "fnPropagate", fn := fun _ => fun
  | [d] => { results := [.lit (.bool true)], args := [d] }
  | _ => none }
def fnPropagateRow : OpenClaim := { program := "ytooknldfkcdneaa", sum := "3a2da67e31b13b32b86ac8d907f5fe49860fd2fba6cd1540523054dd10e43338", func := "loop.example/cuttingplanes/laws.FnPropagate", spec := "fnPropagate", unfollowed := true, recurses := true, apart := false }
def FnPropagateSaid : Prop := fnPropagateRow.holds Try.pinned (OpenSpec.ofChange fnPropagateSpec)

/-- ITS FALSE NEIGHBOUR: 'it returns false'. Refute it at one input. -/
def fnPropagateWrong : ChangeSpec := { name := "fnPropagate", fn := fun _ => fun
  | [d] => { results := [.lit (.bool false)], args := [d] }
  | _ => none }
def FnPropagateWrongFalsely : Prop := fnPropagateRow.holds Try.pinned (OpenSpec.ofChange fnPropagateWrong)

/-- 'laws.FnRupConstraint': WHATEVER THE INPUT: true; the input reads as it did. -/
def fnRupConstraintSpec : ChangeSpec := { name := "fnRupConstraint", fn := fun _ => fun
  | [d] => { results := [.lit (.bool true)], args := [d] }
  | _ => none }
def fnRupConstraintRow : OpenClaim := { program := "ytooknldfkcdneaa", sum := "3a2da67e31b13b32b86ac8d907f5fe49860fd2fba6cd1540523054dd10e43338", func := "loop.example/cuttingplanes/laws.FnRupConstraint", spec := "fnRupConstraint", unfollowed := true, recurses := true, apart := false }
def FnRupConstraintSaid : Prop := fnRupConstraintRow.holds Try.pinned (OpenSpec.ofChange fnRupConstraintSpec)

/-- ITS FALSE NEIGHBOUR: 'it returns false'. Refute it at one input. -/
def fnRupConstraintWrong : ChangeSpec := { name := "fnRupConstraint", fn := fun _ => fun
  | [d] => { results := [.lit (.bool false)], args := [d] }
  | _ => none }
def FnRupConstraintWrongFalsely : Prop := fnRupConstraintRow.holds Try.pinned (OpenSpec.ofChange fnRupConstraintWrong)

/-- 'laws.FnPropagateUnit': WHATEVER THE INPUT: true; the input reads as it did. -/
def fnPropagateUnitSpec : ChangeSpec := { name := "fnPropagateUnit", fn := fun _ => fun
  | [d1, d2] => { results := [.lit (.bool true)], args := [d1, d2] }
  | _ => none }
def fnPropagateUnitRow : OpenClaim := { program := "ytooknldfkcdneaa", sum := "3a2da67e31b13b32b86ac8d907f5fe49860fd2fba6cd1540523054dd10e43338", func := "loop.example/cuttingplanes/laws.FnPropagateUnit", spec := "fnPropagateUnit", unfollowed := true, recurses := true, apart := false }
def FnPropagateUnitSaid : Prop := fnPropagateUnitRow.holds Try.pinned (OpenSpec.ofChange fnPropagateUnitSpec)

/-- ITS FALSE NEIGHBOUR: 'it returns false'. Refute it at one input. -/
def fnPropagateUnitWrong : ChangeSpec := { name := "fnPropagateUnit", fn := fun _ => fun
  | [d1, d2] => { results := [.lit (.bool false)], args := [d1, d2] }
  | _ => none }
def FnPropagateUnitWrongFalsely : Prop := fnPropagateUnitRow.holds Try.pinned (OpenSpec.ofChange fnPropagateUnitWrong)

/-- 'laws.FnPropagateFixed': WHATEVER THE INPUT: true; the input reads as it did. -/
def fnPropagateFixedSpec : ChangeSpec := { name := "fnPropagateFixed", fn := fun _ => fun
  | [d] => { results := [.lit (.bool true)], args := [d] }
  | _ => none }
def fnPropagateFixedRow : OpenClaim := { program := "ytooknldfkcdneaa", sum := "3a2da67e31b13b32b86ac8d907f5fe49860fd2fba6cd1540523054dd10e43338", func := "loop.example/cuttingplanes/laws.FnPropagateFixed", spec := "fnPropagateFixed", unfollowed := true, recurses := true, apart := false }
def FnPropagateFixedSaid : Prop := fnPropagateFixedRow.holds Try.pinned (OpenSpec.ofChange fnPropagateFixedSpec)

/-- ITS FALSE NEIGHBOUR: 'it returns false'. Refute it at one input. -/
def fnPropagateFixedWrong : ChangeSpec := { name := "fnPropagateFixed", fn := fun _ => fun
  | [d] => { results := [.lit (.bool false)], args := [d] }
  | _ => none }
def FnPropagateFixedWrongFalsely : Prop := fnPropagateFixedRow.holds Try.pinned (OpenSpec.ofChange fnPropagateFixedWrong)

/-- 'laws.FnPropagateMonotone': WHATEVER THE INPUT: true; the input reads as it did. -/
def fnPropagateMonotoneSpec : ChangeSpec := { name := "fnPropagateMonotone", fn := fun _ => fun
  | [d1, d2] => { results := [.lit (.bool true)], args := [d1, d2] }
  | _ => none }
def fnPropagateMonotoneRow : OpenClaim := { program := "ytooknldfkcdneaa", sum := "3a2da67e31b13b32b86ac8d907f5fe49860fd2fba6cd1540523054dd10e43338", func := "loop.example/cuttingplanes/laws.FnPropagateMonotone", spec := "fnPropagateMonotone", unfollowed := true, recurses := true, apart := false }
def FnPropagateMonotoneSaid : Prop := fnPropagateMonotoneRow.holds Try.pinned (OpenSpec.ofChange fnPropagateMonotoneSpec)

/-- ITS FALSE NEIGHBOUR: 'it returns false'. Refute it at one input. -/
def fnPropagateMonotoneWrong : ChangeSpec := { name := "fnPropagateMonotone", fn := fun _ => fun
  | [d1, d2] => { results := [.lit (.bool false)], args := [d1, d2] }
  | _ => none }
def FnPropagateMonotoneWrongFalsely : Prop := fnPropagateMonotoneRow.holds Try.pinned (OpenSpec.ofChange fnPropagateMonotoneWrong)

/-- 'laws.FnRupMember': WHATEVER THE INPUT: true; the input reads as it did. -/
def fnRupMemberSpec : ChangeSpec := { name := "fnRupMember", fn := fun _ => fun
  | [d1, d2] => { results := [.lit (.bool true)], args := [d1, d2] }
  | _ => none }
def fnRupMemberRow : OpenClaim := { program := "ytooknldfkcdneaa", sum := "3a2da67e31b13b32b86ac8d907f5fe49860fd2fba6cd1540523054dd10e43338", func := "loop.example/cuttingplanes/laws.FnRupMember", spec := "fnRupMember", unfollowed := true, recurses := true, apart := false }
def FnRupMemberSaid : Prop := fnRupMemberRow.holds Try.pinned (OpenSpec.ofChange fnRupMemberSpec)

/-- ITS FALSE NEIGHBOUR: 'it returns false'. Refute it at one input. -/
def fnRupMemberWrong : ChangeSpec := { name := "fnRupMember", fn := fun _ => fun
  | [d1, d2] => { results := [.lit (.bool false)], args := [d1, d2] }
  | _ => none }
def FnRupMemberWrongFalsely : Prop := fnRupMemberRow.holds Try.pinned (OpenSpec.ofChange fnRupMemberWrong)

/- THE SECOND FORM. 'bulk': how many values and letters a reading holds, each counted each time it is reached (what is shared counts as often as it is met; a slice's spare places count too). A statement '..UptoSaid' is the law's where the arguments, and the package variables that the reading takes, are together of bulk at most 1048576: NARROWER than '..Said'. Prove '..Said' where nothing that the law and all that it calls make is longer than what came in: it says more and counts as full. Else prove '..UptoSaid'. A law counts once. -/
mutual
def uptoBulk {H : Type} : DataW H → Nat
  | .lit (.string bytes) => bytes.length + 1
  | .lit _ => 1
  | .nil => 1
  | .ptr d => uptoBulk d + 1
  | .slice elems spare => uptoBulkAll elems + uptoBulkAll spare + 1
  | .agg parts => uptoBulkAll parts + 1
  | .iface _ d => uptoBulk d + 1
  | .map entries => uptoBulkEntries entries + 1
  | .held _ => 1
def uptoBulkAll {H : Type} : List (DataW H) → Nat
  | [] => 0
  | d :: r => uptoBulk d + uptoBulkAll r
def uptoBulkEntries {H : Type} : List (Lit × DataW H) → Nat
  | [] => 0
  | x :: r => uptoBulkEntry x + uptoBulkEntries r
def uptoBulkEntry {H : Type} : Lit × DataW H → Nat
  | (.string bytes, d) => bytes.length + uptoBulk d + 1
  | (_, d) => uptoBulk d + 1
 end
def uptoSmall : (H : Type) → List (DataW H) → Bool := fun _ ds => decide (uptoBulkAll ds ≤ 1048576)
def OpenSpec.upto (s : _root_.Go.ChangeSpec) : _root_.Go.OpenSpec := { _root_.Go.OpenSpec.ofChange s with cond := some uptoSmall }

/-- 'laws.FnExactPropagate', WHERE WHAT IT READS IS OF BULK AT MOST 1048576: true; the input reads as it did. -/
def fnExactPropagateUptoRow : OpenClaim := { program := "ytooknldfkcdneaa", sum := "3a2da67e31b13b32b86ac8d907f5fe49860fd2fba6cd1540523054dd10e43338", func := "loop.example/cuttingplanes/laws.FnExactPropagate", spec := "fnExactPropagate", unfollowed := true, recurses := true, apart := false, narrowed := true }
def FnExactPropagateUptoSaid : Prop := fnExactPropagateUptoRow.holds Try.pinned (OpenSpec.upto fnExactPropagateSpec)

/-- 'laws.FnExactRupConstraint', WHERE WHAT IT READS IS OF BULK AT MOST 1048576: true; the input reads as it did. -/
def fnExactRupConstraintUptoRow : OpenClaim := { program := "ytooknldfkcdneaa", sum := "3a2da67e31b13b32b86ac8d907f5fe49860fd2fba6cd1540523054dd10e43338", func := "loop.example/cuttingplanes/laws.FnExactRupConstraint", spec := "fnExactRupConstraint", unfollowed := true, recurses := true, apart := false, narrowed := true }
def FnExactRupConstraintUptoSaid : Prop := fnExactRupConstraintUptoRow.holds Try.pinned (OpenSpec.upto fnExactRupConstraintSpec)

/-- 'laws.FnPropagate', WHERE WHAT IT READS IS OF BULK AT MOST 1048576: true; the input reads as it did. -/
def fnPropagateUptoRow : OpenClaim := { program := "ytooknldfkcdneaa", sum := "3a2da67e31b13b32b86ac8d907f5fe49860fd2fba6cd1540523054dd10e43338", func := "loop.example/cuttingplanes/laws.FnPropagate", spec := "fnPropagate", unfollowed := true, recurses := true, apart := false, narrowed := true }
def FnPropagateUptoSaid : Prop := fnPropagateUptoRow.holds Try.pinned (OpenSpec.upto fnPropagateSpec)

/-- 'laws.FnRupConstraint', WHERE WHAT IT READS IS OF BULK AT MOST 1048576: true; the input reads as it did. -/
def fnRupConstraintUptoRow : OpenClaim := { program := "ytooknldfkcdneaa", sum := "3a2da67e31b13b32b86ac8d907f5fe49860fd2fba6cd1540523054dd10e43338", func := "loop.example/cuttingplanes/laws.FnRupConstraint", spec := "fnRupConstraint", unfollowed := true, recurses := true, apart := false, narrowed := true }
def FnRupConstraintUptoSaid : Prop := fnRupConstraintUptoRow.holds Try.pinned (OpenSpec.upto fnRupConstraintSpec)

/-- 'laws.FnPropagateUnit', WHERE WHAT IT READS IS OF BULK AT MOST 1048576: true; the input reads as it did. -/
def fnPropagateUnitUptoRow : OpenClaim := { program := "ytooknldfkcdneaa", sum := "3a2da67e31b13b32b86ac8d907f5fe49860fd2fba6cd1540523054dd10e43338", func := "loop.example/cuttingplanes/laws.FnPropagateUnit", spec := "fnPropagateUnit", unfollowed := true, recurses := true, apart := false, narrowed := true }
def FnPropagateUnitUptoSaid : Prop := fnPropagateUnitUptoRow.holds Try.pinned (OpenSpec.upto fnPropagateUnitSpec)

/-- 'laws.FnPropagateFixed', WHERE WHAT IT READS IS OF BULK AT MOST 1048576: true; the input reads as it did. -/
def fnPropagateFixedUptoRow : OpenClaim := { program := "ytooknldfkcdneaa", sum := "3a2da67e31b13b32b86ac8d907f5fe49860fd2fba6cd1540523054dd10e43338", func := "loop.example/cuttingplanes/laws.FnPropagateFixed", spec := "fnPropagateFixed", unfollowed := true, recurses := true, apart := false, narrowed := true }
def FnPropagateFixedUptoSaid : Prop := fnPropagateFixedUptoRow.holds Try.pinned (OpenSpec.upto fnPropagateFixedSpec)

/-- 'laws.FnPropagateMonotone', WHERE WHAT IT READS IS OF BULK AT MOST 1048576: true; the input reads as it did. -/
def fnPropagateMonotoneUptoRow : OpenClaim := { program := "ytooknldfkcdneaa", sum := "3a2da67e31b13b32b86ac8d907f5fe49860fd2fba6cd1540523054dd10e43338", func := "loop.example/cuttingplanes/laws.FnPropagateMonotone", spec := "fnPropagateMonotone", unfollowed := true, recurses := true, apart := false, narrowed := true }
def FnPropagateMonotoneUptoSaid : Prop := fnPropagateMonotoneUptoRow.holds Try.pinned (OpenSpec.upto fnPropagateMonotoneSpec)

/-- 'laws.FnRupMember', WHERE WHAT IT READS IS OF BULK AT MOST 1048576: true; the input reads as it did. -/
def fnRupMemberUptoRow : OpenClaim := { program := "ytooknldfkcdneaa", sum := "3a2da67e31b13b32b86ac8d907f5fe49860fd2fba6cd1540523054dd10e43338", func := "loop.example/cuttingplanes/laws.FnRupMember", spec := "fnRupMember", unfollowed := true, recurses := true, apart := false, narrowed := true }
def FnRupMemberUptoSaid : Prop := fnRupMemberUptoRow.holds Try.pinned (OpenSpec.upto fnRupMemberSpec)

end Rows
end Go.Proofs.Ytooknldfkcdneaa
