/-
  No cell of these rows narrows 'for every input' (looked for: loops, veiled, ifaces, maps, wideKeys, modest, calm, conditions, laid).
  DERIVED. THE GIVEN ROWS OF THIS SEAT. 6 by the template 'for every input the law returns true; each argument reads behind the call as it read before'; 0 by the template 'total and deterministic' (their statements: YtafiikfaeomhpaaTotals.lean).
  GIVEN WITH THE SEED: the statements are not yours to turn. If you find one false, say at which input.
  Laid BY PROGRAM, IN A SANDBOX (cutbox-rows.mjs): the forced cells as the released guide's own fill.sh prints them over the translation 1501a8e933155c88… (all of the seat's roots in one cut). By AI agents, Wed Nov 11 2026. No macro, syntax, notation, axiom, sorry.
-/
import Derived.Test.YtafiikfaeomhpaaChecked
import GoSem.Claim
import GoSem.ClaimJoined
import GoSem.ClaimMapViews
import Derived.JoinedTies
import Derived.KernelRfl
namespace Go.Proofs.Ytafiikfaeomhpaa
/- THE CELL 'sum', in the pinned program and in every row, IS THE sha256 OF THE DUMP (.gsa) THAT YtafiikfaeomhpaaProg.lean LOADS. Nothing in Lean hashes anything: it is a label: what it is worth is what the hold of that sum in a sandbox is worth. -/
noncomputable def Try.pinned : Pinned := { name := "ytafiikfaeomhpaa", sum := "1501a8e933155c88c0a698b25877720aa6b5f74865086124dd676c7a99e16ffd", checked := Try.checked }
namespace Rows
def none {H : Type} : Left H := { results := [], args := [] }

/-- 'laws.FnExactPermValid': WHATEVER THE INPUT: true; the input reads as it did. -/
def fnExactPermValidSpec : ChangeSpec := { name := "fnExactPermValid", fn := fun _ => fun
  | [d1, d2] => { results := [.lit (.bool true)], args := [d1, d2] }
  | _ => none }
def fnExactPermValidRow : OpenClaim := { program := "ytafiikfaeomhpaa", sum := "1501a8e933155c88c0a698b25877720aa6b5f74865086124dd676c7a99e16ffd", func := "loop.example/cuttingplanes/laws.FnExactPermValid", spec := "fnExactPermValid", unfollowed := true, recurses := true, apart := false }
def FnExactPermValidSaid : Prop := fnExactPermValidRow.holds Try.pinned (OpenSpec.ofChange fnExactPermValidSpec)

/-- ITS FALSE NEIGHBOUR: 'it returns false'. Refute it at one input. -/
def fnExactPermValidWrong : ChangeSpec := { name := "fnExactPermValid", fn := fun _ => fun
  | [d1, d2] => { results := [.lit (.bool false)], args := [d1, d2] }
  | _ => none }
def FnExactPermValidWrongFalsely : Prop := fnExactPermValidRow.holds Try.pinned (OpenSpec.ofChange fnExactPermValidWrong)

/-- 'laws.FnExactPermuteCells': WHATEVER THE INPUT: true; the input reads as it did. -/
def fnExactPermuteCellsSpec : ChangeSpec := { name := "fnExactPermuteCells", fn := fun _ => fun
  | [d1, d2, d3] => { results := [.lit (.bool true)], args := [d1, d2, d3] }
  | _ => none }
def fnExactPermuteCellsRow : OpenClaim := { program := "ytafiikfaeomhpaa", sum := "1501a8e933155c88c0a698b25877720aa6b5f74865086124dd676c7a99e16ffd", func := "loop.example/cuttingplanes/laws.FnExactPermuteCells", spec := "fnExactPermuteCells", unfollowed := true, recurses := true, apart := false }
def FnExactPermuteCellsSaid : Prop := fnExactPermuteCellsRow.holds Try.pinned (OpenSpec.ofChange fnExactPermuteCellsSpec)

/-- ITS FALSE NEIGHBOUR: 'it returns false'. Refute it at one input. -/
def fnExactPermuteCellsWrong : ChangeSpec := { name := "fnExactPermuteCells", fn := fun _ => fun
  | [d1, d2, d3] => { results := [.lit (.bool false)], args := [d1, d2, d3] }
  | _ => none }
def FnExactPermuteCellsWrongFalsely : Prop := fnExactPermuteCellsRow.holds Try.pinned (OpenSpec.ofChange fnExactPermuteCellsWrong)

/-- 'laws.FnPermuteCells': WHATEVER THE INPUT: true; the input reads as it did. -/
def fnPermuteCellsSpec : ChangeSpec := { name := "fnPermuteCells", fn := fun _ => fun
  | [d] => { results := [.lit (.bool true)], args := [d] }
  | _ => none }
def fnPermuteCellsRow : OpenClaim := { program := "ytafiikfaeomhpaa", sum := "1501a8e933155c88c0a698b25877720aa6b5f74865086124dd676c7a99e16ffd", func := "loop.example/cuttingplanes/laws.FnPermuteCells", spec := "fnPermuteCells", unfollowed := true, recurses := true, apart := false }
def FnPermuteCellsSaid : Prop := fnPermuteCellsRow.holds Try.pinned (OpenSpec.ofChange fnPermuteCellsSpec)

/-- ITS FALSE NEIGHBOUR: 'it returns false'. Refute it at one input. -/
def fnPermuteCellsWrong : ChangeSpec := { name := "fnPermuteCells", fn := fun _ => fun
  | [d] => { results := [.lit (.bool false)], args := [d] }
  | _ => none }
def FnPermuteCellsWrongFalsely : Prop := fnPermuteCellsRow.holds Try.pinned (OpenSpec.ofChange fnPermuteCellsWrong)

/-- 'laws.FnDecodeValues': WHATEVER THE INPUT: true; the input reads as it did. -/
def fnDecodeValuesSpec : ChangeSpec := { name := "fnDecodeValues", fn := fun _ => fun
  | [d] => { results := [.lit (.bool true)], args := [d] }
  | _ => none }
def fnDecodeValuesRow : OpenClaim := { program := "ytafiikfaeomhpaa", sum := "1501a8e933155c88c0a698b25877720aa6b5f74865086124dd676c7a99e16ffd", func := "loop.example/cuttingplanes/laws.FnDecodeValues", spec := "fnDecodeValues", unfollowed := true, recurses := true, apart := false }
def FnDecodeValuesSaid : Prop := fnDecodeValuesRow.holds Try.pinned (OpenSpec.ofChange fnDecodeValuesSpec)

/-- ITS FALSE NEIGHBOUR: 'it returns false'. Refute it at one input. -/
def fnDecodeValuesWrong : ChangeSpec := { name := "fnDecodeValues", fn := fun _ => fun
  | [d] => { results := [.lit (.bool false)], args := [d] }
  | _ => none }
def FnDecodeValuesWrongFalsely : Prop := fnDecodeValuesRow.holds Try.pinned (OpenSpec.ofChange fnDecodeValuesWrong)

/-- 'laws.FnExactPermuteModel': WHATEVER THE INPUT: true; the input reads as it did. -/
def fnExactPermuteModelSpec : ChangeSpec := { name := "fnExactPermuteModel", fn := fun _ => fun
  | [d1, d2] => { results := [.lit (.bool true)], args := [d1, d2] }
  | _ => none }
def fnExactPermuteModelRow : OpenClaim := { program := "ytafiikfaeomhpaa", sum := "1501a8e933155c88c0a698b25877720aa6b5f74865086124dd676c7a99e16ffd", func := "loop.example/cuttingplanes/laws.FnExactPermuteModel", spec := "fnExactPermuteModel", unfollowed := true, recurses := true, apart := false }
def FnExactPermuteModelSaid : Prop := fnExactPermuteModelRow.holds Try.pinned (OpenSpec.ofChange fnExactPermuteModelSpec)

/-- ITS FALSE NEIGHBOUR: 'it returns false'. Refute it at one input. -/
def fnExactPermuteModelWrong : ChangeSpec := { name := "fnExactPermuteModel", fn := fun _ => fun
  | [d1, d2] => { results := [.lit (.bool false)], args := [d1, d2] }
  | _ => none }
def FnExactPermuteModelWrongFalsely : Prop := fnExactPermuteModelRow.holds Try.pinned (OpenSpec.ofChange fnExactPermuteModelWrong)

/-- 'laws.FnExactProofSame': WHATEVER THE INPUT: true; the input reads as it did. -/
def fnExactProofSameSpec : ChangeSpec := { name := "fnExactProofSame", fn := fun _ => fun
  | [d1, d2] => { results := [.lit (.bool true)], args := [d1, d2] }
  | _ => none }
def fnExactProofSameRow : OpenClaim := { program := "ytafiikfaeomhpaa", sum := "1501a8e933155c88c0a698b25877720aa6b5f74865086124dd676c7a99e16ffd", func := "loop.example/cuttingplanes/laws.FnExactProofSame", spec := "fnExactProofSame", unfollowed := true, recurses := true, apart := false }
def FnExactProofSameSaid : Prop := fnExactProofSameRow.holds Try.pinned (OpenSpec.ofChange fnExactProofSameSpec)

/-- ITS FALSE NEIGHBOUR: 'it returns false'. Refute it at one input. -/
def fnExactProofSameWrong : ChangeSpec := { name := "fnExactProofSame", fn := fun _ => fun
  | [d1, d2] => { results := [.lit (.bool false)], args := [d1, d2] }
  | _ => none }
def FnExactProofSameWrongFalsely : Prop := fnExactProofSameRow.holds Try.pinned (OpenSpec.ofChange fnExactProofSameWrong)

/- THE SECOND FORM. 'bulk': how many values and letters a reading holds, each counted each time it is reached (what is shared counts as often as it is met; a slice's spare places count too). A statement '..UptoSaid' is the law's where the arguments, and the package variables that the reading takes, are together of bulk at most 1048576: NARROWER than '..Said'. Prove '..Said' where nothing that the law and all that it calls make is longer than what came in: it says more and counts as full. Else prove '..UptoSaid'. A law counts once. -/
mutual
def uptoBulk {H : Type} : DataW H → Nat
  | .lit (.string bytes) => bytes.length + 1
  | .lit _ => 1
  | .nil => 1
  | .ptr d => uptoBulk d + 1
  | .slice elems spare => uptoBulkAll elems + uptoBulkAll spare + 1
  | .agg parts => uptoBulkAll parts + 1
  | .iface _ d => uptoBulk d + 1
  | .map entries => uptoBulkEntries entries + 1
  | .held _ => 1
def uptoBulkAll {H : Type} : List (DataW H) → Nat
  | [] => 0
  | d :: r => uptoBulk d + uptoBulkAll r
def uptoBulkEntries {H : Type} : List (Lit × DataW H) → Nat
  | [] => 0
  | x :: r => uptoBulkEntry x + uptoBulkEntries r
def uptoBulkEntry {H : Type} : Lit × DataW H → Nat
  | (.string bytes, d) => bytes.length + uptoBulk d + 1
  | (_, d) => uptoBulk d + 1
 end
def uptoSmall : (H : Type) → List (DataW H) → Bool := fun _ ds => decide (uptoBulkAll ds ≤ 1048576)
def OpenSpec.upto (s : _root_.Go.ChangeSpec) : _root_.Go.OpenSpec := { _root_.Go.OpenSpec.ofChange s with cond := some uptoSmall }

/-- 'laws.FnExactPermValid', WHERE WHAT IT READS IS OF BULK AT MOST 1048576: true; the input reads as it did. -/
def fnExactPermValidUptoRow : OpenClaim := { program := "ytafiikfaeomhpaa", sum := "1501a8e933155c88c0a698b25877720aa6b5f74865086124dd676c7a99e16ffd", func := "loop.example/cuttingplanes/laws.FnExactPermValid", spec := "fnExactPermValid", unfollowed := true, recurses := true, apart := false, narrowed := true }
def FnExactPermValidUptoSaid : Prop := fnExactPermValidUptoRow.holds Try.pinned (OpenSpec.upto fnExactPermValidSpec)

/-- 'laws.FnExactPermuteCells', WHERE WHAT IT READS IS OF BULK AT MOST 1048576: true; the input reads as it did. -/
def fnExactPermuteCellsUptoRow : OpenClaim := { program := "ytafiikfaeomhpaa", sum := "1501a8e933155c88c0a698b25877720aa6b5f74865086124dd676c7a99e16ffd", func := "loop.example/cuttingplanes/laws.FnExactPermuteCells", spec := "fnExactPermuteCells", unfollowed := true, recurses := true, apart := false, narrowed := true }
def FnExactPermuteCellsUptoSaid : Prop := fnExactPermuteCellsUptoRow.holds Try.pinned (OpenSpec.upto fnExactPermuteCellsSpec)

/-- 'laws.FnPermuteCells', WHERE WHAT IT READS IS OF BULK AT MOST 1048576: true; the input reads as it did. -/
def fnPermuteCellsUptoRow : OpenClaim := { program := "ytafiikfaeomhpaa", sum := "1501a8e933155c88c0a698b25877720aa6b5f74865086124dd676c7a99e16ffd", func := "loop.example/cuttingplanes/laws.FnPermuteCells", spec := "fnPermuteCells", unfollowed := true, recurses := true, apart := false, narrowed := true }
def FnPermuteCellsUptoSaid : Prop := fnPermuteCellsUptoRow.holds Try.pinned (OpenSpec.upto fnPermuteCellsSpec)

/-- 'laws.FnDecodeValues', WHERE WHAT IT READS IS OF BULK AT MOST 1048576: true; the input reads as it did. -/
def fnDecodeValuesUptoRow : OpenClaim := { program := "ytafiikfaeomhpaa", sum := "1501a8e933155c88c0a698b25877720aa6b5f74865086124dd676c7a99e16ffd", func := "loop.example/cuttingplanes/laws.FnDecodeValues", spec := "fnDecodeValues", unfollowed := true, recurses := true, apart := false, narrowed := true }
def FnDecodeValuesUptoSaid : Prop := fnDecodeValuesUptoRow.holds Try.pinned (OpenSpec.upto fnDecodeValuesSpec)

/-- 'laws.FnExactPermuteModel', WHERE WHAT IT READS IS OF BULK AT MOST 1048576: true; the input reads as it did. -/
def fnExactPermuteModelUptoRow : OpenClaim := { program := "ytafiikfaeomhpaa", sum := "1501a8e933155c88c0a698b25877720aa6b5f74865086124dd676c7a99e16ffd", func := "loop.example/cuttingplanes/laws.FnExactPermuteModel", spec := "fnExactPermuteModel", unfollowed := true, recurses := true, apart := false, narrowed := true }
def FnExactPermuteModelUptoSaid : Prop := fnExactPermuteModelUptoRow.holds Try.pinned (OpenSpec.upto fnExactPermuteModelSpec)

/-- 'laws.FnExactProofSame', WHERE WHAT IT READS IS OF BULK AT MOST 1048576: true; the input reads as it did. -/
def fnExactProofSameUptoRow : OpenClaim := { program := "ytafiikfaeomhpaa", sum := "1501a8e933155c88c0a698b25877720aa6b5f74865086124dd676c7a99e16ffd", func := "loop.example/cuttingplanes/laws.FnExactProofSame", spec := "fnExactProofSame", unfollowed := true, recurses := true, apart := false, narrowed := true }
def FnExactProofSameUptoSaid : Prop := fnExactProofSameUptoRow.holds Try.pinned (OpenSpec.upto fnExactProofSameSpec)

end Rows
end Go.Proofs.Ytafiikfaeomhpaa
