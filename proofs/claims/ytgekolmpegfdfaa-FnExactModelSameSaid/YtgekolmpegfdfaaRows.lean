/-
  No cell of these rows narrows 'for every input' (looked for: loops, veiled, ifaces, maps, wideKeys, modest, calm, conditions, laid).
  DERIVED. THE GIVEN ROWS OF THIS SEAT. 7 by the template 'for every input the law returns true; each argument reads behind the call as it read before'; 0 by the template 'total and deterministic' (their statements: YtgekolmpegfdfaaTotals.lean).
  GIVEN WITH THE SEED: the statements are not yours to turn. If you find one false, say at which input.
  Laid BY PROGRAM, IN A SANDBOX (cutbox-rows.mjs): the forced cells as the released guide's own fill.sh prints them over the translation f63377bd177882aa… (all of the seat's roots in one cut). By AI agents, Wed Nov 11 2026. No macro, syntax, notation, axiom, sorry.
-/
import Derived.Test.YtgekolmpegfdfaaChecked
import GoSem.Claim
import GoSem.ClaimJoined
import GoSem.ClaimMapViews
import Derived.JoinedTies
import Derived.KernelRfl
namespace Go.Proofs.Ytgekolmpegfdfaa
/- THE CELL 'sum', in the pinned program and in every row, IS THE sha256 OF THE DUMP (.gsa) THAT YtgekolmpegfdfaaProg.lean LOADS. Nothing in Lean hashes anything: it is a label: what it is worth is what the hold of that sum in a sandbox is worth. -/
noncomputable def Try.pinned : Pinned := { name := "ytgekolmpegfdfaa", sum := "f63377bd177882aa4ab2ca991df1cee580b445fdf7b6e26aca8a1a3151d8c407", checked := Try.checked }
namespace Rows
def none {H : Type} : Left H := { results := [], args := [] }

/-- 'laws.FnExactModelValid': WHATEVER THE INPUT: true; the input reads as it did. -/
def fnExactModelValidSpec : ChangeSpec := { name := "fnExactModelValid", fn := fun _ => fun
  | [d] => { results := [.lit (.bool true)], args := [d] }
  | _ => none }
def fnExactModelValidRow : OpenClaim := { program := "ytgekolmpegfdfaa", sum := "f63377bd177882aa4ab2ca991df1cee580b445fdf7b6e26aca8a1a3151d8c407", func := "loop.example/cuttingplanes/laws.FnExactModelValid", spec := "fnExactModelValid", unfollowed := true, recurses := true, apart := false }
def FnExactModelValidSaid : Prop := fnExactModelValidRow.holds Try.pinned (OpenSpec.ofChange fnExactModelValidSpec)

/-- ITS FALSE NEIGHBOUR: 'it returns false'. Refute it at one input. -/
def fnExactModelValidWrong : ChangeSpec := { name := "fnExactModelValid", fn := fun _ => fun
  | [d] => { results := [.lit (.bool false)], args := [d] }
  | _ => none }
def FnExactModelValidWrongFalsely : Prop := fnExactModelValidRow.holds Try.pinned (OpenSpec.ofChange fnExactModelValidWrong)

/-- 'laws.FnExactModelSame': WHATEVER THE INPUT: true; the input reads as it did. -/
def fnExactModelSameSpec : ChangeSpec := { name := "fnExactModelSame", fn := fun _ => fun
  | [d1, d2] => { results := [.lit (.bool true)], args := [d1, d2] }
  | _ => none }
def fnExactModelSameRow : OpenClaim := { program := "ytgekolmpegfdfaa", sum := "f63377bd177882aa4ab2ca991df1cee580b445fdf7b6e26aca8a1a3151d8c407", func := "loop.example/cuttingplanes/laws.FnExactModelSame", spec := "fnExactModelSame", unfollowed := true, recurses := true, apart := false }
def FnExactModelSameSaid : Prop := fnExactModelSameRow.holds Try.pinned (OpenSpec.ofChange fnExactModelSameSpec)

/-- ITS FALSE NEIGHBOUR: 'it returns false'. Refute it at one input. -/
def fnExactModelSameWrong : ChangeSpec := { name := "fnExactModelSame", fn := fun _ => fun
  | [d1, d2] => { results := [.lit (.bool false)], args := [d1, d2] }
  | _ => none }
def FnExactModelSameWrongFalsely : Prop := fnExactModelSameRow.holds Try.pinned (OpenSpec.ofChange fnExactModelSameWrong)

/-- 'laws.FnExactCellsValid': WHATEVER THE INPUT: true; the input reads as it did. -/
def fnExactCellsValidSpec : ChangeSpec := { name := "fnExactCellsValid", fn := fun _ => fun
  | [d1, d2] => { results := [.lit (.bool true)], args := [d1, d2] }
  | _ => none }
def fnExactCellsValidRow : OpenClaim := { program := "ytgekolmpegfdfaa", sum := "f63377bd177882aa4ab2ca991df1cee580b445fdf7b6e26aca8a1a3151d8c407", func := "loop.example/cuttingplanes/laws.FnExactCellsValid", spec := "fnExactCellsValid", unfollowed := true, recurses := true, apart := false }
def FnExactCellsValidSaid : Prop := fnExactCellsValidRow.holds Try.pinned (OpenSpec.ofChange fnExactCellsValidSpec)

/-- ITS FALSE NEIGHBOUR: 'it returns false'. Refute it at one input. -/
def fnExactCellsValidWrong : ChangeSpec := { name := "fnExactCellsValid", fn := fun _ => fun
  | [d1, d2] => { results := [.lit (.bool false)], args := [d1, d2] }
  | _ => none }
def FnExactCellsValidWrongFalsely : Prop := fnExactCellsValidRow.holds Try.pinned (OpenSpec.ofChange fnExactCellsValidWrong)

/-- 'laws.FnExactRuleHolds': WHATEVER THE INPUT: true; the input reads as it did. -/
def fnExactRuleHoldsSpec : ChangeSpec := { name := "fnExactRuleHolds", fn := fun _ => fun
  | [d1, d2, d3] => { results := [.lit (.bool true)], args := [d1, d2, d3] }
  | _ => none }
def fnExactRuleHoldsRow : OpenClaim := { program := "ytgekolmpegfdfaa", sum := "f63377bd177882aa4ab2ca991df1cee580b445fdf7b6e26aca8a1a3151d8c407", func := "loop.example/cuttingplanes/laws.FnExactRuleHolds", spec := "fnExactRuleHolds", unfollowed := true, recurses := true, apart := false }
def FnExactRuleHoldsSaid : Prop := fnExactRuleHoldsRow.holds Try.pinned (OpenSpec.ofChange fnExactRuleHoldsSpec)

/-- ITS FALSE NEIGHBOUR: 'it returns false'. Refute it at one input. -/
def fnExactRuleHoldsWrong : ChangeSpec := { name := "fnExactRuleHolds", fn := fun _ => fun
  | [d1, d2, d3] => { results := [.lit (.bool false)], args := [d1, d2, d3] }
  | _ => none }
def FnExactRuleHoldsWrongFalsely : Prop := fnExactRuleHoldsRow.holds Try.pinned (OpenSpec.ofChange fnExactRuleHoldsWrong)

/-- 'laws.FnExactSolvesModel': WHATEVER THE INPUT: true; the input reads as it did. -/
def fnExactSolvesModelSpec : ChangeSpec := { name := "fnExactSolvesModel", fn := fun _ => fun
  | [d1, d2] => { results := [.lit (.bool true)], args := [d1, d2] }
  | _ => none }
def fnExactSolvesModelRow : OpenClaim := { program := "ytgekolmpegfdfaa", sum := "f63377bd177882aa4ab2ca991df1cee580b445fdf7b6e26aca8a1a3151d8c407", func := "loop.example/cuttingplanes/laws.FnExactSolvesModel", spec := "fnExactSolvesModel", unfollowed := true, recurses := true, apart := false }
def FnExactSolvesModelSaid : Prop := fnExactSolvesModelRow.holds Try.pinned (OpenSpec.ofChange fnExactSolvesModelSpec)

/-- ITS FALSE NEIGHBOUR: 'it returns false'. Refute it at one input. -/
def fnExactSolvesModelWrong : ChangeSpec := { name := "fnExactSolvesModel", fn := fun _ => fun
  | [d1, d2] => { results := [.lit (.bool false)], args := [d1, d2] }
  | _ => none }
def FnExactSolvesModelWrongFalsely : Prop := fnExactSolvesModelRow.holds Try.pinned (OpenSpec.ofChange fnExactSolvesModelWrong)

/-- 'laws.FnExactCountModel': WHATEVER THE INPUT: true; the input reads as it did. -/
def fnExactCountModelSpec : ChangeSpec := { name := "fnExactCountModel", fn := fun _ => fun
  | [d] => { results := [.lit (.bool true)], args := [d] }
  | _ => none }
def fnExactCountModelRow : OpenClaim := { program := "ytgekolmpegfdfaa", sum := "f63377bd177882aa4ab2ca991df1cee580b445fdf7b6e26aca8a1a3151d8c407", func := "loop.example/cuttingplanes/laws.FnExactCountModel", spec := "fnExactCountModel", unfollowed := true, recurses := true, apart := false }
def FnExactCountModelSaid : Prop := fnExactCountModelRow.holds Try.pinned (OpenSpec.ofChange fnExactCountModelSpec)

/-- ITS FALSE NEIGHBOUR: 'it returns false'. Refute it at one input. -/
def fnExactCountModelWrong : ChangeSpec := { name := "fnExactCountModel", fn := fun _ => fun
  | [d] => { results := [.lit (.bool false)], args := [d] }
  | _ => none }
def FnExactCountModelWrongFalsely : Prop := fnExactCountModelRow.holds Try.pinned (OpenSpec.ofChange fnExactCountModelWrong)

/-- 'laws.FnExactNextModel': WHATEVER THE INPUT: true; the input reads as it did. -/
def fnExactNextModelSpec : ChangeSpec := { name := "fnExactNextModel", fn := fun _ => fun
  | [d1, d2] => { results := [.lit (.bool true)], args := [d1, d2] }
  | _ => none }
def fnExactNextModelRow : OpenClaim := { program := "ytgekolmpegfdfaa", sum := "f63377bd177882aa4ab2ca991df1cee580b445fdf7b6e26aca8a1a3151d8c407", func := "loop.example/cuttingplanes/laws.FnExactNextModel", spec := "fnExactNextModel", unfollowed := true, recurses := true, apart := false }
def FnExactNextModelSaid : Prop := fnExactNextModelRow.holds Try.pinned (OpenSpec.ofChange fnExactNextModelSpec)

/-- ITS FALSE NEIGHBOUR: 'it returns false'. Refute it at one input. -/
def fnExactNextModelWrong : ChangeSpec := { name := "fnExactNextModel", fn := fun _ => fun
  | [d1, d2] => { results := [.lit (.bool false)], args := [d1, d2] }
  | _ => none }
def FnExactNextModelWrongFalsely : Prop := fnExactNextModelRow.holds Try.pinned (OpenSpec.ofChange fnExactNextModelWrong)

/- THE SECOND FORM. 'bulk': how many values and letters a reading holds, each counted each time it is reached (what is shared counts as often as it is met; a slice's spare places count too). A statement '..UptoSaid' is the law's where the arguments, and the package variables that the reading takes, are together of bulk at most 1048576: NARROWER than '..Said'. Prove '..Said' where nothing that the law and all that it calls make is longer than what came in: it says more and counts as full. Else prove '..UptoSaid'. A law counts once. -/
mutual
def uptoBulk {H : Type} : DataW H → Nat
  | .lit (.string bytes) => bytes.length + 1
  | .lit _ => 1
  | .nil => 1
  | .ptr d => uptoBulk d + 1
  | .slice elems spare => uptoBulkAll elems + uptoBulkAll spare + 1
  | .agg parts => uptoBulkAll parts + 1
  | .iface _ d => uptoBulk d + 1
  | .map entries => uptoBulkEntries entries + 1
  | .held _ => 1
def uptoBulkAll {H : Type} : List (DataW H) → Nat
  | [] => 0
  | d :: r => uptoBulk d + uptoBulkAll r
def uptoBulkEntries {H : Type} : List (Lit × DataW H) → Nat
  | [] => 0
  | x :: r => uptoBulkEntry x + uptoBulkEntries r
def uptoBulkEntry {H : Type} : Lit × DataW H → Nat
  | (.string bytes, d) => bytes.length + uptoBulk d + 1
  | (_, d) => uptoBulk d + 1
 end
def uptoSmall : (H : Type) → List (DataW H) → Bool := fun _ ds => decide (uptoBulkAll ds ≤ 1048576)
def OpenSpec.upto (s : _root_.Go.ChangeSpec) : _root_.Go.OpenSpec := { _root_.Go.OpenSpec.ofChange s with cond := some uptoSmall }

/-- 'laws.FnExactModelValid', WHERE WHAT IT READS IS OF BULK AT MOST 1048576: true; the input reads as it did. -/
def fnExactModelValidUptoRow : OpenClaim := { program := "ytgekolmpegfdfaa", sum := "f63377bd177882aa4ab2ca991df1cee580b445fdf7b6e26aca8a1a3151d8c407", func := "loop.example/cuttingplanes/laws.FnExactModelValid", spec := "fnExactModelValid", unfollowed := true, recurses := true, apart := false, narrowed := true }
def FnExactModelValidUptoSaid : Prop := fnExactModelValidUptoRow.holds Try.pinned (OpenSpec.upto fnExactModelValidSpec)

/-- 'laws.FnExactModelSame', WHERE WHAT IT READS IS OF BULK AT MOST 1048576: true; the input reads as it did. -/
def fnExactModelSameUptoRow : OpenClaim := { program := "ytgekolmpegfdfaa", sum := "f63377bd177882aa4ab2ca991df1cee580b445fdf7b6e26aca8a1a3151d8c407", func := "loop.example/cuttingplanes/laws.FnExactModelSame", spec := "fnExactModelSame", unfollowed := true, recurses := true, apart := false, narrowed := true }
def FnExactModelSameUptoSaid : Prop := fnExactModelSameUptoRow.holds Try.pinned (OpenSpec.upto fnExactModelSameSpec)

/-- 'laws.FnExactCellsValid', WHERE WHAT IT READS IS OF BULK AT MOST 1048576: true; the input reads as it did. -/
def fnExactCellsValidUptoRow : OpenClaim := { program := "ytgekolmpegfdfaa", sum := "f63377bd177882aa4ab2ca991df1cee580b445fdf7b6e26aca8a1a3151d8c407", func := "loop.example/cuttingplanes/laws.FnExactCellsValid", spec := "fnExactCellsValid", unfollowed := true, recurses := true, apart := false, narrowed := true }
def FnExactCellsValidUptoSaid : Prop := fnExactCellsValidUptoRow.holds Try.pinned (OpenSpec.upto fnExactCellsValidSpec)

/-- 'laws.FnExactRuleHolds', WHERE WHAT IT READS IS OF BULK AT MOST 1048576: true; the input reads as it did. -/
def fnExactRuleHoldsUptoRow : OpenClaim := { program := "ytgekolmpegfdfaa", sum := "f63377bd177882aa4ab2ca991df1cee580b445fdf7b6e26aca8a1a3151d8c407", func := "loop.example/cuttingplanes/laws.FnExactRuleHolds", spec := "fnExactRuleHolds", unfollowed := true, recurses := true, apart := false, narrowed := true }
def FnExactRuleHoldsUptoSaid : Prop := fnExactRuleHoldsUptoRow.holds Try.pinned (OpenSpec.upto fnExactRuleHoldsSpec)

/-- 'laws.FnExactSolvesModel', WHERE WHAT IT READS IS OF BULK AT MOST 1048576: true; the input reads as it did. -/
def fnExactSolvesModelUptoRow : OpenClaim := { program := "ytgekolmpegfdfaa", sum := "f63377bd177882aa4ab2ca991df1cee580b445fdf7b6e26aca8a1a3151d8c407", func := "loop.example/cuttingplanes/laws.FnExactSolvesModel", spec := "fnExactSolvesModel", unfollowed := true, recurses := true, apart := false, narrowed := true }
def FnExactSolvesModelUptoSaid : Prop := fnExactSolvesModelUptoRow.holds Try.pinned (OpenSpec.upto fnExactSolvesModelSpec)

/-- 'laws.FnExactCountModel', WHERE WHAT IT READS IS OF BULK AT MOST 1048576: true; the input reads as it did. -/
def fnExactCountModelUptoRow : OpenClaim := { program := "ytgekolmpegfdfaa", sum := "f63377bd177882aa4ab2ca991df1cee580b445fdf7b6e26aca8a1a3151d8c407", func := "loop.example/cuttingplanes/laws.FnExactCountModel", spec := "fnExactCountModel", unfollowed := true, recurses := true, apart := false, narrowed := true }
def FnExactCountModelUptoSaid : Prop := fnExactCountModelUptoRow.holds Try.pinned (OpenSpec.upto fnExactCountModelSpec)

/-- 'laws.FnExactNextModel', WHERE WHAT IT READS IS OF BULK AT MOST 1048576: true; the input reads as it did. -/
def fnExactNextModelUptoRow : OpenClaim := { program := "ytgekolmpegfdfaa", sum := "f63377bd177882aa4ab2ca991df1cee580b445fdf7b6e26aca8a1a3151d8c407", func := "loop.example/cuttingplanes/laws.FnExactNextModel", spec := "fnExactNextModel", unfollowed := true, recurses := true, apart := false, narrowed := true }
def FnExactNextModelUptoSaid : Prop := fnExactNextModelUptoRow.holds Try.pinned (OpenSpec.upto fnExactNextModelSpec)

end Rows
end Go.Proofs.Ytgekolmpegfdfaa
