/-
  No cell of these rows narrows 'for every input' (looked for: loops, veiled, ifaces, maps, wideKeys, modest, calm, conditions, laid).
  DERIVED. THE GIVEN ROWS OF THIS SEAT. 8 by the template 'for every input the law returns true; each argument reads behind the call as it read before'; 0 by the template 'total and deterministic' (their statements: YtbebdhjhlheboaaTotals.lean).
  GIVEN WITH THE SEED: the statements are not yours to turn. If you find one false, say at which input.
  Laid BY PROGRAM, IN A SANDBOX (cutbox-rows.mjs): the forced cells as the released guide's own fill.sh prints them over the translation 3c0c3b9f3d0d3a55… (all of the seat's roots in one cut). By AI agents, Wed Nov 11 2026. No macro, syntax, notation, axiom, sorry.
-/
import Derived.Test.YtbebdhjhlheboaaChecked
import GoSem.Claim
import GoSem.ClaimJoined
import GoSem.ClaimMapViews
import Derived.JoinedTies
import Derived.KernelRfl
namespace Go.Proofs.Ytbebdhjhlheboaa
/- THE CELL 'sum', in the pinned program and in every row, IS THE sha256 OF THE DUMP (.gsa) THAT YtbebdhjhlheboaaProg.lean LOADS. Nothing in Lean hashes anything: it is a label: what it is worth is what the hold of that sum in a sandbox is worth. -/
noncomputable def Try.pinned : Pinned := { name := "ytbebdhjhlheboaa", sum := "3c0c3b9f3d0d3a556ffc682d6b5a5fec0628b1f30dfcfb413a22dbcbb0aaf9f2", checked := Try.checked }
namespace Rows
def none {H : Type} : Left H := { results := [], args := [] }

/-- 'laws.FnExactFixPartial': WHATEVER THE INPUT: true; the input reads as it did. -/
def fnExactFixPartialSpec : ChangeSpec := { name := "fnExactFixPartial", fn := fun _ => fun
  | [d1, d2] => { results := [.lit (.bool true)], args := [d1, d2] }
  | _ => none }
def fnExactFixPartialRow : OpenClaim := { program := "ytbebdhjhlheboaa", sum := "3c0c3b9f3d0d3a556ffc682d6b5a5fec0628b1f30dfcfb413a22dbcbb0aaf9f2", func := "loop.example/cuttingplanes/laws.FnExactFixPartial", spec := "fnExactFixPartial", unfollowed := true, recurses := true, apart := false }
def FnExactFixPartialSaid : Prop := fnExactFixPartialRow.holds Try.pinned (OpenSpec.ofChange fnExactFixPartialSpec)

/-- ITS FALSE NEIGHBOUR: 'it returns false'. Refute it at one input. -/
def fnExactFixPartialWrong : ChangeSpec := { name := "fnExactFixPartial", fn := fun _ => fun
  | [d1, d2] => { results := [.lit (.bool false)], args := [d1, d2] }
  | _ => none }
def FnExactFixPartialWrongFalsely : Prop := fnExactFixPartialRow.holds Try.pinned (OpenSpec.ofChange fnExactFixPartialWrong)

/-- 'laws.FnExactFixLiteral': WHATEVER THE INPUT: true; the input reads as it did. -/
def fnExactFixLiteralSpec : ChangeSpec := { name := "fnExactFixLiteral", fn := fun _ => fun
  | [d1, d2] => { results := [.lit (.bool true)], args := [d1, d2] }
  | _ => none }
def fnExactFixLiteralRow : OpenClaim := { program := "ytbebdhjhlheboaa", sum := "3c0c3b9f3d0d3a556ffc682d6b5a5fec0628b1f30dfcfb413a22dbcbb0aaf9f2", func := "loop.example/cuttingplanes/laws.FnExactFixLiteral", spec := "fnExactFixLiteral", unfollowed := true, recurses := true, apart := false }
def FnExactFixLiteralSaid : Prop := fnExactFixLiteralRow.holds Try.pinned (OpenSpec.ofChange fnExactFixLiteralSpec)

/-- ITS FALSE NEIGHBOUR: 'it returns false'. Refute it at one input. -/
def fnExactFixLiteralWrong : ChangeSpec := { name := "fnExactFixLiteral", fn := fun _ => fun
  | [d1, d2] => { results := [.lit (.bool false)], args := [d1, d2] }
  | _ => none }
def FnExactFixLiteralWrongFalsely : Prop := fnExactFixLiteralRow.holds Try.pinned (OpenSpec.ofChange fnExactFixLiteralWrong)

/-- 'laws.FnFixPartial': WHATEVER THE INPUT: true; the input reads as it did. -/
def fnFixPartialSpec : ChangeSpec := { name := "fnFixPartial", fn := fun _ => fun
  | [d1, d2] => { results := [.lit (.bool true)], args := [d1, d2] }
  | _ => none }
def fnFixPartialRow : OpenClaim := { program := "ytbebdhjhlheboaa", sum := "3c0c3b9f3d0d3a556ffc682d6b5a5fec0628b1f30dfcfb413a22dbcbb0aaf9f2", func := "loop.example/cuttingplanes/laws.FnFixPartial", spec := "fnFixPartial", unfollowed := true, recurses := true, apart := false }
def FnFixPartialSaid : Prop := fnFixPartialRow.holds Try.pinned (OpenSpec.ofChange fnFixPartialSpec)

/-- ITS FALSE NEIGHBOUR: 'it returns false'. Refute it at one input. -/
def fnFixPartialWrong : ChangeSpec := { name := "fnFixPartial", fn := fun _ => fun
  | [d1, d2] => { results := [.lit (.bool false)], args := [d1, d2] }
  | _ => none }
def FnFixPartialWrongFalsely : Prop := fnFixPartialRow.holds Try.pinned (OpenSpec.ofChange fnFixPartialWrong)

/-- 'laws.FnFixOrder': WHATEVER THE INPUT: true; the input reads as it did. -/
def fnFixOrderSpec : ChangeSpec := { name := "fnFixOrder", fn := fun _ => fun
  | [d1, d2] => { results := [.lit (.bool true)], args := [d1, d2] }
  | _ => none }
def fnFixOrderRow : OpenClaim := { program := "ytbebdhjhlheboaa", sum := "3c0c3b9f3d0d3a556ffc682d6b5a5fec0628b1f30dfcfb413a22dbcbb0aaf9f2", func := "loop.example/cuttingplanes/laws.FnFixOrder", spec := "fnFixOrder", unfollowed := true, recurses := true, apart := false }
def FnFixOrderSaid : Prop := fnFixOrderRow.holds Try.pinned (OpenSpec.ofChange fnFixOrderSpec)

/-- ITS FALSE NEIGHBOUR: 'it returns false'. Refute it at one input. -/
def fnFixOrderWrong : ChangeSpec := { name := "fnFixOrder", fn := fun _ => fun
  | [d1, d2] => { results := [.lit (.bool false)], args := [d1, d2] }
  | _ => none }
def FnFixOrderWrongFalsely : Prop := fnFixOrderRow.holds Try.pinned (OpenSpec.ofChange fnFixOrderWrong)

/-- 'laws.FnExactClausesOf': WHATEVER THE INPUT: true; the input reads as it did. -/
def fnExactClausesOfSpec : ChangeSpec := { name := "fnExactClausesOf", fn := fun _ => fun
  | [d] => { results := [.lit (.bool true)], args := [d] }
  | _ => none }
def fnExactClausesOfRow : OpenClaim := { program := "ytbebdhjhlheboaa", sum := "3c0c3b9f3d0d3a556ffc682d6b5a5fec0628b1f30dfcfb413a22dbcbb0aaf9f2", func := "loop.example/cuttingplanes/laws.FnExactClausesOf", spec := "fnExactClausesOf", unfollowed := true, recurses := true, apart := false }
def FnExactClausesOfSaid : Prop := fnExactClausesOfRow.holds Try.pinned (OpenSpec.ofChange fnExactClausesOfSpec)

/-- ITS FALSE NEIGHBOUR: 'it returns false'. Refute it at one input. -/
def fnExactClausesOfWrong : ChangeSpec := { name := "fnExactClausesOf", fn := fun _ => fun
  | [d] => { results := [.lit (.bool false)], args := [d] }
  | _ => none }
def FnExactClausesOfWrongFalsely : Prop := fnExactClausesOfRow.holds Try.pinned (OpenSpec.ofChange fnExactClausesOfWrong)

/-- 'laws.FnClausesOf': WHATEVER THE INPUT: true; the input reads as it did. -/
def fnClausesOfSpec : ChangeSpec := { name := "fnClausesOf", fn := fun _ => fun
  | [d1, d2] => { results := [.lit (.bool true)], args := [d1, d2] }
  | _ => none }
def fnClausesOfRow : OpenClaim := { program := "ytbebdhjhlheboaa", sum := "3c0c3b9f3d0d3a556ffc682d6b5a5fec0628b1f30dfcfb413a22dbcbb0aaf9f2", func := "loop.example/cuttingplanes/laws.FnClausesOf", spec := "fnClausesOf", unfollowed := true, recurses := true, apart := false }
def FnClausesOfSaid : Prop := fnClausesOfRow.holds Try.pinned (OpenSpec.ofChange fnClausesOfSpec)

/-- ITS FALSE NEIGHBOUR: 'it returns false'. Refute it at one input. -/
def fnClausesOfWrong : ChangeSpec := { name := "fnClausesOf", fn := fun _ => fun
  | [d1, d2] => { results := [.lit (.bool false)], args := [d1, d2] }
  | _ => none }
def FnClausesOfWrongFalsely : Prop := fnClausesOfRow.holds Try.pinned (OpenSpec.ofChange fnClausesOfWrong)

/-- 'laws.FnExactPureLiterals': WHATEVER THE INPUT: true; the input reads as it did. -/
def fnExactPureLiteralsSpec : ChangeSpec := { name := "fnExactPureLiterals", fn := fun _ => fun
  | [d] => { results := [.lit (.bool true)], args := [d] }
  | _ => none }
def fnExactPureLiteralsRow : OpenClaim := { program := "ytbebdhjhlheboaa", sum := "3c0c3b9f3d0d3a556ffc682d6b5a5fec0628b1f30dfcfb413a22dbcbb0aaf9f2", func := "loop.example/cuttingplanes/laws.FnExactPureLiterals", spec := "fnExactPureLiterals", unfollowed := true, recurses := true, apart := false }
def FnExactPureLiteralsSaid : Prop := fnExactPureLiteralsRow.holds Try.pinned (OpenSpec.ofChange fnExactPureLiteralsSpec)

/-- ITS FALSE NEIGHBOUR: 'it returns false'. Refute it at one input. -/
def fnExactPureLiteralsWrong : ChangeSpec := { name := "fnExactPureLiterals", fn := fun _ => fun
  | [d] => { results := [.lit (.bool false)], args := [d] }
  | _ => none }
def FnExactPureLiteralsWrongFalsely : Prop := fnExactPureLiteralsRow.holds Try.pinned (OpenSpec.ofChange fnExactPureLiteralsWrong)

/-- 'laws.FnExactRemoveCovered': WHATEVER THE INPUT: true; the input reads as it did. -/
def fnExactRemoveCoveredSpec : ChangeSpec := { name := "fnExactRemoveCovered", fn := fun _ => fun
  | [d] => { results := [.lit (.bool true)], args := [d] }
  | _ => none }
def fnExactRemoveCoveredRow : OpenClaim := { program := "ytbebdhjhlheboaa", sum := "3c0c3b9f3d0d3a556ffc682d6b5a5fec0628b1f30dfcfb413a22dbcbb0aaf9f2", func := "loop.example/cuttingplanes/laws.FnExactRemoveCovered", spec := "fnExactRemoveCovered", unfollowed := true, recurses := true, apart := false }
def FnExactRemoveCoveredSaid : Prop := fnExactRemoveCoveredRow.holds Try.pinned (OpenSpec.ofChange fnExactRemoveCoveredSpec)

/-- ITS FALSE NEIGHBOUR: 'it returns false'. Refute it at one input. -/
def fnExactRemoveCoveredWrong : ChangeSpec := { name := "fnExactRemoveCovered", fn := fun _ => fun
  | [d] => { results := [.lit (.bool false)], args := [d] }
  | _ => none }
def FnExactRemoveCoveredWrongFalsely : Prop := fnExactRemoveCoveredRow.holds Try.pinned (OpenSpec.ofChange fnExactRemoveCoveredWrong)

/- THE SECOND FORM. 'bulk': how many values and letters a reading holds, each counted each time it is reached (what is shared counts as often as it is met; a slice's spare places count too). A statement '..UptoSaid' is the law's where the arguments, and the package variables that the reading takes, are together of bulk at most 1048576: NARROWER than '..Said'. Prove '..Said' where nothing that the law and all that it calls make is longer than what came in: it says more and counts as full. Else prove '..UptoSaid'. A law counts once. -/
mutual
def uptoBulk {H : Type} : DataW H → Nat
  | .lit (.string bytes) => bytes.length + 1
  | .lit _ => 1
  | .nil => 1
  | .ptr d => uptoBulk d + 1
  | .slice elems spare => uptoBulkAll elems + uptoBulkAll spare + 1
  | .agg parts => uptoBulkAll parts + 1
  | .iface _ d => uptoBulk d + 1
  | .map entries => uptoBulkEntries entries + 1
  | .held _ => 1
def uptoBulkAll {H : Type} : List (DataW H) → Nat
  | [] => 0
  | d :: r => uptoBulk d + uptoBulkAll r
def uptoBulkEntries {H : Type} : List (Lit × DataW H) → Nat
  | [] => 0
  | x :: r => uptoBulkEntry x + uptoBulkEntries r
def uptoBulkEntry {H : Type} : Lit × DataW H → Nat
  | (.string bytes, d) => bytes.length + uptoBulk d + 1
  | (_, d) => uptoBulk d + 1
 end
def uptoSmall : (H : Type) → List (DataW H) → Bool := fun _ ds => decide (uptoBulkAll ds ≤ 1048576)
def OpenSpec.upto (s : _root_.Go.ChangeSpec) : _root_.Go.OpenSpec := { _root_.Go.OpenSpec.ofChange s with cond := some uptoSmall }

/-- 'laws.FnExactFixPartial', WHERE WHAT IT READS IS OF BULK AT MOST 1048576: true; the input reads as it did. -/
def fnExactFixPartialUptoRow : OpenClaim := { program := "ytbebdhjhlheboaa", sum := "3c0c3b9f3d0d3a556ffc682d6b5a5fec0628b1f30dfcfb413a22dbcbb0aaf9f2", func := "loop.example/cuttingplanes/laws.FnExactFixPartial", spec := "fnExactFixPartial", unfollowed := true, recurses := true, apart := false, narrowed := true }
def FnExactFixPartialUptoSaid : Prop := fnExactFixPartialUptoRow.holds Try.pinned (OpenSpec.upto fnExactFixPartialSpec)

/-- 'laws.FnExactFixLiteral', WHERE WHAT IT READS IS OF BULK AT MOST 1048576: true; the input reads as it did. -/
def fnExactFixLiteralUptoRow : OpenClaim := { program := "ytbebdhjhlheboaa", sum := "3c0c3b9f3d0d3a556ffc682d6b5a5fec0628b1f30dfcfb413a22dbcbb0aaf9f2", func := "loop.example/cuttingplanes/laws.FnExactFixLiteral", spec := "fnExactFixLiteral", unfollowed := true, recurses := true, apart := false, narrowed := true }
def FnExactFixLiteralUptoSaid : Prop := fnExactFixLiteralUptoRow.holds Try.pinned (OpenSpec.upto fnExactFixLiteralSpec)

/-- 'laws.FnFixPartial', WHERE WHAT IT READS IS OF BULK AT MOST 1048576: true; the input reads as it did. -/
def fnFixPartialUptoRow : OpenClaim := { program := "ytbebdhjhlheboaa", sum := "3c0c3b9f3d0d3a556ffc682d6b5a5fec0628b1f30dfcfb413a22dbcbb0aaf9f2", func := "loop.example/cuttingplanes/laws.FnFixPartial", spec := "fnFixPartial", unfollowed := true, recurses := true, apart := false, narrowed := true }
def FnFixPartialUptoSaid : Prop := fnFixPartialUptoRow.holds Try.pinned (OpenSpec.upto fnFixPartialSpec)

/-- 'laws.FnFixOrder', WHERE WHAT IT READS IS OF BULK AT MOST 1048576: true; the input reads as it did. -/
def fnFixOrderUptoRow : OpenClaim := { program := "ytbebdhjhlheboaa", sum := "3c0c3b9f3d0d3a556ffc682d6b5a5fec0628b1f30dfcfb413a22dbcbb0aaf9f2", func := "loop.example/cuttingplanes/laws.FnFixOrder", spec := "fnFixOrder", unfollowed := true, recurses := true, apart := false, narrowed := true }
def FnFixOrderUptoSaid : Prop := fnFixOrderUptoRow.holds Try.pinned (OpenSpec.upto fnFixOrderSpec)

/-- 'laws.FnExactClausesOf', WHERE WHAT IT READS IS OF BULK AT MOST 1048576: true; the input reads as it did. -/
def fnExactClausesOfUptoRow : OpenClaim := { program := "ytbebdhjhlheboaa", sum := "3c0c3b9f3d0d3a556ffc682d6b5a5fec0628b1f30dfcfb413a22dbcbb0aaf9f2", func := "loop.example/cuttingplanes/laws.FnExactClausesOf", spec := "fnExactClausesOf", unfollowed := true, recurses := true, apart := false, narrowed := true }
def FnExactClausesOfUptoSaid : Prop := fnExactClausesOfUptoRow.holds Try.pinned (OpenSpec.upto fnExactClausesOfSpec)

/-- 'laws.FnClausesOf', WHERE WHAT IT READS IS OF BULK AT MOST 1048576: true; the input reads as it did. -/
def fnClausesOfUptoRow : OpenClaim := { program := "ytbebdhjhlheboaa", sum := "3c0c3b9f3d0d3a556ffc682d6b5a5fec0628b1f30dfcfb413a22dbcbb0aaf9f2", func := "loop.example/cuttingplanes/laws.FnClausesOf", spec := "fnClausesOf", unfollowed := true, recurses := true, apart := false, narrowed := true }
def FnClausesOfUptoSaid : Prop := fnClausesOfUptoRow.holds Try.pinned (OpenSpec.upto fnClausesOfSpec)

/-- 'laws.FnExactPureLiterals', WHERE WHAT IT READS IS OF BULK AT MOST 1048576: true; the input reads as it did. -/
def fnExactPureLiteralsUptoRow : OpenClaim := { program := "ytbebdhjhlheboaa", sum := "3c0c3b9f3d0d3a556ffc682d6b5a5fec0628b1f30dfcfb413a22dbcbb0aaf9f2", func := "loop.example/cuttingplanes/laws.FnExactPureLiterals", spec := "fnExactPureLiterals", unfollowed := true, recurses := true, apart := false, narrowed := true }
def FnExactPureLiteralsUptoSaid : Prop := fnExactPureLiteralsUptoRow.holds Try.pinned (OpenSpec.upto fnExactPureLiteralsSpec)

/-- 'laws.FnExactRemoveCovered', WHERE WHAT IT READS IS OF BULK AT MOST 1048576: true; the input reads as it did. -/
def fnExactRemoveCoveredUptoRow : OpenClaim := { program := "ytbebdhjhlheboaa", sum := "3c0c3b9f3d0d3a556ffc682d6b5a5fec0628b1f30dfcfb413a22dbcbb0aaf9f2", func := "loop.example/cuttingplanes/laws.FnExactRemoveCovered", spec := "fnExactRemoveCovered", unfollowed := true, recurses := true, apart := false, narrowed := true }
def FnExactRemoveCoveredUptoSaid : Prop := fnExactRemoveCoveredUptoRow.holds Try.pinned (OpenSpec.upto fnExactRemoveCoveredSpec)

end Rows
end Go.Proofs.Ytbebdhjhlheboaa
