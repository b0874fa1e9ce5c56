/-
  No cell of these rows narrows 'for every input' (looked for: loops, veiled, ifaces, maps, wideKeys, modest, calm, conditions, laid).
  DERIVED. THE GIVEN ROWS OF THIS SEAT. 7 by the template 'for every input the law returns true; each argument reads behind the call as it read before'; 0 by the template 'total and deterministic' (their statements: YtkahehfcedcpaaaTotals.lean).
  GIVEN WITH THE SEED: the statements are not yours to turn. If you find one false, say at which input.
  Laid BY PROGRAM, IN A SANDBOX (cutbox-rows.mjs): the forced cells as the released guide's own fill.sh prints them over the translation 79c8fae98e88d50a… (all of the seat's roots in one cut). By AI agents, Wed Nov 11 2026. No macro, syntax, notation, axiom, sorry.
-/
import Derived.Test.YtkahehfcedcpaaaChecked
import GoSem.Claim
import GoSem.ClaimJoined
import GoSem.ClaimMapViews
import Derived.JoinedTies
import Derived.KernelRfl
namespace Go.Proofs.Ytkahehfcedcpaaa
/- THE CELL 'sum', in the pinned program and in every row, IS THE sha256 OF THE DUMP (.gsa) THAT YtkahehfcedcpaaaProg.lean LOADS. Nothing in Lean hashes anything: it is a label: what it is worth is what the hold of that sum in a sandbox is worth. -/
noncomputable def Try.pinned : Pinned := { name := "ytkahehfcedcpaaa", sum := "79c8fae98e88d50a9cf15d939d865c7ac9c6474829dc77fe2b122a5f02dc06f3", checked := Try.checked }
namespace Rows
def none {H : Type} : Left H := { results := [], args := [] }

/-- 'laws.FnExactConstraintValid': WHATEVER THE INPUT: true; the input reads as it did. -/
def fnExactConstraintValidSpec : ChangeSpec := { name := "fnExactConstraintValid", fn := fun _ => fun
  | [d] => { results := [.lit (.bool true)], args := [d] }
  | _ => none }
def fnExactConstraintValidRow : OpenClaim := { program := "ytkahehfcedcpaaa", sum := "79c8fae98e88d50a9cf15d939d865c7ac9c6474829dc77fe2b122a5f02dc06f3", func := "loop.example/cuttingplanes/laws.FnExactConstraintValid", spec := "fnExactConstraintValid", apart := false }
def FnExactConstraintValidSaid : Prop := fnExactConstraintValidRow.holds Try.pinned (OpenSpec.ofChange fnExactConstraintValidSpec)

/-- ITS FALSE NEIGHBOUR: 'it returns false'. Refute it at one input. -/
def fnExactConstraintValidWrong : ChangeSpec := { name := "fnExactConstraintValid", fn := fun _ => fun
  | [d] => { results := [.lit (.bool false)], args := [d] }
  | _ => none }
def FnExactConstraintValidWrongFalsely : Prop := fnExactConstraintValidRow.holds Try.pinned (OpenSpec.ofChange fnExactConstraintValidWrong)

/-- 'laws.FnExactConstraintSame': WHATEVER THE INPUT: true; the input reads as it did. -/
def fnExactConstraintSameSpec : ChangeSpec := { name := "fnExactConstraintSame", fn := fun _ => fun
  | [d1, d2] => { results := [.lit (.bool true)], args := [d1, d2] }
  | _ => none }
def fnExactConstraintSameRow : OpenClaim := { program := "ytkahehfcedcpaaa", sum := "79c8fae98e88d50a9cf15d939d865c7ac9c6474829dc77fe2b122a5f02dc06f3", func := "loop.example/cuttingplanes/laws.FnExactConstraintSame", spec := "fnExactConstraintSame", apart := false }
def FnExactConstraintSameSaid : Prop := fnExactConstraintSameRow.holds Try.pinned (OpenSpec.ofChange fnExactConstraintSameSpec)

/-- ITS FALSE NEIGHBOUR: 'it returns false'. Refute it at one input. -/
def fnExactConstraintSameWrong : ChangeSpec := { name := "fnExactConstraintSame", fn := fun _ => fun
  | [d1, d2] => { results := [.lit (.bool false)], args := [d1, d2] }
  | _ => none }
def FnExactConstraintSameWrongFalsely : Prop := fnExactConstraintSameRow.holds Try.pinned (OpenSpec.ofChange fnExactConstraintSameWrong)

/-- 'laws.FnExactNormalForm': WHATEVER THE INPUT: true; the input reads as it did. -/
def fnExactNormalFormSpec : ChangeSpec := { name := "fnExactNormalForm", fn := fun _ => fun
  | [d1, d2] => { results := [.lit (.bool true)], args := [d1, d2] }
  | _ => none }
def fnExactNormalFormRow : OpenClaim := { program := "ytkahehfcedcpaaa", sum := "79c8fae98e88d50a9cf15d939d865c7ac9c6474829dc77fe2b122a5f02dc06f3", func := "loop.example/cuttingplanes/laws.FnExactNormalForm", spec := "fnExactNormalForm", unfollowed := true, recurses := true, apart := false }
def FnExactNormalFormSaid : Prop := fnExactNormalFormRow.holds Try.pinned (OpenSpec.ofChange fnExactNormalFormSpec)

/-- ITS FALSE NEIGHBOUR: 'it returns false'. Refute it at one input. -/
def fnExactNormalFormWrong : ChangeSpec := { name := "fnExactNormalForm", fn := fun _ => fun
  | [d1, d2] => { results := [.lit (.bool false)], args := [d1, d2] }
  | _ => none }
def FnExactNormalFormWrongFalsely : Prop := fnExactNormalFormRow.holds Try.pinned (OpenSpec.ofChange fnExactNormalFormWrong)

/-- 'laws.FnExactEvalConstraint': WHATEVER THE INPUT: true; the input reads as it did. -/
def fnExactEvalConstraintSpec : ChangeSpec := { name := "fnExactEvalConstraint", fn := fun _ => fun
  | [d1, d2] => { results := [.lit (.bool true)], args := [d1, d2] }
  | _ => none }
def fnExactEvalConstraintRow : OpenClaim := { program := "ytkahehfcedcpaaa", sum := "79c8fae98e88d50a9cf15d939d865c7ac9c6474829dc77fe2b122a5f02dc06f3", func := "loop.example/cuttingplanes/laws.FnExactEvalConstraint", spec := "fnExactEvalConstraint", unfollowed := true, recurses := true, apart := false }
def FnExactEvalConstraintSaid : Prop := fnExactEvalConstraintRow.holds Try.pinned (OpenSpec.ofChange fnExactEvalConstraintSpec)

/-- ITS FALSE NEIGHBOUR: 'it returns false'. Refute it at one input. -/
def fnExactEvalConstraintWrong : ChangeSpec := { name := "fnExactEvalConstraint", fn := fun _ => fun
  | [d1, d2] => { results := [.lit (.bool false)], args := [d1, d2] }
  | _ => none }
def FnExactEvalConstraintWrongFalsely : Prop := fnExactEvalConstraintRow.holds Try.pinned (OpenSpec.ofChange fnExactEvalConstraintWrong)

/-- 'laws.FnExactNegateConstraint': WHATEVER THE INPUT: true; the input reads as it did. -/
def fnExactNegateConstraintSpec : ChangeSpec := { name := "fnExactNegateConstraint", fn := fun _ => fun
  | [d] => { results := [.lit (.bool true)], args := [d] }
  | _ => none }
def fnExactNegateConstraintRow : OpenClaim := { program := "ytkahehfcedcpaaa", sum := "79c8fae98e88d50a9cf15d939d865c7ac9c6474829dc77fe2b122a5f02dc06f3", func := "loop.example/cuttingplanes/laws.FnExactNegateConstraint", spec := "fnExactNegateConstraint", unfollowed := true, recurses := true, apart := false }
def FnExactNegateConstraintSaid : Prop := fnExactNegateConstraintRow.holds Try.pinned (OpenSpec.ofChange fnExactNegateConstraintSpec)

/-- ITS FALSE NEIGHBOUR: 'it returns false'. Refute it at one input. -/
def fnExactNegateConstraintWrong : ChangeSpec := { name := "fnExactNegateConstraint", fn := fun _ => fun
  | [d] => { results := [.lit (.bool false)], args := [d] }
  | _ => none }
def FnExactNegateConstraintWrongFalsely : Prop := fnExactNegateConstraintRow.holds Try.pinned (OpenSpec.ofChange fnExactNegateConstraintWrong)

/-- 'laws.FnExactTotalCoef': WHATEVER THE INPUT: true; the input reads as it did. -/
def fnExactTotalCoefSpec : ChangeSpec := { name := "fnExactTotalCoef", fn := fun _ => fun
  | [d] => { results := [.lit (.bool true)], args := [d] }
  | _ => none }
def fnExactTotalCoefRow : OpenClaim := { program := "ytkahehfcedcpaaa", sum := "79c8fae98e88d50a9cf15d939d865c7ac9c6474829dc77fe2b122a5f02dc06f3", func := "loop.example/cuttingplanes/laws.FnExactTotalCoef", spec := "fnExactTotalCoef", unfollowed := true, recurses := true, apart := false }
def FnExactTotalCoefSaid : Prop := fnExactTotalCoefRow.holds Try.pinned (OpenSpec.ofChange fnExactTotalCoefSpec)

/-- ITS FALSE NEIGHBOUR: 'it returns false'. Refute it at one input. -/
def fnExactTotalCoefWrong : ChangeSpec := { name := "fnExactTotalCoef", fn := fun _ => fun
  | [d] => { results := [.lit (.bool false)], args := [d] }
  | _ => none }
def FnExactTotalCoefWrongFalsely : Prop := fnExactTotalCoefRow.holds Try.pinned (OpenSpec.ofChange fnExactTotalCoefWrong)

/-- 'laws.FnExactConstraintFalse': WHATEVER THE INPUT: true; the input reads as it did. -/
def fnExactConstraintFalseSpec : ChangeSpec := { name := "fnExactConstraintFalse", fn := fun _ => fun
  | [d] => { results := [.lit (.bool true)], args := [d] }
  | _ => none }
def fnExactConstraintFalseRow : OpenClaim := { program := "ytkahehfcedcpaaa", sum := "79c8fae98e88d50a9cf15d939d865c7ac9c6474829dc77fe2b122a5f02dc06f3", func := "loop.example/cuttingplanes/laws.FnExactConstraintFalse", spec := "fnExactConstraintFalse", unfollowed := true, recurses := true, apart := false }
def FnExactConstraintFalseSaid : Prop := fnExactConstraintFalseRow.holds Try.pinned (OpenSpec.ofChange fnExactConstraintFalseSpec)

/-- ITS FALSE NEIGHBOUR: 'it returns false'. Refute it at one input. -/
def fnExactConstraintFalseWrong : ChangeSpec := { name := "fnExactConstraintFalse", fn := fun _ => fun
  | [d] => { results := [.lit (.bool false)], args := [d] }
  | _ => none }
def FnExactConstraintFalseWrongFalsely : Prop := fnExactConstraintFalseRow.holds Try.pinned (OpenSpec.ofChange fnExactConstraintFalseWrong)

/- THE SECOND FORM. 'bulk': how many values and letters a reading holds, each counted each time it is reached (what is shared counts as often as it is met; a slice's spare places count too). A statement '..UptoSaid' is the law's where the arguments, and the package variables that the reading takes, are together of bulk at most 1048576: NARROWER than '..Said'. Prove '..Said' where nothing that the law and all that it calls make is longer than what came in: it says more and counts as full. Else prove '..UptoSaid'. A law counts once. -/
mutual
def uptoBulk {H : Type} : DataW H → Nat
  | .lit (.string bytes) => bytes.length + 1
  | .lit _ => 1
  | .nil => 1
  | .ptr d => uptoBulk d + 1
  | .slice elems spare => uptoBulkAll elems + uptoBulkAll spare + 1
  | .agg parts => uptoBulkAll parts + 1
  | .iface _ d => uptoBulk d + 1
  | .map entries => uptoBulkEntries entries + 1
  | .held _ => 1
def uptoBulkAll {H : Type} : List (DataW H) → Nat
  | [] => 0
  | d :: r => uptoBulk d + uptoBulkAll r
def uptoBulkEntries {H : Type} : List (Lit × DataW H) → Nat
  | [] => 0
  | x :: r => uptoBulkEntry x + uptoBulkEntries r
def uptoBulkEntry {H : Type} : Lit × DataW H → Nat
  | (.string bytes, d) => bytes.length + uptoBulk d + 1
  | (_, d) => uptoBulk d + 1
 end
def uptoSmall : (H : Type) → List (DataW H) → Bool := fun _ ds => decide (uptoBulkAll ds ≤ 1048576)
def OpenSpec.upto (s : _root_.Go.ChangeSpec) : _root_.Go.OpenSpec := { _root_.Go.OpenSpec.ofChange s with cond := some uptoSmall }

/-- 'laws.FnExactConstraintValid', WHERE WHAT IT READS IS OF BULK AT MOST 1048576: true; the input reads as it did. -/
def fnExactConstraintValidUptoRow : OpenClaim := { program := "ytkahehfcedcpaaa", sum := "79c8fae98e88d50a9cf15d939d865c7ac9c6474829dc77fe2b122a5f02dc06f3", func := "loop.example/cuttingplanes/laws.FnExactConstraintValid", spec := "fnExactConstraintValid", apart := false, narrowed := true }
def FnExactConstraintValidUptoSaid : Prop := fnExactConstraintValidUptoRow.holds Try.pinned (OpenSpec.upto fnExactConstraintValidSpec)

/-- 'laws.FnExactConstraintSame', WHERE WHAT IT READS IS OF BULK AT MOST 1048576: true; the input reads as it did. -/
def fnExactConstraintSameUptoRow : OpenClaim := { program := "ytkahehfcedcpaaa", sum := "79c8fae98e88d50a9cf15d939d865c7ac9c6474829dc77fe2b122a5f02dc06f3", func := "loop.example/cuttingplanes/laws.FnExactConstraintSame", spec := "fnExactConstraintSame", apart := false, narrowed := true }
def FnExactConstraintSameUptoSaid : Prop := fnExactConstraintSameUptoRow.holds Try.pinned (OpenSpec.upto fnExactConstraintSameSpec)

/-- 'laws.FnExactNormalForm', WHERE WHAT IT READS IS OF BULK AT MOST 1048576: true; the input reads as it did. -/
def fnExactNormalFormUptoRow : OpenClaim := { program := "ytkahehfcedcpaaa", sum := "79c8fae98e88d50a9cf15d939d865c7ac9c6474829dc77fe2b122a5f02dc06f3", func := "loop.example/cuttingplanes/laws.FnExactNormalForm", spec := "fnExactNormalForm", unfollowed := true, recurses := true, apart := false, narrowed := true }
def FnExactNormalFormUptoSaid : Prop := fnExactNormalFormUptoRow.holds Try.pinned (OpenSpec.upto fnExactNormalFormSpec)

/-- 'laws.FnExactEvalConstraint', WHERE WHAT IT READS IS OF BULK AT MOST 1048576: true; the input reads as it did. -/
def fnExactEvalConstraintUptoRow : OpenClaim := { program := "ytkahehfcedcpaaa", sum := "79c8fae98e88d50a9cf15d939d865c7ac9c6474829dc77fe2b122a5f02dc06f3", func := "loop.example/cuttingplanes/laws.FnExactEvalConstraint", spec := "fnExactEvalConstraint", unfollowed := true, recurses := true, apart := false, narrowed := true }
def FnExactEvalConstraintUptoSaid : Prop := fnExactEvalConstraintUptoRow.holds Try.pinned (OpenSpec.upto fnExactEvalConstraintSpec)

/-- 'laws.FnExactNegateConstraint', WHERE WHAT IT READS IS OF BULK AT MOST 1048576: true; the input reads as it did. -/
def fnExactNegateConstraintUptoRow : OpenClaim := { program := "ytkahehfcedcpaaa", sum := "79c8fae98e88d50a9cf15d939d865c7ac9c6474829dc77fe2b122a5f02dc06f3", func := "loop.example/cuttingplanes/laws.FnExactNegateConstraint", spec := "fnExactNegateConstraint", unfollowed := true, recurses := true, apart := false, narrowed := true }
def FnExactNegateConstraintUptoSaid : Prop := fnExactNegateConstraintUptoRow.holds Try.pinned (OpenSpec.upto fnExactNegateConstraintSpec)

/-- 'laws.FnExactTotalCoef', WHERE WHAT IT READS IS OF BULK AT MOST 1048576: true; the input reads as it did. -/
def fnExactTotalCoefUptoRow : OpenClaim := { program := "ytkahehfcedcpaaa", sum := "79c8fae98e88d50a9cf15d939d865c7ac9c6474829dc77fe2b122a5f02dc06f3", func := "loop.example/cuttingplanes/laws.FnExactTotalCoef", spec := "fnExactTotalCoef", unfollowed := true, recurses := true, apart := false, narrowed := true }
def FnExactTotalCoefUptoSaid : Prop := fnExactTotalCoefUptoRow.holds Try.pinned (OpenSpec.upto fnExactTotalCoefSpec)

/-- 'laws.FnExactConstraintFalse', WHERE WHAT IT READS IS OF BULK AT MOST 1048576: true; the input reads as it did. -/
def fnExactConstraintFalseUptoRow : OpenClaim := { program := "ytkahehfcedcpaaa", sum := "79c8fae98e88d50a9cf15d939d865c7ac9c6474829dc77fe2b122a5f02dc06f3", func := "loop.example/cuttingplanes/laws.FnExactConstraintFalse", spec := "fnExactConstraintFalse", unfollowed := true, recurses := true, apart := false, narrowed := true }
def FnExactConstraintFalseUptoSaid : Prop := fnExactConstraintFalseUptoRow.holds Try.pinned (OpenSpec.upto fnExactConstraintFalseSpec)

end Rows
end Go.Proofs.Ytkahehfcedcpaaa
