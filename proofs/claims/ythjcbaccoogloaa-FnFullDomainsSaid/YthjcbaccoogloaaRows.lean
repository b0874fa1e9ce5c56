/-
  No cell of these rows narrows 'for every input' (looked for: loops, veiled, ifaces, maps, wideKeys, modest, calm, conditions, laid).
  DERIVED. THE GIVEN ROWS OF THIS SEAT. 9 by the template 'for every input the law returns true; each argument reads behind the call as it read before'; 0 by the template 'total and deterministic' (their statements: YthjcbaccoogloaaTotals.lean).
  GIVEN WITH THE SEED: the statements are not yours to turn. If you find one false, say at which input.
  Laid BY PROGRAM, IN A SANDBOX (cutbox-rows.mjs): the forced cells as the released guide's own fill.sh prints them over the translation cd9b444949c56899… (all of the seat's roots in one cut). By AI agents, Wed Nov 11 2026. No macro, syntax, notation, axiom, sorry.
-/
import Derived.Test.YthjcbaccoogloaaChecked
import GoSem.Claim
import GoSem.ClaimJoined
import GoSem.ClaimMapViews
import Derived.JoinedTies
import Derived.KernelRfl
namespace Go.Proofs.Ythjcbaccoogloaa
/- THE CELL 'sum', in the pinned program and in every row, IS THE sha256 OF THE DUMP (.gsa) THAT YthjcbaccoogloaaProg.lean LOADS. Nothing in Lean hashes anything: it is a label: what it is worth is what the hold of that sum in a sandbox is worth. -/
noncomputable def Try.pinned : Pinned := { name := "ythjcbaccoogloaa", sum := "cd9b444949c5689951695132ec4ea5e2c8aa5616d108fd8d959fe51748fad749", checked := Try.checked }
namespace Rows
def none {H : Type} : Left H := { results := [], args := [] }

/-- 'laws.FnSolvesModel': WHATEVER THE INPUT: true; the input reads as it did. -/
def fnSolvesModelSpec : ChangeSpec := { name := "fnSolvesModel", fn := fun _ => fun
  | [d] => { results := [.lit (.bool true)], args := [d] }
  | _ => none }
def fnSolvesModelRow : OpenClaim := { program := "ythjcbaccoogloaa", sum := "cd9b444949c5689951695132ec4ea5e2c8aa5616d108fd8d959fe51748fad749", func := "loop.example/cuttingplanes/laws.FnSolvesModel", spec := "fnSolvesModel", unfollowed := true, recurses := true, apart := false }
def FnSolvesModelSaid : Prop := fnSolvesModelRow.holds Try.pinned (OpenSpec.ofChange fnSolvesModelSpec)

/-- ITS FALSE NEIGHBOUR: 'it returns false'. Refute it at one input. -/
def fnSolvesModelWrong : ChangeSpec := { name := "fnSolvesModel", fn := fun _ => fun
  | [d] => { results := [.lit (.bool false)], args := [d] }
  | _ => none }
def FnSolvesModelWrongFalsely : Prop := fnSolvesModelRow.holds Try.pinned (OpenSpec.ofChange fnSolvesModelWrong)

/-- 'laws.FnRuleDifferent': WHATEVER THE INPUT: true; the input reads as it did. -/
def fnRuleDifferentSpec : ChangeSpec := { name := "fnRuleDifferent", fn := fun _ => fun
  | [d] => { results := [.lit (.bool true)], args := [d] }
  | _ => none }
def fnRuleDifferentRow : OpenClaim := { program := "ythjcbaccoogloaa", sum := "cd9b444949c5689951695132ec4ea5e2c8aa5616d108fd8d959fe51748fad749", func := "loop.example/cuttingplanes/laws.FnRuleDifferent", spec := "fnRuleDifferent", unfollowed := true, recurses := true, apart := false }
def FnRuleDifferentSaid : Prop := fnRuleDifferentRow.holds Try.pinned (OpenSpec.ofChange fnRuleDifferentSpec)

/-- ITS FALSE NEIGHBOUR: 'it returns false'. Refute it at one input. -/
def fnRuleDifferentWrong : ChangeSpec := { name := "fnRuleDifferent", fn := fun _ => fun
  | [d] => { results := [.lit (.bool false)], args := [d] }
  | _ => none }
def FnRuleDifferentWrongFalsely : Prop := fnRuleDifferentRow.holds Try.pinned (OpenSpec.ofChange fnRuleDifferentWrong)

/-- 'laws.FnRuleLess': WHATEVER THE INPUT: true; the input reads as it did. -/
def fnRuleLessSpec : ChangeSpec := { name := "fnRuleLess", fn := fun _ => fun
  | [d] => { results := [.lit (.bool true)], args := [d] }
  | _ => none }
def fnRuleLessRow : OpenClaim := { program := "ythjcbaccoogloaa", sum := "cd9b444949c5689951695132ec4ea5e2c8aa5616d108fd8d959fe51748fad749", func := "loop.example/cuttingplanes/laws.FnRuleLess", spec := "fnRuleLess", unfollowed := true, recurses := true, apart := false }
def FnRuleLessSaid : Prop := fnRuleLessRow.holds Try.pinned (OpenSpec.ofChange fnRuleLessSpec)

/-- ITS FALSE NEIGHBOUR: 'it returns false'. Refute it at one input. -/
def fnRuleLessWrong : ChangeSpec := { name := "fnRuleLess", fn := fun _ => fun
  | [d] => { results := [.lit (.bool false)], args := [d] }
  | _ => none }
def FnRuleLessWrongFalsely : Prop := fnRuleLessRow.holds Try.pinned (OpenSpec.ofChange fnRuleLessWrong)

/-- 'laws.FnRuleLinear': WHATEVER THE INPUT: true; the input reads as it did. -/
def fnRuleLinearSpec : ChangeSpec := { name := "fnRuleLinear", fn := fun _ => fun
  | [d] => { results := [.lit (.bool true)], args := [d] }
  | _ => none }
def fnRuleLinearRow : OpenClaim := { program := "ythjcbaccoogloaa", sum := "cd9b444949c5689951695132ec4ea5e2c8aa5616d108fd8d959fe51748fad749", func := "loop.example/cuttingplanes/laws.FnRuleLinear", spec := "fnRuleLinear", unfollowed := true, recurses := true, apart := false }
def FnRuleLinearSaid : Prop := fnRuleLinearRow.holds Try.pinned (OpenSpec.ofChange fnRuleLinearSpec)

/-- ITS FALSE NEIGHBOUR: 'it returns false'. Refute it at one input. -/
def fnRuleLinearWrong : ChangeSpec := { name := "fnRuleLinear", fn := fun _ => fun
  | [d] => { results := [.lit (.bool false)], args := [d] }
  | _ => none }
def FnRuleLinearWrongFalsely : Prop := fnRuleLinearRow.holds Try.pinned (OpenSpec.ofChange fnRuleLinearWrong)

/-- 'laws.FnBoolVar': WHATEVER THE INPUT: true; the input reads as it did. -/
def fnBoolVarSpec : ChangeSpec := { name := "fnBoolVar", fn := fun _ => fun
  | [d1, d2] => { results := [.lit (.bool true)], args := [d1, d2] }
  | _ => none }
def fnBoolVarRow : OpenClaim := { program := "ythjcbaccoogloaa", sum := "cd9b444949c5689951695132ec4ea5e2c8aa5616d108fd8d959fe51748fad749", func := "loop.example/cuttingplanes/laws.FnBoolVar", spec := "fnBoolVar", unfollowed := true, recurses := true, apart := false }
def FnBoolVarSaid : Prop := fnBoolVarRow.holds Try.pinned (OpenSpec.ofChange fnBoolVarSpec)

/-- ITS FALSE NEIGHBOUR: 'it returns false'. Refute it at one input. -/
def fnBoolVarWrong : ChangeSpec := { name := "fnBoolVar", fn := fun _ => fun
  | [d1, d2] => { results := [.lit (.bool false)], args := [d1, d2] }
  | _ => none }
def FnBoolVarWrongFalsely : Prop := fnBoolVarRow.holds Try.pinned (OpenSpec.ofChange fnBoolVarWrong)

/-- 'laws.FnFullDomains': WHATEVER THE INPUT: true; the input reads as it did. -/
def fnFullDomainsSpec : ChangeSpec := { name := "fnFullDomains", fn := fun _ => fun
  | [d1, d2] => { results := [.lit (.bool true)], args := [d1, d2] }
  | _ => none }
def fnFullDomainsRow : OpenClaim := { program := "ythjcbaccoogloaa", sum := "cd9b444949c5689951695132ec4ea5e2c8aa5616d108fd8d959fe51748fad749", func := "loop.example/cuttingplanes/laws.FnFullDomains", spec := "fnFullDomains", unfollowed := true, recurses := true, apart := false }
def FnFullDomainsSaid : Prop := fnFullDomainsRow.holds Try.pinned (OpenSpec.ofChange fnFullDomainsSpec)

/-- ITS FALSE NEIGHBOUR: 'it returns false'. Refute it at one input. -/
def fnFullDomainsWrong : ChangeSpec := { name := "fnFullDomains", fn := fun _ => fun
  | [d1, d2] => { results := [.lit (.bool false)], args := [d1, d2] }
  | _ => none }
def FnFullDomainsWrongFalsely : Prop := fnFullDomainsRow.holds Try.pinned (OpenSpec.ofChange fnFullDomainsWrong)

/-- 'laws.FnDecodeValues': WHATEVER THE INPUT: true; the input reads as it did. -/
def fnDecodeValuesSpec : ChangeSpec := { name := "fnDecodeValues", fn := fun _ => fun
  | [d] => { results := [.lit (.bool true)], args := [d] }
  | _ => none }
def fnDecodeValuesRow : OpenClaim := { program := "ythjcbaccoogloaa", sum := "cd9b444949c5689951695132ec4ea5e2c8aa5616d108fd8d959fe51748fad749", func := "loop.example/cuttingplanes/laws.FnDecodeValues", spec := "fnDecodeValues", unfollowed := true, recurses := true, apart := false }
def FnDecodeValuesSaid : Prop := fnDecodeValuesRow.holds Try.pinned (OpenSpec.ofChange fnDecodeValuesSpec)

/-- ITS FALSE NEIGHBOUR: 'it returns false'. Refute it at one input. -/
def fnDecodeValuesWrong : ChangeSpec := { name := "fnDecodeValues", fn := fun _ => fun
  | [d] => { results := [.lit (.bool false)], args := [d] }
  | _ => none }
def FnDecodeValuesWrongFalsely : Prop := fnDecodeValuesRow.holds Try.pinned (OpenSpec.ofChange fnDecodeValuesWrong)

/-- 'laws.FnObjectiveValue': WHATEVER THE INPUT: true; the input reads as it did. -/
def fnObjectiveValueSpec : ChangeSpec := { name := "fnObjectiveValue", fn := fun _ => fun
  | [d] => { results := [.lit (.bool true)], args := [d] }
  | _ => none }
def fnObjectiveValueRow : OpenClaim := { program := "ythjcbaccoogloaa", sum := "cd9b444949c5689951695132ec4ea5e2c8aa5616d108fd8d959fe51748fad749", func := "loop.example/cuttingplanes/laws.FnObjectiveValue", spec := "fnObjectiveValue", unfollowed := true, recurses := true, apart := false }
def FnObjectiveValueSaid : Prop := fnObjectiveValueRow.holds Try.pinned (OpenSpec.ofChange fnObjectiveValueSpec)

/-- ITS FALSE NEIGHBOUR: 'it returns false'. Refute it at one input. -/
def fnObjectiveValueWrong : ChangeSpec := { name := "fnObjectiveValue", fn := fun _ => fun
  | [d] => { results := [.lit (.bool false)], args := [d] }
  | _ => none }
def FnObjectiveValueWrongFalsely : Prop := fnObjectiveValueRow.holds Try.pinned (OpenSpec.ofChange fnObjectiveValueWrong)

/-- 'laws.FnExactObjectiveValue': WHATEVER THE INPUT: true; the input reads as it did. -/
def fnExactObjectiveValueSpec : ChangeSpec := { name := "fnExactObjectiveValue", fn := fun _ => fun
  | [d1, d2, d3] => { results := [.lit (.bool true)], args := [d1, d2, d3] }
  | _ => none }
def fnExactObjectiveValueRow : OpenClaim := { program := "ythjcbaccoogloaa", sum := "cd9b444949c5689951695132ec4ea5e2c8aa5616d108fd8d959fe51748fad749", func := "loop.example/cuttingplanes/laws.FnExactObjectiveValue", spec := "fnExactObjectiveValue", unfollowed := true, recurses := true, apart := false }
def FnExactObjectiveValueSaid : Prop := fnExactObjectiveValueRow.holds Try.pinned (OpenSpec.ofChange fnExactObjectiveValueSpec)

/-- ITS FALSE NEIGHBOUR: 'it returns false'. Refute it at one input. -/
def fnExactObjectiveValueWrong : ChangeSpec := { name := "fnExactObjectiveValue", fn := fun _ => fun
  | [d1, d2, d3] => { results := [.lit (.bool false)], args := [d1, d2, d3] }
  | _ => none }
def FnExactObjectiveValueWrongFalsely : Prop := fnExactObjectiveValueRow.holds Try.pinned (OpenSpec.ofChange fnExactObjectiveValueWrong)

/- THE SECOND FORM. 'bulk': how many values and letters a reading holds, each counted each time it is reached (what is shared counts as often as it is met; a slice's spare places count too). A statement '..UptoSaid' is the law's where the arguments, and the package variables that the reading takes, are together of bulk at most 1048576: NARROWER than '..Said'. Prove '..Said' where nothing that the law and all that it calls make is longer than what came in: it says more and counts as full. Else prove '..UptoSaid'. A law counts once. -/
mutual
def uptoBulk {H : Type} : DataW H → Nat
  | .lit (.string bytes) => bytes.length + 1
  | .lit _ => 1
  | .nil => 1
  | .ptr d => uptoBulk d + 1
  | .slice elems spare => uptoBulkAll elems + uptoBulkAll spare + 1
  | .agg parts => uptoBulkAll parts + 1
  | .iface _ d => uptoBulk d + 1
  | .map entries => uptoBulkEntries entries + 1
  | .held _ => 1
def uptoBulkAll {H : Type} : List (DataW H) → Nat
  | [] => 0
  | d :: r => uptoBulk d + uptoBulkAll r
def uptoBulkEntries {H : Type} : List (Lit × DataW H) → Nat
  | [] => 0
  | x :: r => uptoBulkEntry x + uptoBulkEntries r
def uptoBulkEntry {H : Type} : Lit × DataW H → Nat
  | (.string bytes, d) => bytes.length + uptoBulk d + 1
  | (_, d) => uptoBulk d + 1
 end
def uptoSmall : (H : Type) → List (DataW H) → Bool := fun _ ds => decide (uptoBulkAll ds ≤ 1048576)
def OpenSpec.upto (s : _root_.Go.ChangeSpec) : _root_.Go.OpenSpec := { _root_.Go.OpenSpec.ofChange s with cond := some uptoSmall }

/-- 'laws.FnSolvesModel', WHERE WHAT IT READS IS OF BULK AT MOST 1048576: true; the input reads as it did. -/
def fnSolvesModelUptoRow : OpenClaim := { program := "ythjcbaccoogloaa", sum := "cd9b444949c5689951695132ec4ea5e2c8aa5616d108fd8d959fe51748fad749", func := "loop.example/cuttingplanes/laws.FnSolvesModel", spec := "fnSolvesModel", unfollowed := true, recurses := true, apart := false, narrowed := true }
def FnSolvesModelUptoSaid : Prop := fnSolvesModelUptoRow.holds Try.pinned (OpenSpec.upto fnSolvesModelSpec)

/-- 'laws.FnRuleDifferent', WHERE WHAT IT READS IS OF BULK AT MOST 1048576: true; the input reads as it did. -/
def fnRuleDifferentUptoRow : OpenClaim := { program := "ythjcbaccoogloaa", sum := "cd9b444949c5689951695132ec4ea5e2c8aa5616d108fd8d959fe51748fad749", func := "loop.example/cuttingplanes/laws.FnRuleDifferent", spec := "fnRuleDifferent", unfollowed := true, recurses := true, apart := false, narrowed := true }
def FnRuleDifferentUptoSaid : Prop := fnRuleDifferentUptoRow.holds Try.pinned (OpenSpec.upto fnRuleDifferentSpec)

/-- 'laws.FnRuleLess', WHERE WHAT IT READS IS OF BULK AT MOST 1048576: true; the input reads as it did. -/
def fnRuleLessUptoRow : OpenClaim := { program := "ythjcbaccoogloaa", sum := "cd9b444949c5689951695132ec4ea5e2c8aa5616d108fd8d959fe51748fad749", func := "loop.example/cuttingplanes/laws.FnRuleLess", spec := "fnRuleLess", unfollowed := true, recurses := true, apart := false, narrowed := true }
def FnRuleLessUptoSaid : Prop := fnRuleLessUptoRow.holds Try.pinned (OpenSpec.upto fnRuleLessSpec)

/-- 'laws.FnRuleLinear', WHERE WHAT IT READS IS OF BULK AT MOST 1048576: true; the input reads as it did. -/
def fnRuleLinearUptoRow : OpenClaim := { program := "ythjcbaccoogloaa", sum := "cd9b444949c5689951695132ec4ea5e2c8aa5616d108fd8d959fe51748fad749", func := "loop.example/cuttingplanes/laws.FnRuleLinear", spec := "fnRuleLinear", unfollowed := true, recurses := true, apart := false, narrowed := true }
def FnRuleLinearUptoSaid : Prop := fnRuleLinearUptoRow.holds Try.pinned (OpenSpec.upto fnRuleLinearSpec)

/-- 'laws.FnBoolVar', WHERE WHAT IT READS IS OF BULK AT MOST 1048576: true; the input reads as it did. -/
def fnBoolVarUptoRow : OpenClaim := { program := "ythjcbaccoogloaa", sum := "cd9b444949c5689951695132ec4ea5e2c8aa5616d108fd8d959fe51748fad749", func := "loop.example/cuttingplanes/laws.FnBoolVar", spec := "fnBoolVar", unfollowed := true, recurses := true, apart := false, narrowed := true }
def FnBoolVarUptoSaid : Prop := fnBoolVarUptoRow.holds Try.pinned (OpenSpec.upto fnBoolVarSpec)

/-- 'laws.FnFullDomains', WHERE WHAT IT READS IS OF BULK AT MOST 1048576: true; the input reads as it did. -/
def fnFullDomainsUptoRow : OpenClaim := { program := "ythjcbaccoogloaa", sum := "cd9b444949c5689951695132ec4ea5e2c8aa5616d108fd8d959fe51748fad749", func := "loop.example/cuttingplanes/laws.FnFullDomains", spec := "fnFullDomains", unfollowed := true, recurses := true, apart := false, narrowed := true }
def FnFullDomainsUptoSaid : Prop := fnFullDomainsUptoRow.holds Try.pinned (OpenSpec.upto fnFullDomainsSpec)

/-- 'laws.FnDecodeValues', WHERE WHAT IT READS IS OF BULK AT MOST 1048576: true; the input reads as it did. -/
def fnDecodeValuesUptoRow : OpenClaim := { program := "ythjcbaccoogloaa", sum := "cd9b444949c5689951695132ec4ea5e2c8aa5616d108fd8d959fe51748fad749", func := "loop.example/cuttingplanes/laws.FnDecodeValues", spec := "fnDecodeValues", unfollowed := true, recurses := true, apart := false, narrowed := true }
def FnDecodeValuesUptoSaid : Prop := fnDecodeValuesUptoRow.holds Try.pinned (OpenSpec.upto fnDecodeValuesSpec)

/-- 'laws.FnObjectiveValue', WHERE WHAT IT READS IS OF BULK AT MOST 1048576: true; the input reads as it did. -/
def fnObjectiveValueUptoRow : OpenClaim := { program := "ythjcbaccoogloaa", sum := "cd9b444949c5689951695132ec4ea5e2c8aa5616d108fd8d959fe51748fad749", func := "loop.example/cuttingplanes/laws.FnObjectiveValue", spec := "fnObjectiveValue", unfollowed := true, recurses := true, apart := false, narrowed := true }
def FnObjectiveValueUptoSaid : Prop := fnObjectiveValueUptoRow.holds Try.pinned (OpenSpec.upto fnObjectiveValueSpec)

/-- 'laws.FnExactObjectiveValue', WHERE WHAT IT READS IS OF BULK AT MOST 1048576: true; the input reads as it did. -/
def fnExactObjectiveValueUptoRow : OpenClaim := { program := "ythjcbaccoogloaa", sum := "cd9b444949c5689951695132ec4ea5e2c8aa5616d108fd8d959fe51748fad749", func := "loop.example/cuttingplanes/laws.FnExactObjectiveValue", spec := "fnExactObjectiveValue", unfollowed := true, recurses := true, apart := false, narrowed := true }
def FnExactObjectiveValueUptoSaid : Prop := fnExactObjectiveValueUptoRow.holds Try.pinned (OpenSpec.upto fnExactObjectiveValueSpec)

end Rows
end Go.Proofs.Ythjcbaccoogloaa
