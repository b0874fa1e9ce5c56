package tests

import (
	"math"
	"slices"
	"strconv"
	"strings"
	"testing"

	"loop.example/cuttingplanes/impl"
)

func readSteps(t *testing.T, texts ...string) []impl.Step {
	t.Helper()
	var text string
	for _, line := range texts {
		text += line + "\n"
	}
	steps, ok := impl.ParseProof(text)
	if !ok || len(steps) != len(texts) {
		t.Fatalf("ParseProof(%q) = %v, %v", text, steps, ok)
	}
	return steps
}

func rup(c impl.Constraint) impl.Step { return impl.Step{Kind: impl.StepRup, Given: c} }

// idleSteps has steps that are valid after any problem.
func idleSteps(count int) []impl.Step {
	return slices.Repeat([]impl.Step{{Kind: impl.StepLiteral, A: -3}}, count)
}

func checkRun(t *testing.T, name string, list []impl.Constraint, steps []impl.Step, want ...string) {
	t.Helper()
	left, at := impl.RunProof(list, steps)
	if at != -1 || !sameProblem(left, readAll(t, want...)) {
		t.Errorf("%s: RunProof = %v, %d, not %v", name, left, at, want)
	}
}

func checkRunFails(t *testing.T, name string, list []impl.Constraint, steps []impl.Step, want int) {
	t.Helper()
	if left, at := impl.RunProof(list, steps); at != want || len(left) != 0 {
		t.Errorf("%s: RunProof = %v, %d, not %d", name, left, at, want)
	}
	if impl.CheckRefutation(list, steps) {
		t.Errorf("%s: CheckRefutation accepts the proof", name)
	}
	if impl.CheckDerivation(list, steps, impl.Constraint{}) {
		t.Errorf("%s: CheckDerivation accepts the proof", name)
	}
	if trimmed, ok := impl.TrimProof(list, steps); ok || len(trimmed) != 0 {
		t.Errorf("%s: TrimProof = %v, %v", name, trimmed, ok)
	}
}

func TestRunProofDerivesByEachRule(t *testing.T) {
	for _, x := range []struct {
		step string
		want string
	}{
		{"add 0 1", "4 x2 2 x3 >= 4"},
		{"add 1 0", "4 x2 2 x3 >= 4"},
		{"add 0 0", "4 x1 6 x2 4 x3 >= 8"},
		{"multiply 0 1", "2 x1 3 x2 2 x3 >= 4"},
		{"multiply 0 333", "666 x1 999 x2 666 x3 >= 1332"},
		{"divide 0 2", "1 x1 2 x2 1 x3 >= 2"},
		{"divide 0 1000", "1 x1 1 x2 1 x3 >= 1"},
		{"saturate 1", "2 ~x1 1 x2 >= 2"},
		{"saturate 2", "4 x4 >= 4"},
		{"weaken 0 2", "2 x1 2 x3 >= 1"},
		{"weaken 0 12", "2 x1 3 x2 2 x3 >= 4"},
		{"weaken 1 1", "1 x2 >= 0"},
		{"literal x12", "1 x12 >= 0"},
		{"literal ~x2", "1 ~x2 >= 0"},
		{"rup 1 ~x1 1 x2 >= 1", "1 ~x1 1 x2 >= 1"},
		{"rup 1 x4 >= 1", "1 x4 >= 1"},
		{"rup >= 0", ">= 0"},
	} {
		texts := []string{"2 x1 3 x2 2 x3 >= 4", "2 ~x1 1 x2 >= 2", "9 x4 >= 4"}
		checkRun(t, x.step, readAll(t, texts...), readSteps(t, x.step), append(texts, x.want)...)
	}
}

func TestRunProofNumbersTheConstraints(t *testing.T) {
	list := readAll(t, "1 x1 1 x2 >= 1", "1 ~x1 1 x2 >= 1")
	checkRun(t, "no steps", list, nil, "1 x1 1 x2 >= 1", "1 ~x1 1 x2 >= 1")
	checkRun(t, "nothing", nil, nil)
	checkRun(t, "no problem", nil, readSteps(t, "literal x3", "multiply 0 5", "add 1 0"), "1 x3 >= 0", "5 x3 >= 0", "6 x3 >= 0")
	checkRun(t, "steps that use steps", list, readSteps(t, "add 0 1", "divide 2 2", "literal x1", "add 3 4"),
		"1 x1 1 x2 >= 1", "1 ~x1 1 x2 >= 1", "2 x2 >= 1", "1 x2 >= 1", "1 x1 >= 0", "1 x1 1 x2 >= 1")
	checkRun(t, "a deletion has no number", list, readSteps(t, "add 0 1", "delete 0", "divide 2 2", "delete 2", "multiply 3 7"),
		"1 ~x1 1 x2 >= 1", "1 x2 >= 1", "7 x2 >= 7")
	checkRun(t, "only deletions", list, readSteps(t, "delete 1", "delete 0"))
	checkRun(t, "deletions leave the order", list, readSteps(t, "literal x5", "literal x6", "literal x7", "delete 3", "delete 0"),
		"1 ~x1 1 x2 >= 1", "1 x5 >= 0", "1 x7 >= 0")
	checkRun(t, "the same constraint again", list, readSteps(t, "literal x5", "delete 2", "literal x5", "multiply 3 1", "delete 3"),
		"1 x1 1 x2 >= 1", "1 ~x1 1 x2 >= 1", "1 x5 >= 0")
}

func TestReverseUnitPropagationUsesWhatIsNotDeleted(t *testing.T) {
	list := readAll(t, "1 x1 1 x2 >= 1", "1 ~x1 1 x2 >= 1", "1 ~x2 1 x3 >= 1")
	checkRun(t, "derived constraints", list, readSteps(t, "rup 1 x2 >= 1", "delete 0", "delete 1", "rup 1 x3 >= 1", "delete 2", "delete 3", "rup 1 x3 1 x9 >= 1"),
		"1 x3 >= 1", "1 x3 1 x9 >= 1")
	checkRunFails(t, "a deleted one of the problem", list, readSteps(t, "delete 0", "rup 1 x2 >= 1"), 1)
	checkRunFails(t, "a deleted one of the middle", list, readSteps(t, "literal x1", "delete 1", "rup 1 x2 >= 1"), 2)
	checkRunFails(t, "a deleted one that was derived", list, readSteps(t, "rup 1 x2 >= 1", "delete 0", "delete 3", "rup 1 x3 >= 1"), 3)
	checkRun(t, "a deleted one that was derived twice", list, readSteps(t, "rup 1 x2 >= 1", "rup 1 x2 >= 1", "delete 0", "delete 3", "rup 1 x3 >= 1"),
		"1 ~x1 1 x2 >= 1", "1 ~x2 1 x3 >= 1", "1 x2 >= 1", "1 x3 >= 1")
	checkRun(t, "coefficients", readAll(t, "3 x1 2 x2 2 ~x3 >= 5"), readSteps(t, "rup 1 x1 >= 1", "delete 0", "rup 2 x1 1 x5 >= 2"),
		"1 x1 >= 1", "2 x1 1 x5 >= 2")
	checkRun(t, "from a false constraint", readAll(t, ">= 1"), readSteps(t, "rup 5 x4 >= 20000"), ">= 1", "5 x4 >= 20000")
	checkRunFails(t, "from a deleted false constraint", readAll(t, ">= 1"), readSteps(t, "delete 0", "rup 5 x4 >= 20000"), 1)
	checkRunFails(t, "after a step that fails nothing is left over", readAll(t, "1 x1 1 x2 >= 1"), readSteps(t, "rup 1 x1 1 x2 1 x3 >= 1", "rup 1 x1 >= 1", "rup >= 1"), 1)
	checkRunFails(t, "negations do not stay", readAll(t, "1 x1 1 x2 >= 1"), readSteps(t, "rup 1 x1 1 x2 1 x3 >= 1", "rup 1 ~x1 >= 1"), 1)
}

func TestStepsThatReferToNothing(t *testing.T) {
	list := readAll(t, "1 x1 1 x2 >= 1", "1 ~x1 1 x2 >= 1")
	for _, kind := range []int{impl.StepAdd, impl.StepMultiply, impl.StepDivide, impl.StepSaturate, impl.StepWeaken, impl.StepDelete} {
		second := 1
		if kind == impl.StepSaturate || kind == impl.StepDelete {
			second = 0
		}
		for _, a := range []int{-1, 3, 4, 1000, 1399, 1400, 1408, 5000, math.MinInt, math.MaxInt} {
			steps := append(idleSteps(1), impl.Step{Kind: kind, A: a, B: second})
			checkRunFails(t, "kind "+strconv.Itoa(kind)+" refers to "+strconv.Itoa(a), list, steps, 1)
		}
		valid := append(idleSteps(1), impl.Step{Kind: kind, A: 2, B: second})
		if _, at := impl.RunProof(list, valid); at != -1 {
			t.Errorf("RunProof refuses the last constraint for kind %d", kind)
		}
		deleted := append(readSteps(t, "delete 0"), impl.Step{Kind: kind, A: 0, B: second})
		checkRunFails(t, "a deleted constraint of the problem", list, deleted, 1)
		deleted = append(readSteps(t, "literal x4", "literal x5", "delete 2"), impl.Step{Kind: kind, A: 2, B: second})
		checkRunFails(t, "a deleted constraint of a step", list, deleted, 3)
		deleted = append(readSteps(t, "delete 1", "literal x4"), impl.Step{Kind: kind, A: 2, B: second})
		if second == 1 {
			deleted[2].B = 0
		}
		if kind == impl.StepAdd || second == 0 {
			checkRun(t, "others than the deleted constraint", list, deleted[:2], "1 x1 1 x2 >= 1", "1 x4 >= 0")
			if _, at := impl.RunProof(list, deleted); at != -1 {
				t.Errorf("RunProof refuses constraints that are not deleted for kind %d", kind)
			}
		}
	}
	for _, b := range []int{-1, 2, 3, 1400, 1408, math.MinInt, math.MaxInt} {
		checkRunFails(t, "the second constraint of a sum", list, []impl.Step{{Kind: impl.StepAdd, A: 0, B: b}}, 0)
	}
	checkRunFails(t, "the second constraint of a sum is deleted", list, readSteps(t, "literal x4", "delete 1", "add 0 1"), 2)
	checkRunFails(t, "both constraints of a sum are deleted", list, readSteps(t, "literal x4", "delete 1", "add 1 1"), 2)
	checkRunFails(t, "deleted twice", list, readSteps(t, "delete 1", "delete 1"), 1)
	checkRunFails(t, "nothing there", nil, readSteps(t, "saturate 0"), 0)
	checkRunFails(t, "a step refers to itself", list, readSteps(t, "saturate 2"), 0)
}

func TestStepsWhoseRuleRefuses(t *testing.T) {
	list := readAll(t, "1000 x1 1 x2 >= 20000", "1 x1 1 x2 >= 1")
	for _, text := range []string{
		"add 0 0", "add 0 1", "add 1 0", "multiply 0 2", "multiply 1 0", "multiply 1 1001", "multiply 1 20000",
		"divide 1 0", "divide 1 1001", "weaken 1 0", "weaken 1 13", "weaken 1 20000",
		"rup 1 x1 >= 2",
	} {
		steps := append(readSteps(t, "delete 0", "literal x1"), readSteps(t, text)...)
		if text != "rup 1 x1 >= 2" && strings.Contains(text, " 0") {
			steps = readSteps(t, "literal x1", text)
		}
		checkRunFails(t, text, list, steps, len(steps)-1)
	}
	for _, kind := range []int{impl.StepMultiply, impl.StepDivide} {
		for _, b := range notFactors() {
			checkRunFails(t, "a number that is no factor", list, []impl.Step{{Kind: kind, A: 1, B: b}}, 0)
		}
		checkRun(t, "the least factor", list[1:], []impl.Step{{Kind: kind, A: 0, B: 1}}, "1 x1 1 x2 >= 1", "1 x1 1 x2 >= 1")
	}
	for _, b := range notVariables() {
		checkRunFails(t, "a number that is no variable", list, []impl.Step{{Kind: impl.StepWeaken, A: 1, B: b}}, 0)
	}
	for _, a := range notLiterals() {
		checkRunFails(t, "a number that is no literal", list, []impl.Step{{Kind: impl.StepLiteral, A: a}}, 0)
	}
	for _, c := range invalidConstraints() {
		checkRunFails(t, "a given constraint that is not valid", list, []impl.Step{rup(c)}, 0)
		checkRunFails(t, "a given constraint that is not valid, from a false one", readAll(t, ">= 1"), []impl.Step{rup(c)}, 0)
	}
	checkRunFails(t, "a constraint that does not follow", list[1:], []impl.Step{rup(read(t, "1 x1 >= 1"))}, 0)
	checkRunFails(t, "a constraint that holds, but not by propagation", readAll(t,
		"1 x1 1 x2 >= 1", "1 x1 1 ~x2 >= 1", "1 ~x1 1 x2 1 x3 >= 1", "1 ~x1 1 ~x2 1 x3 >= 1"), []impl.Step{rup(read(t, "1 x3 >= 1"))}, 0)
}

// malformedSteps has a field that the kind does not have, or no kind. Apart from that, the steps are valid after two
// constraints.
func malformedSteps() []impl.Step {
	var steps []impl.Step
	for _, kind := range []int{0, -1, 9, 10, 100, -8, math.MinInt, math.MaxInt} {
		steps = append(steps, impl.Step{Kind: kind}, impl.Step{Kind: kind, A: 1}, impl.Step{Kind: kind, A: 1, B: 1})
	}
	for _, n := range []int{1, -1, 12, math.MinInt, math.MaxInt} {
		steps = append(steps,
			impl.Step{Kind: impl.StepSaturate, A: 1, B: n},
			impl.Step{Kind: impl.StepLiteral, A: 1, B: n},
			impl.Step{Kind: impl.StepDelete, A: 1, B: n},
			impl.Step{Kind: impl.StepRup, A: n},
			impl.Step{Kind: impl.StepRup, B: n},
			impl.Step{Kind: impl.StepRup, A: n, B: n})
	}
	given := []impl.Constraint{{Bound: 1}, {Bound: -1}, {Terms: []impl.Term{{Coef: 1, Lit: 1}}}, {Terms: make([]impl.Term, 1)}}
	for kind := impl.StepAdd; kind <= impl.StepDelete; kind++ {
		for _, c := range given {
			s := impl.Step{Kind: kind, A: 1, B: 1, Given: c}
			switch kind {
			case impl.StepSaturate, impl.StepLiteral, impl.StepDelete:
				s.B = 0
			}
			if kind != impl.StepRup {
				steps = append(steps, s)
			}
		}
	}
	return steps
}

func TestMalformedSteps(t *testing.T) {
	list := readAll(t, "1 x1 >= 1", "1 ~x1 >= 1")
	for _, s := range malformedSteps() {
		checkRunFails(t, "malformed", list, []impl.Step{s}, 0)
		checkRunFails(t, "malformed after a refutation", list, append(readSteps(t, "add 0 1", "literal x3"), s), 2)
		checkRunFails(t, "the first one is reported", list, append(idleSteps(3), s, impl.Step{}, s), 3)
		if text := impl.FormatProof([]impl.Step{s}); text != "" {
			t.Errorf("FormatProof of the malformed step %v = %q", s, text)
		}
		if text := impl.FormatProof(append(idleSteps(2), s, idleSteps(1)[0])); text != "" {
			t.Errorf("FormatProof of the malformed step %v among others = %q", s, text)
		}
	}
	empty := impl.Constraint{Terms: make([]impl.Term, 0, 3)}
	left, at := impl.RunProof(list, []impl.Step{{Kind: impl.StepAdd, A: 0, B: 1, Given: empty}})
	if at != -1 || len(left) != 3 {
		t.Errorf("RunProof with an empty list of terms = %v, %d", left, at)
	}
	if text := impl.FormatProof([]impl.Step{{Kind: impl.StepAdd, A: 0, B: 1, Given: empty}}); text != "add 0 1\n" {
		t.Errorf("FormatProof with an empty list of terms = %q", text)
	}
}

func TestRunProofLimits(t *testing.T) {
	for i, list := range invalidProblems() {
		checkRunFails(t, "invalid problem "+strconv.Itoa(i), list, nil, 0)
		checkRunFails(t, "invalid problem with steps "+strconv.Itoa(i), list, append(idleSteps(2), impl.Step{}), 0)
		checkRunFails(t, "invalid problem with a false constraint", append(readAll(t, ">= 1"), list...), idleSteps(1), 0)
	}
	list := fullProblem()
	last := impl.MaxProblem + impl.MaxSteps - 2
	steps := append(idleSteps(impl.MaxSteps-1), impl.Step{Kind: impl.StepMultiply, A: last, B: 7})
	left, at := impl.RunProof(list, steps)
	if at != -1 || len(left) != last+2 || impl.FormatConstraint(left[last+1]) != "7 ~x3 >= 0" || impl.FormatConstraint(left[last]) != "1 ~x3 >= 0" {
		t.Errorf("RunProof at its limits = %d constraints, %d", len(left), at)
	}
	steps[impl.MaxSteps-1].A = last + 1
	checkRunFails(t, "the last of MaxSteps steps", list, steps, impl.MaxSteps-1)
	checkRunFails(t, "more than MaxSteps steps", list, idleSteps(impl.MaxSteps+1), 0)
	checkRunFails(t, "more than MaxSteps steps, a false constraint", readAll(t, ">= 1"), idleSteps(impl.MaxSteps+1), 0)
	checkRunFails(t, "more than MaxSteps steps, the second one not valid", list, append(idleSteps(1), make([]impl.Step, 3000)...), 0)
	pairs := slices.Repeat(readSteps(t, "delete 0", "literal x1"), impl.MaxSteps/2)
	for i := range pairs {
		if i%2 == 0 {
			pairs[i].A = i / 2
		}
	}
	if left, at := impl.RunProof(list, pairs); at != -1 || len(left) != impl.MaxProblem || impl.FormatConstraint(left[0]) != "1 x1 >= 0" {
		t.Errorf("RunProof with many deletions = %d constraints, %d", len(left), at)
	}
}

func TestMaxProblemDoesNotLimitReverseUnitPropagation(t *testing.T) {
	list := fullProblem()
	list[0] = read(t, "1 x1 1 x2 >= 1")
	list[impl.MaxProblem-1] = read(t, "1 x1 1 ~x2 >= 1")
	steps := append(idleSteps(impl.MaxSteps-1), rup(read(t, "1 x1 >= 1")))
	left, at := impl.RunProof(list, steps)
	if at != -1 || len(left) != impl.MaxProblem+impl.MaxSteps || impl.FormatConstraint(left[len(left)-1]) != "1 x1 >= 1" {
		t.Errorf("RunProof = %d constraints, %d", len(left), at)
	}
	steps = slices.Repeat([]impl.Step{rup(overAllVars(1, 1, false))}, impl.MaxSteps)
	steps[impl.MaxSteps-1] = rup(read(t, "1 x2 >= 1"))
	checkRunFails(t, "the last of MaxSteps steps does not follow", list, steps, impl.MaxSteps-1)
	steps[impl.MaxSteps-2] = rup(read(t, "1 x1 >= 1"))
	steps[impl.MaxSteps-1] = rup(read(t, "2 x1 1 x5 >= 2"))
	if !impl.CheckDerivation(list, steps, read(t, "2 x1 1 x5 >= 2")) {
		t.Error("CheckDerivation refuses a proof with MaxSteps steps by reverse unit propagation")
	}
}

func TestCheckRefutation(t *testing.T) {
	contradiction := []string{"1 x1 1 x5 >= 2", "1 ~x1 1 ~x5 >= 1"}
	for _, x := range []struct {
		name        string
		list, steps []string
		want        bool
	}{
		{"example", contradiction, []string{"add 0 1"}, true},
		{"reverse unit propagation", contradiction, []string{"rup >= 1"}, true},
		{"a false constraint with terms", contradiction, []string{"rup 3 x4 2 x6 >= 6"}, true},
		{"a constraint that is almost false", contradiction, []string{"rup 3 x4 2 x6 >= 5"}, false},
		{"no steps", contradiction, nil, false},
		{"nothing", nil, nil, false},
		{"a false constraint in the problem", []string{"1 x1 >= 1", "1 x1 1 x2 >= 3"}, nil, true},
		{"a false constraint in the problem and other steps", []string{"1 x1 1 x2 >= 3"}, []string{"literal x1", "add 0 1"}, true},
		{"a deleted false constraint of the problem", []string{"1 x1 1 x2 >= 3", ">= 0"}, []string{"delete 0"}, false},
		{"another false constraint of the problem", []string{">= 1", ">= 0", ">= 2"}, []string{"delete 0"}, true},
		{"all false constraints are deleted", []string{">= 1", ">= 0", ">= 2"}, []string{"delete 0", "delete 2"}, false},
		{"a deleted one after others are derived from it", []string{">= 1", "1 x1 >= 0"}, []string{"add 0 1", "delete 0"}, false},
		{"derived from a deleted one", []string{">= 1"}, []string{"multiply 0 2", "delete 0"}, true},
		{"a derived one is deleted", contradiction, []string{"add 0 1", "delete 2"}, false},
		{"a derived one is deleted and derived again", contradiction, []string{"add 0 1", "delete 2", "add 0 1"}, true},
		{"the premises are deleted", contradiction, []string{"add 0 1", "delete 0", "delete 1"}, true},
		{"a step that is not valid comes after it", contradiction, []string{"add 0 1", "delete 3"}, false},
		{"a step that is not valid, false in the problem", []string{">= 1"}, []string{"delete 1"}, false},
		{"a step refers to a deleted constraint", contradiction, []string{"delete 0", "add 0 1"}, false},
		{"weakened", []string{"1 x1 >= 2"}, []string{"weaken 0 1", "delete 0"}, true},
		{"a problem with a solution", []string{"1 x1 >= 1", "1 x2 >= 1"}, []string{"add 0 1", "literal ~x1"}, false},
	} {
		list, steps := readAll(t, x.list...), readSteps(t, x.steps...)
		if got := impl.CheckRefutation(list, steps); got != x.want {
			t.Errorf("%s: CheckRefutation = %v", x.name, got)
		}
		if _, ok := impl.TrimProof(list, steps); ok != x.want {
			t.Errorf("%s: TrimProof returns %v", x.name, ok)
		}
	}
	list := fullProblem()
	list[impl.MaxProblem-1] = read(t, ">= 20000")
	if !impl.CheckRefutation(list, idleSteps(impl.MaxSteps)) {
		t.Error("CheckRefutation refuses a proof with MaxSteps steps")
	}
}

func TestCheckDerivation(t *testing.T) {
	texts := []string{"2 x1 1 x2 >= 2", "1 ~x2 1 x3 >= 1"}
	for _, x := range []struct {
		name  string
		steps []string
		c     string
		want  bool
	}{
		{"one of the problem", nil, "1 ~x2 1 x3 >= 1", true},
		{"covered by one of the problem", nil, "3 x1 1 x2 1 x9 >= 1", true},
		{"nothing covers it", nil, "1 x1 >= 1", false},
		{"derived", []string{"rup 1 x1 >= 1"}, "1 x1 >= 1", true},
		{"covered by a derived one", []string{"add 0 1"}, "2 x1 1 x3 >= 2", true},
		{"covered by one in the middle", []string{"add 0 1", "literal x4"}, "2 x1 2 x3 1 x4 >= 2", true},
		{"not covered by a derived one", []string{"add 0 1"}, "2 x1 1 x3 >= 3", false},
		{"a derived one is deleted", []string{"rup 1 x1 >= 1", "delete 2"}, "1 x1 >= 1", false},
		{"one of the problem is deleted", []string{"delete 1"}, "1 ~x2 1 x3 >= 1", false},
		{"one of the problem is left", []string{"delete 0"}, "1 ~x2 1 x3 >= 1", true},
		{"nothing is left", []string{"delete 0", "delete 1"}, ">= 0", false},
		{"covered by the axiom of a literal", []string{"delete 0", "delete 1", "literal x3"}, "1 x3 1 ~x5 >= 0", true},
		{"a step that is not valid", []string{"rup 1 x1 >= 1", "delete 3"}, "1 x1 >= 1", false},
		{"a step refers to a deleted constraint", []string{"rup 1 x1 >= 1", "delete 0", "saturate 0"}, "1 x1 >= 1", false},
	} {
		if got := impl.CheckDerivation(readAll(t, texts...), readSteps(t, x.steps...), read(t, x.c)); got != x.want {
			t.Errorf("%s: CheckDerivation = %v", x.name, got)
		}
	}
	if impl.CheckDerivation(nil, nil, impl.Constraint{}) || !impl.CheckDerivation(readAll(t, ">= 1"), nil, impl.Constraint{Bound: 1}) {
		t.Error("CheckDerivation without terms is wrong")
	}
	for _, c := range invalidConstraints() {
		if impl.CheckDerivation(readAll(t, texts...), nil, c) || impl.CheckDerivation(readAll(t, ">= 20000", "1000 x1 >= 20000"), idleSteps(1), c) {
			t.Errorf("CheckDerivation accepts %v", c)
		}
	}
	if !impl.CheckDerivation(fullProblem(), idleSteps(impl.MaxSteps), read(t, "1 ~x3 >= 0")) {
		t.Error("CheckDerivation refuses a proof with MaxSteps steps")
	}
}

func TestTrimProofResults(t *testing.T) {
	list := []string{"1 x1 1 x5 >= 2", "1 ~x1 1 ~x5 >= 1", "1 x3 >= 1"}
	for _, x := range []struct {
		name              string
		list, steps, want []string
	}{
		{"nothing to trim", list, []string{"add 0 1"}, []string{"add 0 1"}},
		{"steps before, between and after", list, []string{"literal x4", "saturate 2", "add 0 1", "delete 2"}, []string{"add 0 1"}},
		{"a false constraint in the problem", []string{"1 x1 >= 1", ">= 1"}, []string{"literal x1", "add 0 1", "rup >= 1"}, nil},
		{"a false constraint in the problem and no steps", []string{"1 x1 >= 2"}, nil, nil},
		{"deleted false constraints", []string{">= 2", "1 x1 >= 0"}, []string{"literal x2", "add 0 1", "delete 0", "multiply 3 3", "delete 3", "weaken 4 1", "delete 4"},
			[]string{"add 0 1", "multiply 2 3", "weaken 3 1"}},
		{"the first false constraint", list, []string{"literal x4", "add 1 0", "multiply 4 2", "rup >= 3"}, []string{"add 1 0"}},
		{"the first false constraint that is not deleted", list, []string{"literal x4", "add 0 1", "multiply 4 2", "rup >= 3", "delete 4"}, []string{"add 0 1", "multiply 3 2"}},
		{"the number counts, not the step that deletes", list, []string{"add 0 1", "add 1 0", "add 0 1", "delete 4", "delete 3"}, []string{"add 0 1"}},
		{"renumbered over a gap", list, []string{"literal x4", "literal x6", "saturate 0", "literal x7", "add 5 1"}, []string{"saturate 0", "add 3 1"}},
		{"renumbered over deletions", list, []string{"delete 2", "literal x4", "delete 3", "saturate 0", "delete 0", "literal x9", "saturate 1", "delete 1", "add 4 6"},
			[]string{"saturate 0", "saturate 1", "add 3 4"}},
		{"only references are renumbered", []string{"2 x1 >= 2", "2 ~x1 1 x3 >= 3"}, []string{"literal x4", "literal x5", "literal x3", "add 1 4", "multiply 5 4", "divide 6 5", "weaken 7 3", "add 0 8"},
			[]string{"literal x3", "add 1 2", "multiply 3 4", "divide 4 5", "weaken 5 3", "add 0 6"}},
		{"a negated literal", []string{">= 2"}, []string{"literal x1", "literal ~x1", "add 0 2", "delete 0"}, []string{"literal ~x1", "add 0 1"}},
		{"a constraint is added to itself", []string{">= 1", "1 x1 >= 0"}, []string{"literal x4", "add 0 0", "literal x5", "add 3 3", "delete 0", "delete 3"}, []string{"add 0 0", "add 2 2"}},
		{"both branches of a sum", list, []string{"saturate 1", "literal x8", "saturate 0", "add 3 5"}, []string{"saturate 1", "saturate 0", "add 3 4"}},
		{"a constraint is needed twice", []string{"3 x1 1 x2 >= 3", "2 ~x1 >= 1"}, []string{"literal x9", "divide 1 2", "literal x8", "add 0 3", "add 5 3"},
			[]string{"divide 1 2", "add 0 2", "add 3 2"}},
	} {
		steps, ok := impl.TrimProof(readAll(t, x.list...), readSteps(t, x.steps...))
		if !ok || !impl.ProofSame(steps, readSteps(t, x.want...)) {
			t.Errorf("%s: TrimProof = %q, %v, not %q", x.name, impl.FormatProof(steps), ok, x.want)
		}
	}
}

func TestTrimProofKeepsWhatReverseUnitPropagationNeeds(t *testing.T) {
	list := []string{"1 x1 1 x2 >= 1", "1 x1 1 ~x2 >= 1", "1 ~x1 1 x2 >= 1", "1 ~x1 1 ~x2 >= 1"}
	for _, x := range []struct {
		name        string
		steps, want []string
	}{
		{"alone", []string{"rup 1 x1 >= 1", "rup >= 1"}, []string{"rup 1 x1 >= 1", "rup >= 1"}},
		{"all smaller numbers", []string{"literal x4", "rup 1 x1 >= 1", "multiply 4 3", "rup >= 1", "literal x9"},
			[]string{"literal x4", "rup 1 x1 >= 1", "multiply 4 3", "rup >= 1"}},
		{"deleted ones too, and no deletion", []string{"literal x4", "rup 1 x1 >= 1", "multiply 4 3", "delete 4", "rup >= 1", "delete 0"},
			[]string{"literal x4", "rup 1 x1 >= 1", "multiply 4 3", "rup >= 1"}},
		{"a sum is needed, which needs no others", []string{"rup 1 x1 >= 1", "literal x4", "rup 1 ~x1 >= 1", "literal x5", "add 4 6", "literal x7"},
			[]string{"rup 1 x1 >= 1", "literal x4", "rup 1 ~x1 >= 1", "add 4 6"}},
		{"what it does not follow from is left out behind it", []string{"literal x3", "rup 1 x1 >= 1", "literal x4", "add 5 2", "add 2 3", "divide 8 2", "literal x6", "add 5 9"},
			[]string{"literal x3", "rup 1 x1 >= 1", "add 2 3", "divide 6 2", "add 5 7"}},
		{"one that is not needed", []string{"rup 1 x1 >= 1", "add 0 1", "divide 5 2", "rup 1 x1 1 x9 >= 1", "add 2 3", "divide 8 2", "add 6 9"},
			[]string{"add 0 1", "divide 4 2", "add 2 3", "divide 6 2", "add 5 7"}},
	} {
		steps, ok := impl.TrimProof(readAll(t, list...), readSteps(t, x.steps...))
		if !ok || !impl.ProofSame(steps, readSteps(t, x.want...)) {
			t.Errorf("%s: TrimProof = %q, %v, not %q", x.name, impl.FormatProof(steps), ok, x.want)
		}
		if !impl.CheckRefutation(readAll(t, list...), steps) {
			t.Errorf("%s: the result of TrimProof is no refutation", x.name)
		}
	}
}

func TestTrimProofOfFullProofs(t *testing.T) {
	list := fullProblem()
	list[0], list[impl.MaxProblem-1] = read(t, "1 x1 >= 1"), read(t, "1 ~x1 >= 1")
	steps := idleSteps(impl.MaxSteps)
	steps[500] = impl.Step{Kind: impl.StepSaturate, A: impl.MaxProblem - 1}
	steps[impl.MaxSteps-1] = impl.Step{Kind: impl.StepAdd, A: impl.MaxProblem + 500, B: 0}
	want := readSteps(t, "saturate 399", "add 400 0")
	if trimmed, ok := impl.TrimProof(list, steps); !ok || !impl.ProofSame(trimmed, want) {
		t.Errorf("TrimProof = %q, %v", impl.FormatProof(trimmed), ok)
	}
	steps[impl.MaxSteps-1] = rup(read(t, ">= 1"))
	if trimmed, ok := impl.TrimProof(list, steps); !ok || !impl.ProofSame(trimmed, steps) {
		t.Errorf("TrimProof with a last step by reverse unit propagation = %d steps, %v", len(trimmed), ok)
	}
	steps[0] = impl.Step{Kind: impl.StepDelete, A: 7}
	if trimmed, ok := impl.TrimProof(list, steps); !ok || len(trimmed) != impl.MaxSteps-1 {
		t.Errorf("TrimProof with a first step that deletes = %d steps, %v", len(trimmed), ok)
	}
}

func TestProofTexts(t *testing.T) {
	full := slices.Repeat([]impl.Step{{Kind: impl.StepDelete, A: 20000}}, impl.MaxSteps)
	for _, x := range []struct {
		text  string
		steps []impl.Step
	}{
		{"", nil},
		{"", []impl.Step{}},
		{"add 0 0\n", []impl.Step{{Kind: 1}}},
		{"add 0 1\n", []impl.Step{{Kind: 1, B: 1}}},
		{"add 20000 3\n", []impl.Step{{Kind: 1, A: 20000, B: 3}}},
		{"add 3 20000\n", []impl.Step{{Kind: 1, A: 3, B: 20000}}},
		{"multiply 4 0\n", []impl.Step{{Kind: 2, A: 4}}},
		{"multiply 0 20000\n", []impl.Step{{Kind: 2, B: 20000}}},
		{"divide 1399 1000\n", []impl.Step{{Kind: 3, A: 1399, B: 1000}}},
		{"saturate 0\n", []impl.Step{{Kind: 4}}},
		{"saturate 20000\n", []impl.Step{{Kind: 4, A: 20000}}},
		{"weaken 2 12\n", []impl.Step{{Kind: 5, A: 2, B: 12}}},
		{"weaken 2 13\n", []impl.Step{{Kind: 5, A: 2, B: 13}}},
		{"literal x1\n", []impl.Step{{Kind: 6, A: 1}}},
		{"literal ~x12\n", []impl.Step{{Kind: 6, A: -12}}},
		{"rup >= 0\n", []impl.Step{{Kind: 7}}},
		{"rup 3 x1 1000 ~x12 >= 20000\n", []impl.Step{rup(read(t, "3 x1 1000 ~x12 >= 20000"))}},
		{"delete 0\n", []impl.Step{{Kind: 8}}},
		{"delete 10\nadd 1 2\nliteral ~x3\nrup 1 x1 >= 1\n", []impl.Step{{Kind: 8, A: 10}, {Kind: 1, A: 1, B: 2}, {Kind: 6, A: -3}, rup(read(t, "1 x1 >= 1"))}},
		{strings.Repeat("delete 20000\n", impl.MaxSteps), full},
	} {
		if text := impl.FormatProof(x.steps); text != x.text {
			t.Errorf("FormatProof(%.80v) = %.80q, not %.80q", x.steps, text, x.text)
		}
		if steps, ok := impl.ParseProof(x.text); !ok || !impl.ProofSame(steps, x.steps) {
			t.Errorf("ParseProof(%.80q) = %.80v, %v", x.text, steps, ok)
		}
	}
}

func TestFormatProofRefuses(t *testing.T) {
	check := func(name string, steps ...impl.Step) {
		t.Helper()
		if text := impl.FormatProof(steps); text != "" {
			t.Errorf("%s: FormatProof(%.80v) = %.80q", name, steps, text)
		}
	}
	for _, n := range []int{-1, impl.MaxBound + 1, -impl.MaxBound, math.MinInt, math.MaxInt} {
		check("the first number of a sum", impl.Step{Kind: impl.StepAdd, A: n})
		check("the second number of a sum", impl.Step{Kind: impl.StepAdd, B: n})
		check("the number of a product", impl.Step{Kind: impl.StepMultiply, A: n, B: 1})
		check("a factor", impl.Step{Kind: impl.StepMultiply, B: n})
		check("a divisor", impl.Step{Kind: impl.StepDivide, B: n})
		check("the number of a quotient", impl.Step{Kind: impl.StepDivide, A: n, B: 1})
		check("the number for saturate", impl.Step{Kind: impl.StepSaturate, A: n})
		check("the number for weaken", impl.Step{Kind: impl.StepWeaken, A: n, B: 1})
		check("a variable", impl.Step{Kind: impl.StepWeaken, B: n})
		check("the number for delete", impl.Step{Kind: impl.StepDelete, A: n})
		check("among others", idleSteps(1)[0], impl.Step{Kind: impl.StepDelete, A: n}, idleSteps(1)[0])
	}
	for _, n := range notLiterals() {
		check("no literal", impl.Step{Kind: impl.StepLiteral, A: n})
	}
	for _, c := range invalidConstraints() {
		check("no constraint", rup(c))
		check("no constraint after others", append(idleSteps(5), rup(c))...)
	}
	check("more than MaxSteps steps", idleSteps(impl.MaxSteps+1)...)
	check("many steps", idleSteps(5000)...)
}

func TestParseProofRefuses(t *testing.T) {
	for _, text := range []string{
		"\n", " ", " \n", "\n\n", "add 0 1", "add 0 1\n\n", "\nadd 0 1\n", "add 0 1\n ", "add 0 1\nadd 0 1", "add 0 1\r\n", "add 0 1\x00\n", "\xff\n",
		"add\n", "add \n", "add  \n", "add 0\n", "add 0 \n", "add 0  1\n", "add  0 1\n", " add 0 1\n", "add 0 1 \n", "add 0 1 2\n", "add 0\n1\n", "add\t0 1\n",
		"add 00 1\n", "add 0 01\n", "add -1 1\n", "add 0 -1\n", "add -0 1\n", "add +1 1\n", "add 1 +1\n", "add 0x1 1\n", "add 1_0 1\n", "add a 1\n", "add 0 x1\n",
		"add 20001 1\n", "add 1 20001\n", "add 99999999999999999999 1\n", "add 1 9223372036854775808\n",
		"Add 0 1\n", "ADD 0 1\n", "ad 0 1\n", "adds 0 1\n", "sub 0 1\n", "1 0 1\n", "0\n", "0 \n", " 0\n",
		"multiply 0\n", "multiply 0 20001\n", "multiply 0 -1\n", "multiply 0 1 1\n", "divide 0\n", "divide 0 01\n", "divide 0 1 1\n",
		"saturate\n", "saturate \n", "saturate 0 0\n", "saturate 0 \n", "saturate 20001\n", "saturate x1\n",
		"weaken 0\n", "weaken 0 x1\n", "weaken 0 -1\n", "weaken 0 20001\n", "weaken 0 1 0\n",
		"literal\n", "literal \n", "literal 1\n", "literal -1\n", "literal x0\n", "literal ~x0\n", "literal x13\n", "literal x01\n", "literal ~~x1\n", "literal ~ x1\n", "literal x1 0\n", "literal x1 \n", "literal X1\n", "literal x-1\n", "literal x1 x2\n",
		"rup\n", "rup \n", "rup >=\n", "rup >= \n", "rup >= 01\n", "rup >= -1\n", "rup >= 20001\n", "rup  >= 1\n", "rup >= 1 \n", "rup 1 x1\n", "rup 1 x1 1 x1 >= 1\n", "rup 1 x2 1 x1 >= 1\n",
		"rup 0 x1 >= 1\n", "rup 1001 x1 >= 1\n", "rup 1 x13 >= 1\n", "rup 1 x1 >= 1\n>= 0\n", ">= 1\n", "rup 0 0 >= 1\n", "rup: >= 1\n", "rup>= 1\n",
		"delete\n", "delete \n", "delete 1 0\n", "delete 0 \n", "delete -1\n", "delete 20001\n", "delete x1\n",
		"add 0 1\nend\n", "end\n", "no\n",
		strings.Repeat("delete 0\n", impl.MaxSteps+1), strings.Repeat("delete 0\n", impl.MaxSteps) + "\n", strings.Repeat("delete 0\n", impl.MaxSteps) + "x",
		strings.Repeat("\n", 20000), strings.Repeat("add 0 ", 20000) + "\n", "rup " + strings.Repeat("1 x1 ", 20000) + ">= 1\n",
	} {
		if steps, ok := impl.ParseProof(text); ok || len(steps) != 0 {
			t.Errorf("ParseProof(%.80q) = %v, %v", text, steps, ok)
		}
		if steps, ok := impl.ParseProof("delete 0\n" + text); ok || len(steps) != 0 {
			t.Errorf("ParseProof(%.80q) after a line = %v, %v", text, steps, ok)
		}
	}
}

func TestProofSame(t *testing.T) {
	base := impl.Step{Kind: 7, A: 3, B: 4, Given: read(t, "1 x1 2 x2 >= 1")}
	changed := []impl.Step{base, base, base, base, base, base, base}
	changed[0].Kind = 1
	changed[1].A = -3
	changed[2].B = 0
	changed[3].Given = read(t, "1 x1 2 x2 >= 2")
	changed[4].Given = read(t, "1 x1 2 ~x2 >= 1")
	changed[5].Given = read(t, "1 x1 >= 1")
	changed[6].Given = read(t, "1 x1 3 x2 >= 1")
	for _, s := range changed {
		if impl.ProofSame([]impl.Step{base}, []impl.Step{s}) || impl.ProofSame([]impl.Step{{}, s, base}, []impl.Step{{}, base, base}) {
			t.Errorf("ProofSame accepts %v and %v", base, s)
		}
		if !impl.ProofSame([]impl.Step{s, base}, []impl.Step{s, base}) {
			t.Errorf("ProofSame refuses equal proofs with %v", s)
		}
	}
	again := base
	again.Given = read(t, "1 x1 2 x2 >= 1")
	invalid := impl.Step{Kind: math.MinInt, A: math.MaxInt, B: -1, Given: impl.Constraint{Terms: []impl.Term{{Coef: -5, Lit: 99}}, Bound: -7}}
	empty := impl.Step{Kind: 1, Given: impl.Constraint{Terms: []impl.Term{}}}
	for _, pair := range [][2][]impl.Step{
		{nil, nil}, {nil, {}}, {{}, nil},
		{{base}, {again}}, {{invalid}, {invalid}}, {{empty}, {{Kind: 1}}},
		{idleSteps(5000), idleSteps(5000)},
	} {
		if !impl.ProofSame(pair[0], pair[1]) {
			t.Errorf("ProofSame refuses %.80v and %.80v", pair[0], pair[1])
		}
	}
	for _, pair := range [][2][]impl.Step{
		{nil, {base}}, {{base}, nil}, {nil, {{}}}, {{base, base}, {base}}, {{base}, {base, base}}, {{base, invalid}, {invalid, base}},
		{idleSteps(5000), idleSteps(5001)},
	} {
		if impl.ProofSame(pair[0], pair[1]) {
			t.Errorf("ProofSame accepts %.80v and %.80v", pair[0], pair[1])
		}
	}
}

// slowRun has the constraints of a proof by their numbers.
type slowRun struct {
	all     []impl.Constraint
	deleted map[int]bool
	// origins has the steps by the numbers of the constraints that they derive.
	origins map[int]impl.Step
}

func (run *slowRun) left() []impl.Constraint {
	var list []impl.Constraint
	for number, c := range run.all {
		if !run.deleted[number] {
			list = append(list, c)
		}
	}
	return list
}

// numbersIn returns the numbers of the constraints to which a step refers.
func numbersIn(s impl.Step) []int {
	switch s.Kind {
	case impl.StepAdd:
		return []int{s.A, s.B}
	case impl.StepLiteral, impl.StepRup:
		return nil
	}
	return []int{s.A}
}

// derive is for a step that refers to constraints that are there.
func (run *slowRun) derive(s impl.Step) (impl.Constraint, bool) {
	switch s.Kind {
	case impl.StepAdd:
		return impl.AddConstraints(run.all[s.A], run.all[s.B])
	case impl.StepMultiply:
		return impl.MultiplyConstraint(run.all[s.A], s.B)
	case impl.StepDivide:
		return impl.DivideConstraint(run.all[s.A], s.B)
	case impl.StepSaturate:
		return impl.SaturateConstraint(run.all[s.A])
	case impl.StepWeaken:
		return impl.WeakenConstraint(run.all[s.A], s.B)
	case impl.StepLiteral:
		return impl.LiteralAxiom(s.A)
	}
	negation, _ := impl.NegateConstraint(s.Given)
	_, at := propagateSlowly(append(run.left(), negation), assign())
	return s.Given, at >= 0
}

// runSlowly performs well-formed steps as the document describes it, and shares no code with RunProof but the rules.
func runSlowly(list []impl.Constraint, steps []impl.Step) (*slowRun, int) {
	run := &slowRun{all: slices.Clone(list), deleted: map[int]bool{}, origins: map[int]impl.Step{}}
	for i, s := range steps {
		for _, number := range numbersIn(s) {
			if number < 0 || number >= len(run.all) || run.deleted[number] {
				return nil, i
			}
		}
		if s.Kind == impl.StepDelete {
			run.deleted[s.A] = true
			continue
		}
		c, ok := run.derive(s)
		if !ok {
			return nil, i
		}
		run.origins[len(run.all)] = s
		run.all = append(run.all, c)
	}
	return run, -1
}

// neededSlowly looks for needed constraints until there are no more, and shares no code with TrimProof.
func (run *slowRun) neededSlowly() (map[int]bool, bool) {
	first := -1
	for number, c := range run.all {
		if first < 0 && !run.deleted[number] && impl.ConstraintFalse(c) {
			first = number
		}
	}
	if first < 0 {
		return nil, false
	}
	needed := map[int]bool{first: true}
	for before := 0; before < len(needed); {
		before = len(needed)
		for number := range run.all {
			s, derived := run.origins[number]
			if !needed[number] || !derived {
				continue
			}
			for _, other := range numbersIn(s) {
				needed[other] = true
			}
			for other := range number {
				if s.Kind == impl.StepRup {
					needed[other] = true
				}
			}
		}
	}
	return needed, true
}

func (run *slowRun) trimSlowly() ([]impl.Step, bool) {
	needed, ok := run.neededSlowly()
	if !ok {
		return nil, false
	}
	return run.renumber(needed), true
}

func (run *slowRun) renumber(kept map[int]bool) []impl.Step {
	var steps []impl.Step
	next, numbers := 0, map[int]int{}
	for number := range run.all {
		s, derived := run.origins[number]
		if derived && !kept[number] {
			continue
		}
		numbers[number] = next
		next++
		if !derived {
			continue
		}
		if s.Kind != impl.StepLiteral && s.Kind != impl.StepRup {
			s.A = numbers[s.A]
		}
		if s.Kind == impl.StepAdd {
			s.B = numbers[s.B]
		}
		steps = append(steps, s)
	}
	return steps
}

// step returns a well-formed step that may be valid if there are so many numbered constraints.
func (n *numbers) step(t *testing.T, count, vars int) impl.Step {
	t.Helper()
	a, b := n.between(0, count), n.between(0, count)
	switch kind := n.between(impl.StepAdd, impl.StepDelete+3); kind {
	case impl.StepMultiply, impl.StepDivide:
		return impl.Step{Kind: kind, A: a, B: n.between(0, 5)}
	case impl.StepSaturate:
		return impl.Step{Kind: kind, A: a}
	case impl.StepWeaken:
		return impl.Step{Kind: kind, A: a, B: n.between(0, vars)}
	case impl.StepLiteral:
		return impl.Step{Kind: kind, A: n.literal(vars)}
	case impl.StepDelete:
		return impl.Step{Kind: kind, A: a}
	case impl.StepRup, impl.StepDelete + 1:
		if n.between(0, 9) == 0 {
			return rup(impl.Constraint{Bound: 1})
		}
		return rup(n.smallConstraint(t, vars))
	}
	return impl.Step{Kind: impl.StepAdd, A: a, B: b}
}

// smallProof tries many steps and keeps the valid ones, and sometimes one at the end that is not valid.
func (n *numbers) smallProof(t *testing.T, list []impl.Constraint, vars int) []impl.Step {
	t.Helper()
	var steps []impl.Step
	count := len(list)
	for range n.between(0, 25) {
		s := n.step(t, count, vars)
		if _, at := runSlowly(list, append(slices.Clone(steps), s)); at < 0 {
			steps = append(steps, s)
			if s.Kind != impl.StepDelete {
				count++
			}
		} else if n.between(0, 19) == 0 {
			return append(steps, s)
		}
	}
	return steps
}

func TestProofsAgainstASlowChecker(t *testing.T) {
	n := &numbers{state: 13}
	failed, refuted, shorter := 0, 0, 0
	for range 1500 {
		vars := n.between(1, 5)
		list := n.smallProblem(t, vars)
		steps := n.smallProof(t, list, vars)
		run, wantAt := runSlowly(list, steps)
		left, at := impl.RunProof(list, steps)
		if at != wantAt {
			t.Fatalf("RunProof(%v, %v) = %v, %d, not %d", list, steps, left, at, wantAt)
		}
		trimmed, ok := impl.TrimProof(list, steps)
		if at >= 0 {
			failed++
			checkRunFails(t, "a step that is not valid", list, steps, at)
			continue
		}
		if !sameProblem(left, run.left()) {
			t.Fatalf("RunProof(%v, %v) = %v, not %v", list, steps, left, run.left())
		}
		want, refutes := run.trimSlowly()
		if impl.CheckRefutation(list, steps) != refutes || ok != refutes || !impl.ProofSame(trimmed, want) {
			t.Fatalf("TrimProof(%v, %v) = %v, %v, not %v, %v", list, steps, trimmed, ok, want, refutes)
		}
		if refutes {
			refuted++
			if !impl.CheckRefutation(list, trimmed) {
				t.Fatalf("TrimProof(%v, %v) = %v, which is no refutation", list, steps, trimmed)
			}
			if len(trimmed) < len(steps) {
				shorter++
			}
		}
	}
	if failed < 100 || refuted < 100 || shorter < 100 {
		t.Errorf("only %d proofs fail, %d are refutations, %d become shorter", failed, refuted, shorter)
	}
}

func TestProvedConstraintsHoldInAllSolutions(t *testing.T) {
	n := &numbers{state: 14}
	derived, covered, refuted := 0, 0, 0
	for range 1500 {
		vars := n.between(1, 5)
		list := n.smallProblem(t, vars)
		steps := n.smallProof(t, list, vars)
		left, _ := impl.RunProof(list, steps)
		c := n.smallConstraint(t, vars)
		follows, refutes := impl.CheckDerivation(list, steps, c), impl.CheckRefutation(list, steps)
		if follows {
			covered++
		}
		if refutes {
			refuted++
		}
		for bits := range 1 << vars {
			values := valuesOf(bits)
			if !satisfied(list, values) {
				continue
			}
			derived += len(left)
			if !satisfied(left, values) {
				t.Fatalf("RunProof(%v, %v) = %v, which %b does not satisfy", list, steps, left, bits)
			}
			if follows && trueSum(c.Terms, values) < c.Bound {
				t.Fatalf("CheckDerivation(%v, %v, %v) is true, but not for %b", list, steps, c, bits)
			}
			if refutes {
				t.Fatalf("CheckRefutation(%v, %v) is true, but %b is a solution", list, steps, bits)
			}
		}
	}
	if derived < 10000 || covered < 100 || refuted < 100 {
		t.Errorf("only %d constraints are derived, %d covered, %d proofs are refutations", derived, covered, refuted)
	}
}

func TestTextsOfProofsAreReadBack(t *testing.T) {
	n := &numbers{state: 15}
	for range 300 {
		var steps []impl.Step
		for range n.between(0, 30) {
			steps = append(steps, n.step(t, n.between(0, 1400), impl.MaxVars))
		}
		text := impl.FormatProof(steps)
		if again, ok := impl.ParseProof(text); !ok || !impl.ProofSame(again, steps) || strings.Count(text, "\n") != len(steps) {
			t.Fatalf("ParseProof(%q) = %v, %v, not %v", text, again, ok, steps)
		}
	}
}

// spoil overwrites the terms of a constraint, up to their capacity.
func spoil(c impl.Constraint) {
	for i := range c.Terms[:cap(c.Terms)] {
		c.Terms[:cap(c.Terms)][i] = impl.Term{Coef: 9, Lit: 9}
	}
}

func TestProofsKeepTheirArguments(t *testing.T) {
	texts := []string{"1 x1 1 x2 >= 1", "1 x1 1 ~x2 >= 1", "1 ~x1 1 x2 >= 1", "1 ~x1 1 ~x2 >= 1", "1 x5 >= 1"}
	lines := []string{"weaken 0 7", "saturate 4", "multiply 4 1", "rup 1 x1 1 x9 >= 1", "delete 1", "rup >= 1", "delete 4"}
	terms := append(read(t, texts[0]).Terms, impl.Term{Coef: 7, Lit: 7})
	list := readAll(t, append(texts, "1 x11 >= 1")...)
	list[0].Terms = terms[:2]
	steps := readSteps(t, append(lines, "literal x3")...)
	given := append(steps[3].Given.Terms, impl.Term{Coef: 8, Lit: 8})
	steps[3].Given.Terms = given[:2]
	steps[4] = impl.Step{Kind: impl.StepDelete, A: 0}
	check := func(name string) {
		t.Helper()
		want := readSteps(t, append(lines, "literal x3")...)
		want[4].A = 0
		if !sameProblem(list, readAll(t, append(texts, "1 x11 >= 1")...)) || terms[2] != (impl.Term{Coef: 7, Lit: 7}) {
			t.Errorf("%s changes the problem: %v", name, list)
		}
		if !impl.ProofSame(steps, want) || given[2] != (impl.Term{Coef: 8, Lit: 8}) {
			t.Errorf("%s changes the proof: %v", name, steps)
		}
	}
	argument, proof := list[:5], steps[:5]
	left, at := impl.RunProof(argument, proof)
	again, _ := impl.RunProof(argument, proof)
	if at != -1 || len(left) != 8 || !sameProblem(left, again) {
		t.Fatalf("RunProof = %v, %d", left, at)
	}
	for i := range left {
		spoil(left[i])
		for j := i + 1; j < len(left); j++ {
			if !impl.ConstraintSame(left[j], again[j]) {
				t.Errorf("results %d and %d of RunProof share memory", i, j)
			}
		}
	}
	left[:cap(left)][cap(left)-1] = impl.Constraint{Bound: -1}
	check("a result of RunProof")
	impl.CheckRefutation(argument, proof)
	impl.CheckDerivation(argument, proof, list[0])
	impl.FormatProof(proof)
	impl.ProofSame(proof, steps)
	check("a function")
}

func TestTrimmedProofsShareNoMemory(t *testing.T) {
	list := readAll(t, "1 x1 1 x2 >= 1", "1 x1 1 ~x2 >= 1", "1 ~x1 1 x2 >= 1", "1 ~x1 1 ~x2 >= 1")
	lines := []string{"literal x4", "rup 1 x1 1 x9 >= 1", "rup 1 x1 >= 1", "rup 1 x1 >= 1", "rup >= 1"}
	steps := readSteps(t, lines...)
	shared := append(steps[2].Given.Terms, impl.Term{Coef: 8, Lit: 8})
	steps[2].Given.Terms, steps[3].Given.Terms = shared[:1], shared[:1]
	trimmed, ok := impl.TrimProof(list, steps)
	if !ok || !impl.ProofSame(trimmed, readSteps(t, lines...)) {
		t.Fatalf("TrimProof = %v, %v", trimmed, ok)
	}
	spoil(trimmed[2].Given)
	if !impl.ProofSame(trimmed[3:], readSteps(t, lines[3:]...)) {
		t.Error("steps of a trimmed proof share memory")
	}
	spoil(trimmed[1].Given)
	trimmed[0].Kind = 9
	if !impl.ProofSame(steps, readSteps(t, lines...)) || shared[1] != (impl.Term{Coef: 8, Lit: 8}) {
		t.Error("a trimmed proof shares memory with its argument")
	}
	renumbered := readSteps(t, "literal x4", "weaken 0 2", "add 0 1", "divide 6 2", "add 2 3", "divide 8 2", "add 7 9")
	before := slices.Clone(renumbered)
	if trimmed, ok := impl.TrimProof(list, renumbered); !ok || len(trimmed) != 5 || !impl.ProofSame(renumbered, before) {
		t.Errorf("TrimProof = %v, %v of %v", trimmed, ok, renumbered)
	}
}

func TestParsedProofsShareNoMemory(t *testing.T) {
	text := "rup 1 x1 1 x2 >= 1\nrup 1 x3 >= 1\nrup 1 x4 1 x5 1 x6 >= 1\n"
	steps, _ := impl.ParseProof(text)
	other, ok := impl.ParseProof(text)
	if !ok || len(steps) != 3 {
		t.Fatalf("ParseProof = %v, %v", steps, ok)
	}
	spoil(steps[1].Given)
	spoil(other[0].Given)
	spoil(other[2].Given)
	if impl.FormatConstraint(steps[0].Given) != "1 x1 1 x2 >= 1" || impl.FormatConstraint(steps[2].Given) != "1 x4 1 x5 1 x6 >= 1" || impl.FormatConstraint(other[1].Given) != "1 x3 >= 1" {
		t.Error("steps of proofs share memory")
	}
}
