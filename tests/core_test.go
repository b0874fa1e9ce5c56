package tests

import (
	"math"
	"runtime"
	"slices"
	"sync"
	"testing"
	"time"

	"loop.example/cuttingplanes/impl"
)

// solvable reports whether a problem has a solution. It has only the first variables.
func solvable(list []impl.Constraint, vars int) bool {
	for bits := range 1 << vars {
		if satisfied(list, valuesOf(bits)) {
			return true
		}
	}
	return false
}

// pick returns the constraints at some places, which may be in any order.
func pick(list []impl.Constraint, places []int) []impl.Constraint {
	var picked []impl.Constraint
	for _, place := range places {
		picked = append(picked, list[place])
	}
	return picked
}

func without(places []int, place int) []int {
	return slices.DeleteFunc(slices.Clone(places), func(other int) bool { return other == place })
}

// slowCore is for a problem without solutions.
func slowCore(list []impl.Constraint, vars int) []int {
	core := unmoved(len(list))
	for place := len(list) - 1; place >= 0; place-- {
		if rest := without(core, place); !solvable(pick(list, rest), vars) {
			core = rest
		}
	}
	return core
}

func slowCoreMinimal(list []impl.Constraint, vars int) bool {
	all := unmoved(len(list))
	canSpare := func(place int) bool { return !solvable(pick(list, without(all, place)), vars) }
	return !solvable(list, vars) && !slices.ContainsFunc(all, canSpare)
}

func slowMaximalPart(list []impl.Constraint, vars int) []int {
	var part []int
	for place := range list {
		if more := append(slices.Clone(part), place); solvable(pick(list, more), vars) {
			part = more
		}
	}
	return part
}

func slowViolations(list []impl.Constraint, values []bool) int {
	count := 0
	for _, c := range list {
		if !satisfied([]impl.Constraint{c}, values) {
			count++
		}
	}
	return count
}

func slowFlip(list []impl.Constraint, values []bool) ([]bool, int) {
	var counts []int
	for i := range values {
		changed := slices.Clone(values)
		changed[i] = !changed[i]
		counts = append(counts, slowViolations(list, changed))
	}
	changed := slices.Clone(values)
	first := slices.Index(counts, slices.Min(counts))
	changed[first] = !changed[first]
	return changed, counts[first]
}

// clause has up to three literals.
func (n *numbers) clause(vars int) impl.Constraint {
	p := make([]int, impl.MaxVars)
	for range n.between(1, 3) {
		lit := n.literal(vars)
		p[max(lit, -lit)-1] = lit
	}
	clause := impl.Constraint{Bound: 1}
	for _, lit := range p {
		if lit != 0 {
			clause.Terms = append(clause.Terms, impl.Term{Coef: 1, Lit: lit})
		}
	}
	return clause
}

// tightProblem often has no solution, and sometimes a constraint that is false or that occurs twice.
func (n *numbers) tightProblem(t *testing.T, vars int) []impl.Constraint {
	t.Helper()
	var list []impl.Constraint
	for range n.between(0, 4*vars) {
		list = append(list, n.clause(vars))
	}
	for range n.between(0, 3) {
		c := n.smallConstraint(t, vars)
		c.Bound = min(c.Bound, impl.TotalCoef(c)*n.between(1, 6)/6)
		list = slices.Insert(list, n.between(0, len(list)), c)
	}
	if len(list) > 0 && n.between(0, 3) == 0 {
		list = slices.Insert(list, n.between(0, len(list)), list[n.between(0, len(list)-1)])
	}
	if n.between(0, 9) == 0 {
		list = slices.Insert(list, n.between(0, len(list)), impl.Constraint{Bound: n.between(1, 3)})
	}
	return list
}

// leaves has MaxProblem clauses. All values violate exactly one of them, and each of them is violated by some values.
func leaves() []impl.Constraint {
	const depth = 8
	var list []impl.Constraint
	for bits := range 1 << depth {
		clause := impl.Constraint{Bound: 1}
		for i, value := range valuesOf(bits)[:depth] {
			clause.Terms = append(clause.Terms, impl.Term{Coef: 1, Lit: i + 1})
			if value {
				clause.Terms[i].Lit = -i - 1
			}
		}
		if bits >= impl.MaxProblem-1<<depth {
			list = append(list, clause)
			continue
		}
		for _, lit := range []int{impl.MaxVars, -impl.MaxVars} {
			split := impl.Constraint{Terms: append(slices.Clone(clause.Terms), impl.Term{Coef: 1, Lit: lit}), Bound: 1}
			list = append(list, split)
		}
	}
	return list
}

// pigeons states that each of three pigeons is in one of two holes, and that no hole has two of them.
func pigeons() []string {
	return []string{
		"1 x1 1 x2 >= 1", "1 x3 1 x4 >= 1", "1 x5 1 x6 >= 1",
		"1 ~x1 1 ~x3 1 ~x5 >= 2", "1 ~x2 1 ~x4 1 ~x6 >= 2",
	}
}

// checkNoCore checks that all functions refuse a list that is not a problem.
func checkNoCore(t *testing.T, list []impl.Constraint) {
	t.Helper()
	for _, keep := range [][]int{nil, {}, {0}, {0, 2}} {
		if part, ok := impl.SubProblem(list, keep); ok || len(part) != 0 {
			t.Errorf("SubProblem(%.80v, %v) = %v, %v", list, keep, part, ok)
		}
	}
	for _, steps := range [][]impl.Step{nil, idleSteps(1), {{Kind: impl.StepRup, Given: impl.Constraint{Bound: 1}}}} {
		if used, ok := impl.UsedInputs(list, steps); ok || len(used) != 0 {
			t.Errorf("UsedInputs(%.80v, %v) = %v, %v", list, steps, used, ok)
		}
	}
	if core, ok := impl.MinimalCore(list); ok || len(core) != 0 {
		t.Errorf("MinimalCore(%.80v) = %v, %v", list, core, ok)
	}
	if impl.CoreMinimal(list) {
		t.Errorf("CoreMinimal accepts %.80v", list)
	}
	if part, ok := impl.MaximalPart(list); ok || len(part) != 0 {
		t.Errorf("MaximalPart(%.80v) = %v, %v", list, part, ok)
	}
	checkNoCount(t, list, valuesOf(5))
}

func checkNoCount(t *testing.T, list []impl.Constraint, values []bool) {
	t.Helper()
	if count, ok := impl.ViolationCount(list, values); ok || count != 0 {
		t.Errorf("ViolationCount(%.80v, %.80v) = %d, %v", list, values, count, ok)
	}
	if changed, count, ok := impl.FlipBest(list, values); ok || count != 0 || len(changed) != 0 {
		t.Errorf("FlipBest(%.80v, %.80v) = %v, %d, %v", list, values, changed, count, ok)
	}
}

func TestCoresOfWhatIsNotAProblem(t *testing.T) {
	for _, list := range invalidProblems() {
		checkNoCore(t, list)
		checkNoCore(t, append(readAll(t, ">= 1", "1 x1 >= 1", "1 ~x1 >= 1"), list...))
		for _, values := range notValues() {
			checkNoCount(t, list, values)
		}
	}
	checkNoCore(t, append(leaves(), impl.Constraint{}))
	checkNoCore(t, slices.Repeat(readAll(t, ">= 1"), impl.MaxProblem+1))
}

func TestSubProblem(t *testing.T) {
	texts := []string{"1 x1 >= 1", "2 ~x2 3 x12 >= 4", ">= 5", "1 x1 >= 1", ">= 0"}
	for _, keep := range [][]int{nil, {}, {0}, {4}, {2}, {0, 3}, {1, 2, 4}, {0, 1, 2, 3, 4}} {
		var want []string
		for _, index := range keep {
			want = append(want, texts[index])
		}
		if part, ok := impl.SubProblem(readAll(t, texts...), keep); !ok || !sameProblem(part, readAll(t, want...)) {
			t.Errorf("SubProblem for %v = %v, %v", keep, part, ok)
		}
	}
	if part, ok := impl.SubProblem(nil, nil); !ok || len(part) != 0 {
		t.Errorf("SubProblem of nothing = %v, %v", part, ok)
	}
	for _, keep := range [][]int{
		{-1}, {5}, {0, 5}, {0, 6}, {-1, 0}, {1, 0}, {4, 3}, {0, 0}, {2, 2}, {0, 1, 1}, {0, 2, 1, 3}, {0, 1, 2, 3, 4, 5}, {0, 1, 2, 3, 4, 4},
		{math.MinInt}, {math.MaxInt}, {0, math.MaxInt}, {math.MinInt, 0}, {0, math.MinInt}, {math.MaxInt, math.MinInt}, make([]int, 3000),
	} {
		if part, ok := impl.SubProblem(readAll(t, texts...), keep); ok || len(part) != 0 {
			t.Errorf("SubProblem for %.80v = %v, %v", keep, part, ok)
		}
	}
	for _, keep := range [][]int{{0}, {-1}} {
		if part, ok := impl.SubProblem(nil, keep); ok || len(part) != 0 {
			t.Errorf("SubProblem of nothing for %v = %v, %v", keep, part, ok)
		}
	}
	full := leaves()
	if part, ok := impl.SubProblem(full, unmoved(impl.MaxProblem)); !ok || !sameProblem(part, full) {
		t.Errorf("SubProblem of MaxProblem constraints = %d constraints, %v", len(part), ok)
	}
	if part, ok := impl.SubProblem(full, []int{399}); !ok || !sameProblem(part, full[399:]) {
		t.Errorf("SubProblem of the last of MaxProblem constraints = %v, %v", part, ok)
	}
	if part, ok := impl.SubProblem(full, []int{399, 400}); ok || len(part) != 0 {
		t.Errorf("SubProblem past MaxProblem constraints = %v, %v", part, ok)
	}
}

func TestUsedInputs(t *testing.T) {
	list := []string{"1 x1 1 x5 >= 2", "1 x3 >= 1", "1 ~x1 1 ~x5 >= 1", "1 x4 >= 1", "1 ~x4 >= 1"}
	for _, x := range []struct {
		name        string
		list, steps []string
		want        string
	}{
		{"a sum", list, []string{"add 0 2"}, "02"},
		{"a sum in the other order", list, []string{"add 2 0"}, "02"},
		{"the last constraints", list, []string{"add 3 4"}, "34"},
		{"other steps", list, []string{"literal x4", "add 1 3", "saturate 5", "add 0 2", "weaken 1 3"}, "02"},
		{"through other steps", list, []string{"multiply 0 3", "literal x9", "divide 5 3", "saturate 2", "add 7 8"}, "02"},
		{"a constraint that adds nothing", []string{"1 x1 >= 1", ">= 0", "1 ~x1 >= 1"}, []string{"add 0 1", "add 3 2"}, "012"},
		{"a constraint that is used twice", []string{"1 x2 >= 0", "2 x1 >= 2", "1 ~x1 >= 1"}, []string{"add 1 2", "add 3 2"}, "12"},
		{"the first false constraint", list, []string{"add 3 4", "add 0 2"}, "34"},
		{"the first false constraint that is not deleted", list, []string{"add 3 4", "add 0 2", "delete 5"}, "02"},
		{"a false constraint from a deleted one", list, []string{"add 3 4", "add 0 5", "add 6 2", "delete 5"}, "034"},
		{"constraints that are deleted later", list, []string{"add 0 2", "delete 0", "delete 1", "delete 2", "delete 3", "delete 4"}, "02"},
		{"a false constraint of the problem", []string{"1 x1 >= 1", "1 x1 1 x2 >= 3", ">= 0"}, nil, "1"},
		{"a false constraint of the problem and steps", []string{">= 0", ">= 1", "1 x1 >= 1"}, []string{"add 1 2", "rup >= 1"}, "1"},
		{"several false constraints of the problem", []string{">= 0", ">= 1", ">= 2"}, nil, "1"},
		{"the first one of them is deleted", []string{">= 0", ">= 1", ">= 2"}, []string{"add 0 1", "delete 1"}, "2"},
		{"all of them are deleted", []string{">= 1", ">= 0", ">= 2"}, []string{"multiply 2 2", "delete 0", "delete 2"}, "2"},
		{"reverse unit propagation", list, []string{"rup >= 1"}, "01234"},
		{"reverse unit propagation of a false constraint with terms", list, []string{"rup 1 x1 >= 2"}, "01234"},
		{"reverse unit propagation before", list, []string{"rup 1 x1 >= 1", "rup 1 ~x1 >= 1", "add 5 6"}, "01234"},
		{"reverse unit propagation of what holds anyway", list, []string{"rup >= 0", "add 0 5", "add 6 2"}, "01234"},
		{"reverse unit propagation that is not needed", list, []string{"rup 1 x1 >= 1", "add 0 2"}, "02"},
		{"reverse unit propagation after", list, []string{"add 0 2", "rup >= 1"}, "02"},
		{"reverse unit propagation without deleted constraints", list, []string{"delete 1", "delete 0", "rup >= 1"}, "01234"},
		{"reverse unit propagation, deleted", list, []string{"rup >= 1", "add 0 2", "delete 5"}, "02"},
	} {
		used, ok := impl.UsedInputs(readAll(t, x.list...), readSteps(t, x.steps...))
		if !ok || !slices.Equal(used, digits(x.want)) {
			t.Errorf("%s: UsedInputs = %v, %v, not %s", x.name, used, ok, x.want)
		}
	}
}

func TestUsedInputsRefuses(t *testing.T) {
	list := []string{"1 x1 1 x5 >= 2", "1 ~x1 1 ~x5 >= 1", "1 x3 >= 1"}
	for _, x := range []struct {
		name        string
		list, steps []string
	}{
		{"nothing", nil, nil},
		{"no steps", list, nil},
		{"no false constraint", list, []string{"add 0 2", "saturate 3"}},
		{"the false constraint is deleted", list, []string{"add 0 1", "delete 3"}},
		{"the false constraint of the problem is deleted", []string{">= 1", ">= 0"}, []string{"delete 0"}},
		{"a step that is not valid", list, []string{"add 0 1", "delete 4"}},
		{"a step that is not valid before", list, []string{"saturate 3", "add 0 1"}},
		{"a step refers to a deleted constraint", list, []string{"delete 0", "add 0 1"}},
		{"a constraint that does not follow", list[1:], []string{"rup >= 1"}},
		{"a step that is not valid, false in the problem", []string{">= 1"}, []string{"delete 1"}},
	} {
		if used, ok := impl.UsedInputs(readAll(t, x.list...), readSteps(t, x.steps...)); ok || len(used) != 0 {
			t.Errorf("%s: UsedInputs = %v, %v", x.name, used, ok)
		}
	}
	for _, s := range malformedSteps() {
		if used, ok := impl.UsedInputs(readAll(t, ">= 1", ">= 1", ">= 1"), []impl.Step{s}); ok || len(used) != 0 {
			t.Errorf("UsedInputs with the step %v = %v, %v", s, used, ok)
		}
	}
}

func TestLimitsOfUsedInputs(t *testing.T) {
	list := fullProblem()
	list[7], list[impl.MaxProblem-1] = read(t, "1 x1 >= 1"), read(t, "1 ~x1 >= 1")
	steps := idleSteps(impl.MaxSteps)
	steps[impl.MaxSteps-1] = impl.Step{Kind: impl.StepAdd, A: 7, B: impl.MaxProblem - 1}
	if used, ok := impl.UsedInputs(list, steps); !ok || !slices.Equal(used, []int{7, impl.MaxProblem - 1}) {
		t.Errorf("UsedInputs at its limits = %v, %v", used, ok)
	}
	steps[impl.MaxSteps-1] = rup(read(t, ">= 1"))
	if used, ok := impl.UsedInputs(list, steps); !ok || !slices.Equal(used, unmoved(impl.MaxProblem)) {
		t.Errorf("UsedInputs at its limits, by reverse unit propagation = %v, %v", used, ok)
	}
	if used, ok := impl.UsedInputs(list, append(steps, steps[0])); ok || len(used) != 0 {
		t.Errorf("UsedInputs with more than MaxSteps steps = %v, %v", used, ok)
	}
	code, _, steps := impl.SolveProblem(leaves(), impl.MaxFuel)
	if used, ok := impl.UsedInputs(leaves(), steps); code != impl.SolveUnsat || !ok || !slices.Equal(used, unmoved(impl.MaxProblem)) {
		t.Errorf("UsedInputs of a refutation that a search finds = %v, %v", used, ok)
	}
}

func TestUsedInputsAreWhatTheDocumentSays(t *testing.T) {
	n := &numbers{state: 71}
	refuted, few := 0, 0
	for range 2500 {
		vars := n.between(1, 4)
		list := n.smallProblem(t, vars)
		steps := n.smallProof(t, list, vars)
		used, ok := impl.UsedInputs(list, steps)
		run, _ := runSlowly(list, steps)
		var want []int
		refutes := false
		if run != nil {
			var needed map[int]bool
			needed, refutes = run.neededSlowly()
			want = slices.DeleteFunc(unmoved(len(list)), func(number int) bool { return !needed[number] })
		}
		if !refutes {
			want = nil
		}
		if ok != refutes || !slices.Equal(used, want) {
			t.Fatalf("UsedInputs(%q, %q) = %v, %v, not %v", impl.FormatProblem(list), impl.FormatProof(steps), used, ok, want)
		}
		if !ok {
			continue
		}
		refuted++
		if len(used) < len(list) {
			few++
		}
		if part, ok := impl.SubProblem(list, used); !ok || solvable(part, vars) {
			t.Errorf("UsedInputs(%q, %q) = %v, a part with a solution", impl.FormatProblem(list), impl.FormatProof(steps), used)
		}
	}
	if refuted < 200 || few < 100 {
		t.Errorf("only %d proofs are refutations, %d do not use all constraints", refuted, few)
	}
}

func TestMinimalCore(t *testing.T) {
	units := []string{"1 ~x1 1 ~x2 1 ~x3 1 ~x4 >= 1", "1 x1 >= 1", "1 x2 >= 1", "1 x3 >= 1", "1 x4 >= 1"}
	for _, x := range []struct {
		name string
		list []string
		want string
	}{
		{"example", []string{"1 x1 >= 1", "1 x2 >= 1", "1 ~x1 >= 1"}, "02"},
		{"a constraint that is false", []string{">= 1"}, "0"},
		{"a constraint with terms that is false", []string{"1 x1 1 x2 >= 3"}, "0"},
		{"a constraint that is almost false", []string{"1 x1 1 x2 >= 2", "1 ~x1 1 ~x2 >= 1"}, "01"},
		{"the first constraint is false", []string{">= 1", "1 x1 >= 1", "1 ~x1 >= 1"}, "0"},
		{"the second constraint is false", []string{"1 x1 >= 1", ">= 1", "1 ~x1 >= 1"}, "1"},
		{"the last constraint is false", []string{"1 x1 >= 1", "1 ~x1 >= 1", ">= 1"}, "01"},
		{"the last constraint is false and alone", []string{"1 x1 >= 1", "1 x2 >= 1", "3 x1 >= 4"}, "2"},
		{"two constraints are false", []string{"1 x1 >= 1", ">= 2", "1 x2 >= 1", ">= 1"}, "1"},
		{"duplicates", []string{"1 x1 >= 1", "1 x1 >= 1", "1 ~x1 >= 1", "1 ~x1 >= 1"}, "02"},
		{"two cores", []string{"1 x1 >= 1", "1 x2 >= 1", "1 ~x2 >= 1", "1 ~x1 >= 1"}, "12"},
		{"two cores, one within the other's places", []string{"1 x2 >= 1", "1 x1 >= 1", "1 ~x1 >= 1", "1 ~x2 >= 1"}, "12"},
		{"two cores, one after the other", []string{"1 x2 >= 1", "1 ~x2 >= 1", "1 x1 >= 1", "1 ~x1 >= 1"}, "01"},
		{"two cores that share a constraint", []string{"1 x1 1 x2 >= 2", "1 ~x1 >= 1", "1 ~x2 >= 1"}, "01"},
		{"two cores that share the last constraint", []string{"1 ~x1 >= 1", "1 ~x2 >= 1", "1 x1 1 x2 >= 2"}, "02"},
		{"a larger core comes first", []string{"1 x1 1 x2 >= 1", "1 ~x1 >= 1", "1 ~x2 >= 1", "1 x2 >= 1"}, "012"},
		{"constraints that always hold", []string{">= 0", "1 x1 >= 1", "2 x1 1 ~x3 >= 0", "1 ~x1 >= 1", ">= 0"}, "13"},
		{"a clause and units", units, "01234"},
		{"a clause and units in the other order", []string{units[4], units[3], units[2], units[1], units[0]}, "01234"},
		{"a clause and units and others", slices.Concat(units[:2], []string{"1 x5 >= 1"}, units[2:4], []string{"1 x1 1 ~x6 >= 2"}, units[4:]), "01346"},
		{"propagation alone does not find it", []string{"1 x1 1 x2 >= 1", "1 x3 >= 1", "1 ~x1 1 x2 >= 1", "1 x1 1 ~x2 >= 1", "1 x1 1 x3 >= 1", "1 ~x1 1 ~x2 >= 1"}, "0235"},
		{"pigeons", pigeons(), "01234"},
		{"more pigeons", append(pigeons(), "1 x1 1 x4 >= 1", "1 ~x5 >= 1"), "01234"},
		{"a sum that is even", []string{"1 x7 >= 1", "2 x1 2 x2 2 x3 >= 3", "1 x3 >= 0", "2 ~x1 2 ~x2 2 ~x3 >= 3"}, "13"},
	} {
		list := readAll(t, x.list...)
		core, ok := impl.MinimalCore(list)
		if !ok || !slices.Equal(core, digits(x.want)) {
			t.Errorf("%s: MinimalCore = %v, %v, not %s", x.name, core, ok, x.want)
		}
		if impl.CoreMinimal(list) != (len(x.want) == len(list)) {
			t.Errorf("%s: CoreMinimal = %v", x.name, impl.CoreMinimal(list))
		}
	}
}

func TestProblemsWithSolutionsHaveNoCore(t *testing.T) {
	full := fullProblem()
	full[impl.MaxProblem-1] = read(t, "1 x12 >= 1")
	for _, list := range [][]impl.Constraint{
		nil,
		{},
		{{}},
		readAll(t, "1 x1 >= 1"),
		readAll(t, "1 x1 >= 1", "1 x2 >= 1"),
		readAll(t, "1 x1 1 x2 >= 1", "1 x1 1 ~x2 >= 1", "1 ~x1 1 x2 >= 1"),
		readAll(t, pigeons()[:4]...),
		readAll(t, pigeons()[1:]...),
		{overAllVars(1, 12, false)},
		{overAllVars(1, 12, true)},
		exactly(6, slices.Repeat([]int{1}, 12)...),
		full,
		leaves()[1:],
		leaves()[:impl.MaxProblem-1],
	} {
		if core, ok := impl.MinimalCore(list); ok || len(core) != 0 {
			t.Errorf("MinimalCore(%.200q) = %v, %v", impl.FormatProblem(list), core, ok)
		}
		if impl.CoreMinimal(list) {
			t.Errorf("CoreMinimal accepts %.200q", impl.FormatProblem(list))
		}
		if part, ok := impl.MaximalPart(list); !ok || !slices.Equal(part, unmoved(len(list))) {
			t.Errorf("MaximalPart(%.200q) = %v, %v", impl.FormatProblem(list), part, ok)
		}
	}
}

func TestCoresWithAllVariables(t *testing.T) {
	sum := exactly(11, slices.Repeat([]int{2}, 12)...)
	if core, ok := impl.MinimalCore(sum); !ok || !slices.Equal(core, []int{0, 1}) || !impl.CoreMinimal(sum) {
		t.Errorf("MinimalCore of an odd sum = %v, %v", core, ok)
	}
	sum = exactly(6000, slices.Repeat([]int{1000}, 12)...)
	if core, ok := impl.MinimalCore(sum); ok || len(core) != 0 {
		t.Errorf("MinimalCore of a sum that is possible = %v, %v", core, ok)
	}
	sum = exactly(6001, slices.Repeat([]int{1000}, 12)...)
	if core, ok := impl.MinimalCore(sum); !ok || !slices.Equal(core, []int{0, 1}) {
		t.Errorf("MinimalCore of a sum that is not possible = %v, %v", core, ok)
	}
	// The values at each place are the only ones that satisfy all constraints but the first one.
	for _, place := range []int{0, 1, 63, 64, 2047, 2048, 4095} {
		clause, _ := impl.BlockingClause(valuesOf(place))
		list := []impl.Constraint{clause}
		for _, term := range clause.Terms {
			list = append(list, impl.Constraint{Terms: []impl.Term{{Coef: 1, Lit: -term.Lit}}, Bound: 1})
		}
		core, ok := impl.MinimalCore(list)
		if !ok || !slices.Equal(core, unmoved(impl.MaxVars+1)) || !impl.CoreMinimal(list) {
			t.Errorf("MinimalCore around the values %d = %v, %v", place, core, ok)
		}
		if part, ok := impl.MaximalPart(list); !ok || !slices.Equal(part, unmoved(impl.MaxVars)) {
			t.Errorf("MaximalPart around the values %d = %v, %v", place, part, ok)
		}
		if values, ok := impl.NextSolution(list[1:], inOrder(0)); !ok || !slices.Equal(values, valuesOf(place)) {
			t.Errorf("the values %d are not the solution without the first constraint: %v, %v", place, values, ok)
		}
	}
}

func TestLimitsOfCores(t *testing.T) {
	list := leaves()
	if core, ok := impl.MinimalCore(list); !ok || !slices.Equal(core, unmoved(impl.MaxProblem)) || !impl.CoreMinimal(list) {
		t.Errorf("MinimalCore of MaxProblem constraints that are all needed = %v, %v", core, ok)
	}
	if part, ok := impl.MaximalPart(list); !ok || !slices.Equal(part, unmoved(impl.MaxProblem-1)) {
		t.Errorf("MaximalPart of MaxProblem constraints that are all needed = %v, %v", part, ok)
	}
	list = fullProblem()
	list[3], list[impl.MaxProblem-1] = read(t, "1 x1 >= 1"), read(t, "1 ~x1 >= 1")
	if core, ok := impl.MinimalCore(list); !ok || !slices.Equal(core, []int{3, impl.MaxProblem - 1}) || impl.CoreMinimal(list) {
		t.Errorf("MinimalCore of MaxProblem constraints = %v, %v", core, ok)
	}
	list = slices.Repeat(readAll(t, "1 x1 >= 2"), impl.MaxProblem)
	if core, ok := impl.MinimalCore(list); !ok || !slices.Equal(core, []int{0}) || impl.CoreMinimal(list) {
		t.Errorf("MinimalCore of MaxProblem constraints that are false = %v, %v", core, ok)
	}
	if part, ok := impl.MaximalPart(list); !ok || len(part) != 0 {
		t.Errorf("MaximalPart of MaxProblem constraints that are false = %v, %v", part, ok)
	}
}

func TestCoreMinimal(t *testing.T) {
	for _, x := range []struct {
		name string
		list []string
		want bool
	}{
		{"nothing", nil, false},
		{"a constraint that always holds", []string{">= 0"}, false},
		{"a constraint", []string{"1 x1 >= 1"}, false},
		{"a constraint that is false", []string{">= 1"}, true},
		{"two constraints that are false", []string{">= 1", ">= 1"}, false},
		{"the first of two constraints is false", []string{">= 1", ">= 0"}, false},
		{"the second of two constraints is false", []string{">= 0", ">= 1"}, false},
		{"two constraints", []string{"1 x1 >= 1", "1 ~x1 >= 1"}, true},
		{"without the first one it has no solution either", []string{"1 x2 >= 1", "1 x1 >= 1", "1 ~x1 >= 1"}, false},
		{"without the second one it has no solution either", []string{"1 x1 >= 1", "1 x2 >= 1", "1 ~x1 >= 1"}, false},
		{"without the last one it has no solution either", []string{"1 x1 >= 1", "1 ~x1 >= 1", "1 x2 >= 1"}, false},
		{"any single one can be removed", []string{"1 x1 1 x2 >= 2", "1 x1 1 ~x2 >= 2", "1 ~x1 1 x2 >= 2"}, false},
		{"only the first or the second one can be removed", []string{"1 x1 >= 1", "1 x1 1 x3 >= 2", "1 ~x1 >= 1"}, false},
		{"all clauses of two variables", []string{"1 x1 1 x2 >= 1", "1 ~x1 1 x2 >= 1", "1 x1 1 ~x2 >= 1", "1 ~x1 1 ~x2 >= 1"}, true},
		{"pigeons", pigeons(), true},
		{"pigeons without the first one", pigeons()[1:], false},
		{"two pigeons too many", append(pigeons(), "1 x7 1 x8 >= 1"), false},
	} {
		if got := impl.CoreMinimal(readAll(t, x.list...)); got != x.want {
			t.Errorf("%s: CoreMinimal = %v", x.name, got)
		}
	}
}

func TestMaximalPart(t *testing.T) {
	for _, x := range []struct {
		name string
		list []string
		want string
	}{
		{"nothing", nil, ""},
		{"example", []string{"1 x1 >= 1", "1 x2 >= 1", "1 ~x1 >= 1"}, "01"},
		{"a constraint that is false", []string{">= 1"}, ""},
		{"constraints that are false among others", []string{">= 1", "1 x1 >= 1", "1 x1 1 x2 >= 3", "1 x2 >= 1", ">= 20000"}, "13"},
		{"duplicates", []string{"1 ~x1 >= 1", "1 x1 >= 1", "1 ~x1 >= 1", "1 x1 >= 1"}, "02"},
		{"the first one excludes more than one", []string{"1 ~x1 1 ~x2 >= 2", "1 x1 >= 1", "1 x2 >= 1", "1 x3 >= 1"}, "03"},
		{"one that is not added excludes nothing", []string{"1 x1 >= 1", "1 ~x1 1 ~x2 >= 2", "1 x2 >= 1"}, "02"},
		{"several exclude one together", []string{"1 x1 1 x2 >= 1", "1 ~x1 >= 1", "1 ~x2 >= 1", "1 x2 1 x3 >= 2"}, "013"},
		{"pigeons", pigeons(), "0123"},
		{"propagation alone does not find it", []string{"1 x1 1 x2 >= 1", "1 ~x1 1 x2 >= 1", "1 x1 1 ~x2 >= 1", "1 ~x1 1 ~x2 >= 1", "1 x3 >= 1"}, "0124"},
	} {
		if part, ok := impl.MaximalPart(readAll(t, x.list...)); !ok || !slices.Equal(part, digits(x.want)) {
			t.Errorf("%s: MaximalPart = %v, %v, not %s", x.name, part, ok, x.want)
		}
	}
}

func TestCoresAreWhatTheDocumentSays(t *testing.T) {
	n := &numbers{state: 72}
	cores, minimal := 0, 0
	for range 2000 {
		vars := n.between(1, 5)
		list := n.tightProblem(t, vars)
		unsolvable := !solvable(list, vars)
		var want []int
		if unsolvable {
			cores++
			want = slowCore(list, vars)
			if n.between(0, 2) == 0 {
				list, want = pick(list, want), unmoved(len(want))
			}
		}
		if core, ok := impl.MinimalCore(list); ok != unsolvable || !slices.Equal(core, want) {
			t.Errorf("MinimalCore(%q) = %v, %v, not %v", impl.FormatProblem(list), core, ok, want)
		}
		smallest := slowCoreMinimal(list, vars)
		if smallest {
			minimal++
		}
		if impl.CoreMinimal(list) != smallest {
			t.Errorf("CoreMinimal(%q) = %v", impl.FormatProblem(list), !smallest)
		}
		if part, ok := impl.MaximalPart(list); !ok || !slices.Equal(part, slowMaximalPart(list, vars)) {
			t.Errorf("MaximalPart(%q) = %v, %v", impl.FormatProblem(list), part, ok)
		}
	}
	if cores < 500 || minimal < 50 {
		t.Errorf("only %d problems have no solution, %d are minimal", cores, minimal)
	}
}

func TestMinimalCoresHaveNoSolutionAndTheirPartsHave(t *testing.T) {
	n := &numbers{state: 73}
	large := 0
	for range 1500 {
		vars := n.between(2, 6)
		list := n.tightProblem(t, vars)
		core, ok := impl.MinimalCore(list)
		if !ok {
			continue
		}
		if len(core) > 2 {
			large++
		}
		part, ok := impl.SubProblem(list, core)
		if !ok || !impl.CoreMinimal(part) || solvable(part, vars) || impl.CountSolutions(part) != 0 {
			t.Errorf("MinimalCore(%q) = %v, but this part has a solution or is not minimal", impl.FormatProblem(list), core)
		}
		for _, index := range core {
			rest, ok := impl.SubProblem(list, without(core, index))
			if !ok || !solvable(rest, vars) {
				t.Errorf("MinimalCore(%q) = %v, but without %d, this part has no solution", impl.FormatProblem(list), core, index)
			}
		}
	}
	if large < 100 {
		t.Errorf("only %d cores have more than two constraints", large)
	}
}

func TestCoresOfProblemsWithAllVariables(t *testing.T) {
	n := &numbers{state: 74}
	cores := 0
	for range 25 {
		list := exactly(2*n.between(3, 8)+n.between(0, 1), 2, 2, 4, 2, 6, 4, 2, 2, 4, 2, 8, 2)
		for range n.between(4, 9) {
			list = slices.Insert(list, n.between(0, len(list)), n.clause(impl.MaxVars))
		}
		unsolvable := !solvable(list, impl.MaxVars)
		var want []int
		if unsolvable {
			cores++
			want = slowCore(list, impl.MaxVars)
		}
		if core, ok := impl.MinimalCore(list); ok != unsolvable || !slices.Equal(core, want) {
			t.Errorf("MinimalCore(%q) = %v, %v, not %v", impl.FormatProblem(list), core, ok, want)
		}
		if part, ok := impl.MaximalPart(list); !ok || !slices.Equal(part, slowMaximalPart(list, impl.MaxVars)) {
			t.Errorf("MaximalPart(%q) = %v, %v", impl.FormatProblem(list), part, ok)
		}
		if impl.CoreMinimal(list) != slowCoreMinimal(list, impl.MaxVars) {
			t.Errorf("CoreMinimal(%q) is wrong", impl.FormatProblem(list))
		}
	}
	if cores < 5 || cores > 22 {
		t.Errorf("%d problems have no solution", cores)
	}
}

func TestMaximalPartsHaveASolutionAndLargerOnesHaveNone(t *testing.T) {
	n := &numbers{state: 75}
	lost := 0
	for range 1000 {
		vars := n.between(2, 6)
		list := n.tightProblem(t, vars)
		part, ok := impl.MaximalPart(list)
		kept, isPart := impl.SubProblem(list, part)
		if !ok || !isPart || !solvable(kept, vars) {
			t.Errorf("MaximalPart(%q) = %v, %v, a part without solutions", impl.FormatProblem(list), part, ok)
		}
		for index, c := range list {
			if slices.Contains(part, index) {
				continue
			}
			lost++
			if solvable(append(slices.Clone(kept), c), vars) {
				t.Errorf("MaximalPart(%q) = %v, which has a solution with %d", impl.FormatProblem(list), part, index)
			}
		}
	}
	if lost < 500 {
		t.Errorf("only %d constraints are not in a part", lost)
	}
}

func TestViolationCount(t *testing.T) {
	list := readAll(t, "1 x1 1 x2 >= 1", "2 ~x1 1 ~x12 >= 2", ">= 0", ">= 1", "1 x1 1 x2 1 x3 >= 2")
	for _, x := range []struct {
		list []impl.Constraint
		bits int
		want int
	}{
		{list, 0, 3},
		{list, 1, 3},
		{list, 2, 2},
		{list, 3, 2},
		{list, 6, 1},
		{list, 2 | 1<<11, 2},
		{list, 1<<impl.MaxVars - 1, 2},
		{list[:3], 2, 0},
		{nil, 0, 0},
		{nil, 4095, 0},
		{fullProblem(), 5, 0},
		{slices.Repeat(readAll(t, ">= 1"), impl.MaxProblem), 5, impl.MaxProblem},
		{slices.Repeat(readAll(t, "1 x3 >= 1", "1 ~x3 >= 1"), impl.MaxProblem/2), 5, impl.MaxProblem / 2},
		{leaves(), 0, 1},
		{leaves(), 4095, 1},
		{leaves()[:impl.MaxProblem-1], 255, 0},
	} {
		if got, ok := impl.ViolationCount(x.list, valuesOf(x.bits)); !ok || got != x.want {
			t.Errorf("ViolationCount(%.200q, %012b) = %d, %v, not %d", impl.FormatProblem(x.list), x.bits, got, ok, x.want)
		}
	}
	for _, values := range notValues() {
		for _, list := range [][]impl.Constraint{nil, list, fullProblem(), readAll(t, ">= 1")} {
			checkNoCount(t, list, values)
		}
	}
}

func TestFlipBest(t *testing.T) {
	for _, x := range []struct {
		name     string
		list     []string
		bits     int
		variable int
		want     int
	}{
		{"example", []string{"1 x1 >= 1", "1 x2 >= 1", "1 ~x1 >= 1"}, 0, 2, 1},
		{"no constraints", nil, 0, 1, 0},
		{"no constraints, and the variable is true", nil, 1, 1, 0},
		{"constraints that are false", []string{">= 1", "1 x3 >= 2"}, 6, 1, 2},
		{"one variable", []string{"1 x7 >= 1"}, 0, 7, 0},
		{"the last variable", []string{"1 ~x12 >= 1"}, 1 << 11, 12, 0},
		{"the first variable", []string{"1 x1 >= 1"}, 0, 1, 0},
		{"a tie between two variables", []string{"1 x5 1 x9 >= 1"}, 0, 5, 0},
		{"a tie between two variables, one of them to be false", []string{"1 ~x4 1 x5 >= 1"}, 1 << 3, 4, 0},
		{"a tie between all variables but one", []string{"1 ~x1 >= 1"}, 0, 2, 0},
		{"a tie between the last variables", []string{"1 ~x1 1 ~x2 1 ~x3 1 ~x4 1 ~x5 1 ~x6 1 ~x7 1 ~x8 1 ~x9 1 ~x10 >= 10"}, 0, 11, 0},
		{"a tie that the second constraint breaks", []string{"1 x5 1 x9 >= 1", "1 ~x5 1 x10 >= 1"}, 0, 9, 0},
		{"no change is better", []string{"1 x1 1 x2 >= 2", "1 x3 1 x4 >= 2"}, 0, 1, 2},
		{"every change is worse", []string{"1 ~x1 1 ~x2 1 ~x3 1 ~x4 1 ~x5 1 ~x6 1 ~x7 1 ~x8 1 ~x9 1 ~x10 1 ~x11 1 ~x12 >= 12"}, 0, 1, 1},
		{"the least of changes that are worse", []string{"1 x1 1 x2 1 x3 1 x4 1 x5 1 x6 1 x7 1 x8 1 x9 1 x10 1 x11 1 x12 >= 12", "1 x1 >= 1", "1 x2 1 x3 >= 2", "1 x4 >= 0"}, 4095, 4, 1},
		{"the most violations are removed", []string{"1 x2 >= 1", "1 x3 >= 1", "1 x3 >= 1", "1 x4 >= 1"}, 0, 3, 2},
		{"one change removes violations and adds others", []string{"1 x2 >= 1", "1 x2 >= 1", "1 ~x2 >= 1", "1 ~x2 >= 1", "1 x8 >= 1"}, 0, 8, 2},
	} {
		list, values := readAll(t, x.list...), valuesOf(x.bits)
		want := valuesOf(x.bits ^ 1<<(x.variable-1))
		if changed, count, ok := impl.FlipBest(list, values); !ok || count != x.want || !slices.Equal(changed, want) {
			t.Errorf("%s: FlipBest = %v, %d, %v, not %v, %d", x.name, changed, count, ok, want, x.want)
		}
	}
	for v := 1; v <= impl.MaxVars; v++ {
		list := []impl.Constraint{{Terms: []impl.Term{{Coef: 1, Lit: -v}}, Bound: 1}}
		if changed, count, ok := impl.FlipBest(list, allBut()); !ok || count != 0 || !slices.Equal(changed, allBut(v)) {
			t.Errorf("FlipBest for the variable %d = %v, %d, %v", v, changed, count, ok)
		}
	}
	full := slices.Repeat(readAll(t, ">= 1"), impl.MaxProblem)
	if changed, count, ok := impl.FlipBest(full, allBut()); !ok || count != impl.MaxProblem || !slices.Equal(changed, allBut(1)) {
		t.Errorf("FlipBest of MaxProblem constraints that are false = %v, %d, %v", changed, count, ok)
	}
	full[impl.MaxProblem-1] = read(t, "1 ~x12 >= 1")
	if changed, count, ok := impl.FlipBest(full, allBut()); !ok || count != impl.MaxProblem-1 || !slices.Equal(changed, allBut(12)) {
		t.Errorf("FlipBest of MaxProblem constraints = %v, %d, %v", changed, count, ok)
	}
}

func TestViolationsAreWhatTheDocumentSays(t *testing.T) {
	n := &numbers{state: 76}
	var better, worse int
	for range 3000 {
		list := n.tightProblem(t, n.between(1, impl.MaxVars))
		values := valuesOf(n.between(0, 1<<impl.MaxVars-1))
		if n.between(0, 4) == 0 {
			// No other values satisfy all of these constraints.
			blocking, _ := impl.BlockingClause(values)
			only, _ := impl.NegateConstraint(blocking)
			list = append(slices.DeleteFunc(list, func(c impl.Constraint) bool { return !impl.EvalConstraint(c, values) }), only)
		}
		before, ok := impl.ViolationCount(list, values)
		if !ok || before != slowViolations(list, values) || (before == 0) != impl.SatisfiesAll(list, values) {
			t.Errorf("ViolationCount(%q, %v) = %d, %v", impl.FormatProblem(list), values, before, ok)
		}
		want, least := slowFlip(list, values)
		changed, count, ok := impl.FlipBest(list, values)
		if !ok || count != least || !slices.Equal(changed, want) {
			t.Errorf("FlipBest(%q, %v) = %v, %d, %v, not %v, %d", impl.FormatProblem(list), values, changed, count, ok, want, least)
		}
		if after, ok := impl.ViolationCount(list, changed); !ok || after != count {
			t.Errorf("FlipBest(%q, %v) returns %d, but ViolationCount %d, %v", impl.FormatProblem(list), values, count, after, ok)
		}
		switch {
		case count < before:
			better++
		case count > before:
			worse++
		}
	}
	if better < 500 || worse < 20 {
		t.Errorf("%d changes are better, %d are worse", better, worse)
	}
}

func TestCoresDependOnTheirArgumentsOnly(t *testing.T) {
	list := slices.Concat(leaves()[:100], readAll(t, pigeons()...), leaves()[100:200], readAll(t, "1 x1 >= 1", "1 ~x1 >= 1"))
	core, ok := impl.MinimalCore(list)
	part, isPart := impl.MaximalPart(list)
	if !ok || !isPart {
		t.Fatalf("MinimalCore = %v, %v, MaximalPart = %v, %v", core, ok, part, isPart)
	}
	before := runtime.NumGoroutine()
	var calls sync.WaitGroup
	for range 8 {
		calls.Go(func() {
			for range 10 {
				if again, ok := impl.MinimalCore(list); !ok || !slices.Equal(again, core) {
					t.Errorf("MinimalCore = %v, %v, not %v", again, ok, core)
				}
				if again, ok := impl.MaximalPart(list); !ok || !slices.Equal(again, part) {
					t.Errorf("MaximalPart = %v, %v, not %v", again, ok, part)
				}
				if impl.CoreMinimal(list) {
					t.Error("CoreMinimal accepts the problem")
				}
			}
		})
	}
	calls.Wait()
	for range 100 {
		if runtime.NumGoroutine() <= before {
			return
		}
		time.Sleep(10 * time.Millisecond)
	}
	t.Errorf("%d goroutines are left, %d were there before", runtime.NumGoroutine(), before)
}

func TestCoresKeepTheirArguments(t *testing.T) {
	texts := []string{"1 x1 >= 1", "1 x2 1 x3 >= 1", "1 ~x1 >= 1", "1 x5 >= 1", "1 x9 >= 1"}
	lines := []string{"add 0 2", "rup >= 1", "delete 1", "literal x3"}
	for count := range len(texts) + 1 {
		whole, steps := readAll(t, texts...), readSteps(t, lines...)
		numbers, values := [5]int{0, 1, 2, 9, 9}, append(valuesOf(77), true)
		list := whole[:count]
		for kept := range numbers {
			impl.SubProblem(list, numbers[:kept])
		}
		for made := range len(steps) + 1 {
			impl.UsedInputs(list, steps[:made])
		}
		impl.MinimalCore(list)
		impl.CoreMinimal(list)
		impl.MaximalPart(list)
		impl.ViolationCount(list, values[:impl.MaxVars])
		impl.FlipBest(list, values[:impl.MaxVars])
		if !sameProblem(whole, readAll(t, texts...)) || !impl.ProofSame(steps, readSteps(t, lines...)) || numbers != [5]int{0, 1, 2, 9, 9} ||
			!slices.Equal(values, append(valuesOf(77), true)) {
			t.Errorf("a function of %d constraints changes an argument", count)
		}
	}
}

func TestCoresShareNoMemory(t *testing.T) {
	texts := []string{"1 x1 1 x2 >= 1", "1 x1 >= 1", "1 x1 1 x2 1 x3 >= 1", ">= 0"}
	terms := append(read(t, texts[2]).Terms, impl.Term{Coef: 7, Lit: 7})
	list := readAll(t, texts...)
	for i := range 3 {
		list[i].Terms = terms[:len(list[i].Terms)]
	}
	part, ok := impl.SubProblem(list, []int{0, 1, 2})
	other, _ := impl.SubProblem(list, []int{0, 1, 2, 3})
	if !ok || !sameProblem(part, readAll(t, texts[:3]...)) {
		t.Fatalf("SubProblem = %v, %v", part, ok)
	}
	for i := range part {
		spoil(part[i])
		if !sameProblem(part[i+1:], readAll(t, texts[i+1:3]...)) {
			t.Errorf("constraint %d of a part shares memory with a later one", i)
		}
	}
	clear(part[:cap(part)])
	if !sameProblem(list, readAll(t, texts...)) || !sameProblem(other, readAll(t, texts...)) || terms[3] != (impl.Term{Coef: 7, Lit: 7}) {
		t.Error("a part shares memory with a problem or another part")
	}
	values := append(valuesOf(0), false)
	changed, _, _ := impl.FlipBest(readAll(t, "1 x5 >= 1"), values[:impl.MaxVars])
	again, _, _ := impl.FlipBest(readAll(t, "1 x5 >= 1"), values[:impl.MaxVars])
	for i := range changed[:cap(changed)] {
		changed[:cap(changed)][i] = true
	}
	if slices.Contains(values, true) || !slices.Equal(again, valuesOf(1<<4)) {
		t.Error("the values of FlipBest share memory with an argument or another result")
	}
	find := []func() ([]int, bool){
		func() ([]int, bool) { return impl.MinimalCore(readAll(t, pigeons()...)) },
		func() ([]int, bool) { return impl.MaximalPart(readAll(t, pigeons()...)) },
		func() ([]int, bool) {
			return impl.UsedInputs(readAll(t, pigeons()...), readSteps(t, "rup 1 x1 >= 1", "rup >= 1"))
		},
	}
	for i, part := range find {
		first, ok := part()
		second, _ := part()
		third := slices.Clone(second)
		for j := range first[:cap(first)] {
			first[:cap(first)][j] = 99
		}
		if fourth, _ := part(); !ok || len(second) < 4 || !slices.Equal(second, third) || !slices.Equal(fourth, third) {
			t.Errorf("two results of function %d share memory: %v, %v, %v", i, second, third, ok)
		}
	}
}
