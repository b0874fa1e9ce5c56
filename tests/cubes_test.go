package tests

import (
	"math"
	"runtime"
	"slices"
	"strings"
	"sync"
	"testing"
	"time"

	"loop.example/cuttingplanes/impl"
)

// slowCubes returns the cubes of variables, in order.
func slowCubes(vars []int) [][]int {
	cubes := [][]int{nil}
	for _, v := range vars {
		var longer [][]int
		for _, cube := range cubes {
			longer = append(longer, slices.Concat(cube, []int{v}), slices.Concat(cube, []int{-v}))
		}
		cubes = longer
	}
	return cubes
}

func slowCubeHolds(cube []int, values []bool) bool {
	return !slices.ContainsFunc(cube, func(lit int) bool { return values[max(lit, -lit)-1] != (lit > 0) })
}

// underCube is for a list of any length.
func underCube(list []impl.Constraint, cube []int) []impl.Constraint {
	under := slices.Clone(list)
	for _, lit := range cube {
		under = append(under, impl.Constraint{Terms: repeated(1, 1, lit), Bound: 1})
	}
	return under
}

// slowClause returns false if there are a literal and its negation.
func slowClause(lits []int) (impl.Constraint, bool) {
	clause := impl.Constraint{Bound: 1}
	for v := 1; v <= impl.MaxVars; v++ {
		if slices.Contains(lits, v) && slices.Contains(lits, -v) {
			return impl.Constraint{}, false
		}
		for _, lit := range []int{v, -v} {
			if slices.Contains(lits, lit) {
				clause.Terms = append(clause.Terms, impl.Term{Coef: 1, Lit: lit})
			}
		}
	}
	return clause, true
}

// liftSlowly is for a cube.
func liftSlowly(s impl.Step, cube []int) (impl.Step, bool) {
	if s.Kind != impl.StepRup || s.A != 0 || s.B != 0 || !impl.ConstraintValid(s.Given) || s.Given.Bound != 1 {
		return impl.Step{}, false
	}
	var lits []int
	for _, term := range s.Given.Terms {
		if term.Coef != 1 {
			return impl.Step{}, false
		}
		lits = append(lits, term.Lit)
	}
	for _, lit := range cube {
		lits = append(lits, -lit)
	}
	clause, ok := slowClause(lits)
	return rup(clause), ok
}

// mergeSlowly is for one proof for each cube. It does not look at the limit.
func mergeSlowly(vars []int, proofs [][]impl.Step) []impl.Step {
	var merged []impl.Step
	for i, cube := range slowCubes(vars) {
		for _, s := range proofs[i] {
			if lifted, ok := liftSlowly(s, cube); ok {
				merged = append(merged, lifted)
			}
		}
	}
	for n := range vars {
		for _, cube := range slowCubes(vars[:len(vars)-1-n]) {
			closing, _ := liftSlowly(rup(impl.Constraint{Bound: 1}), cube)
			merged = append(merged, closing)
		}
	}
	return merged
}

// solveCubesSlowly is for arguments that are valid.
func solveCubesSlowly(list []impl.Constraint, vars []int, fuel int) *slowSearch {
	var proofs [][]impl.Step
	for _, cube := range slowCubes(vars) {
		s := solveSlowly(underCube(list, cube), fuel)
		if s.code != impl.SolveUnsat {
			s.steps = nil
			return s
		}
		proofs = append(proofs, s.steps)
	}
	merged := mergeSlowly(vars, proofs)
	if len(merged) > impl.MaxSteps {
		return &slowSearch{code: impl.SolveMuch}
	}
	return &slowSearch{code: impl.SolveUnsat, steps: merged}
}

// split returns variables by which a search can be split.
func (n *numbers) split() []int {
	var vars []int
	for range n.between(0, impl.MaxSplit) {
		vars = append(vars, n.between(1, impl.MaxVars))
	}
	slices.Sort(vars)
	return slices.Compact(vars)
}

func (n *numbers) cube() []int {
	cube := n.split()
	for i := range cube {
		if n.between(0, 1) == 1 {
			cube[i] = -cube[i]
		}
	}
	return cube
}

// roughStep may be one that can be lifted.
func (n *numbers) roughStep(t *testing.T) impl.Step {
	t.Helper()
	switch n.between(0, 7) {
	case 0:
		return n.step(t, 5, impl.MaxVars)
	case 1:
		malformed := malformedSteps()
		return malformed[n.between(0, len(malformed)-1)]
	case 2:
		return rup(n.smallConstraint(t, impl.MaxVars))
	case 3:
		return rup(impl.Constraint{Bound: n.between(0, 2)})
	}
	return rup(n.clause(impl.MaxVars))
}

// notCubes has one list for each way not to be a cube.
func notCubes() [][]int {
	lists := [][]int{
		{1, 1}, {1, -1}, {-1, 1}, {2, 1}, {-2, 1}, {2, -1}, {-2, -1}, {1, 3, 2}, {1, 2, 2}, {1, 2, 3, 3}, {12, 11}, {4, 3, 2, 1}, {1, 2, 4, -3},
		{1, 2, 3, 4, 5}, {-1, -2, -3, -4, -5}, {8, 9, 10, 11, 12}, {1, 2, 3, 4, 4}, {1, 2, 3, 4, 0}, make([]int, 3000), repeatedNumbers(3000, 1),
		{1, 2, 3, 4, 5, 6, 7, 8, 9, 10, 11, 12},
	}
	for _, lit := range notLiterals() {
		lists = append(lists, []int{lit}, []int{lit, 2}, []int{2, lit}, []int{1, 2, 3, lit})
	}
	return lists
}

func repeatedNumbers(count, number int) []int { return slices.Repeat([]int{number}, count) }

// notSplits has the lists that are not variables by which a search can be split.
func notSplits() [][]int {
	return append(notCubes(), []int{-1}, []int{-12}, []int{1, -2}, []int{-1, 2}, []int{1, 2, 3, -4}, []int{-1, -2, -3, -4})
}

func sameCubes(a, b [][]int) bool { return slices.EqualFunc(a, b, slices.Equal) }

func TestSplitCubes(t *testing.T) {
	for _, x := range []struct {
		vars []int
		want [][]int
	}{
		{nil, [][]int{{}}},
		{[]int{}, [][]int{{}}},
		{[]int{1}, [][]int{{1}, {-1}}},
		{[]int{12}, [][]int{{12}, {-12}}},
		{[]int{1, 3}, [][]int{{1, 3}, {1, -3}, {-1, 3}, {-1, -3}}},
		{[]int{2, 5, 12}, [][]int{{2, 5, 12}, {2, 5, -12}, {2, -5, 12}, {2, -5, -12}, {-2, 5, 12}, {-2, 5, -12}, {-2, -5, 12}, {-2, -5, -12}}},
		{[]int{1, 2, 3, 4}, [][]int{
			{1, 2, 3, 4}, {1, 2, 3, -4}, {1, 2, -3, 4}, {1, 2, -3, -4}, {1, -2, 3, 4}, {1, -2, 3, -4}, {1, -2, -3, 4}, {1, -2, -3, -4},
			{-1, 2, 3, 4}, {-1, 2, 3, -4}, {-1, 2, -3, 4}, {-1, 2, -3, -4}, {-1, -2, 3, 4}, {-1, -2, 3, -4}, {-1, -2, -3, 4}, {-1, -2, -3, -4},
		}},
	} {
		if cubes, ok := impl.SplitCubes(x.vars); !ok || !sameCubes(cubes, x.want) {
			t.Errorf("SplitCubes(%v) = %v, %v", x.vars, cubes, ok)
		}
	}
	if impl.MaxSplit != 4 {
		t.Error("MaxSplit is not that of the document")
	}
	for _, vars := range notSplits() {
		if cubes, ok := impl.SplitCubes(vars); ok || len(cubes) != 0 {
			t.Errorf("SplitCubes(%.80v) = %v, %v", vars, cubes, ok)
		}
	}
}

func TestSplitCubesOfAllVariables(t *testing.T) {
	accepted := 0
	for bits := range 1 << impl.MaxVars {
		vars := trueVariables(valuesOf(bits))
		cubes, ok := impl.SplitCubes(vars)
		if len(vars) > impl.MaxSplit {
			if ok || len(cubes) != 0 {
				t.Errorf("SplitCubes(%v) = %v, %v", vars, cubes, ok)
			}
			continue
		}
		accepted++
		if !ok || !sameCubes(cubes, slowCubes(vars)) {
			t.Errorf("SplitCubes(%v) = %v, %v", vars, cubes, ok)
		}
	}
	if accepted != 1+12+66+220+495 {
		t.Errorf("SplitCubes is tested for %d lists", accepted)
	}
}

func TestCubeHolds(t *testing.T) {
	for _, x := range []struct {
		cube   []int
		values []bool
		want   bool
	}{
		{nil, valuesOf(0), true},
		{[]int{}, valuesOf(77), true},
		{[]int{1}, valuesOf(1), true},
		{[]int{1}, valuesOf(0), false},
		{[]int{1}, allBut(1), false},
		{[]int{-1}, allBut(1), true},
		{[]int{-1}, valuesOf(1), false},
		{[]int{12}, valuesOf(1 << 11), true},
		{[]int{-12}, valuesOf(1 << 11), false},
		{[]int{2, -5}, allBut(5), true},
		{[]int{2, -5}, allBut(2, 5), false},
		{[]int{2, -5}, allBut(), false},
		{[]int{-2, 5}, allBut(5), false},
		{[]int{1, 2, 3, 4}, valuesOf(15), true},
		{[]int{1, 2, 3, 4}, valuesOf(7), false},
		{[]int{-9, 10, -11, 12}, allBut(9, 11), true},
		{[]int{-9, 10, -11, 12}, allBut(9, 11, 12), false},
	} {
		if impl.CubeHolds(x.cube, x.values) != x.want {
			t.Errorf("CubeHolds(%v, %v) = %v", x.cube, x.values, !x.want)
		}
	}
	for _, cube := range notCubes() {
		for _, values := range [][]bool{valuesOf(0), allBut(), valuesOf(1), valuesOf(1365)} {
			if impl.CubeHolds(cube, values) {
				t.Errorf("CubeHolds accepts the cube %.80v", cube)
			}
		}
	}
	for _, values := range notValues() {
		for _, cube := range [][]int{nil, {-1}, {1}, {-12}, {1, 1}, {-1, -2, -3, -4}} {
			if impl.CubeHolds(cube, values) {
				t.Errorf("CubeHolds accepts the values %.80v for %v", values, cube)
			}
		}
	}
}

func TestExactlyOneCubeHolds(t *testing.T) {
	n := &numbers{state: 81}
	for range 40 {
		vars := n.split()
		cubes, ok := impl.SplitCubes(vars)
		if !ok {
			t.Fatalf("SplitCubes refuses %v", vars)
		}
		for bits := range 1 << impl.MaxVars {
			values := valuesOf(bits)
			count := 0
			for _, cube := range cubes {
				holds := impl.CubeHolds(cube, values)
				if holds != slowCubeHolds(cube, values) {
					t.Errorf("CubeHolds(%v, %v) = %v", cube, values, holds)
				}
				if holds {
					count++
				}
			}
			if count != 1 {
				t.Errorf("%d cubes of %v hold for %v", count, vars, values)
			}
		}
	}
}

func checkNoCubeProblem(t *testing.T, list []impl.Constraint, cube []int) {
	t.Helper()
	if under, ok := impl.CubeProblem(list, cube); ok || len(under) != 0 {
		t.Errorf("CubeProblem(%.80v, %.80v) = %.80v, %v", list, cube, under, ok)
	}
}

func TestCubeProblem(t *testing.T) {
	for _, x := range []struct {
		list []string
		cube []int
		want []string
	}{
		{nil, nil, nil},
		{nil, []int{}, nil},
		{nil, []int{7}, []string{"1 x7 >= 1"}},
		{nil, []int{-12}, []string{"1 ~x12 >= 1"}},
		{[]string{"1 x1 1 x2 >= 1"}, nil, []string{"1 x1 1 x2 >= 1"}},
		{[]string{"1 x1 1 x2 >= 1"}, []int{-2}, []string{"1 x1 1 x2 >= 1", "1 ~x2 >= 1"}},
		{[]string{">= 1", "3 x1 4 ~x5 >= 4"}, []int{1, -5}, []string{">= 1", "3 x1 4 ~x5 >= 4", "1 x1 >= 1", "1 ~x5 >= 1"}},
		{[]string{"1 x1 >= 1"}, []int{1}, []string{"1 x1 >= 1", "1 x1 >= 1"}},
		{[]string{"1 x1 >= 1", ">= 0"}, []int{-1, 3, -4, 12}, []string{"1 x1 >= 1", ">= 0", "1 ~x1 >= 1", "1 x3 >= 1", "1 ~x4 >= 1", "1 x12 >= 1"}},
	} {
		if under, ok := impl.CubeProblem(readAll(t, x.list...), x.cube); !ok || !sameProblem(under, readAll(t, x.want...)) {
			t.Errorf("CubeProblem(%q, %v) = %q, %v", x.list, x.cube, impl.FormatProblem(under), ok)
		}
	}
	for _, cube := range notCubes() {
		checkNoCubeProblem(t, nil, cube)
		checkNoCubeProblem(t, readAll(t, "1 x1 >= 1"), cube)
		checkNoCubeProblem(t, invalidProblems()[0], cube)
	}
	for _, list := range invalidProblems() {
		checkNoCubeProblem(t, list, nil)
		checkNoCubeProblem(t, list, []int{1})
		checkNoCubeProblem(t, list, []int{1, -2, 3, -4})
	}
}

func TestLimitsOfCubeProblem(t *testing.T) {
	for _, cube := range [][]int{nil, {3}, {-3}, {1, -2}, {4, 6, -12}, {-1, -2, -3, -4}} {
		list := leaves()[len(cube):]
		under, ok := impl.CubeProblem(list, cube)
		if !ok || !sameProblem(under, underCube(list, cube)) || len(under) != impl.MaxProblem {
			t.Errorf("CubeProblem with MaxProblem constraints for %v = %d constraints, %v", cube, len(under), ok)
		}
		checkNoCubeProblem(t, append(list, impl.Constraint{}), cube)
	}
	checkNoCubeProblem(t, fullProblem(), []int{1})
	checkNoCubeProblem(t, slices.Repeat(readAll(t, ">= 1"), impl.MaxProblem), []int{1, 2, 3, 4})
}

func TestSolutionsOfCubeProblems(t *testing.T) {
	n := &numbers{state: 82}
	for range 60 {
		list, cube := n.smallProblem(t, impl.MaxVars), n.cube()
		under, ok := impl.CubeProblem(list, cube)
		if !ok || !sameProblem(under, underCube(list, cube)) {
			t.Fatalf("CubeProblem(%q, %v) = %q, %v", impl.FormatProblem(list), cube, impl.FormatProblem(under), ok)
		}
		for bits := range 1 << impl.MaxVars {
			values := valuesOf(bits)
			if impl.SatisfiesAll(under, values) != (impl.CubeHolds(cube, values) && satisfied(list, values)) {
				t.Errorf("CubeProblem(%q, %v) has other solutions: %v", impl.FormatProblem(list), cube, values)
			}
		}
	}
}

func TestLiftStep(t *testing.T) {
	for _, x := range []struct {
		name  string
		given string
		cube  []int
		want  string
	}{
		{"example", "1 x2 >= 1", []int{1, -4}, "1 ~x1 1 x2 1 x4 >= 1"},
		{"no variables", "1 x2 1 ~x5 >= 1", nil, "1 x2 1 ~x5 >= 1"},
		{"no literals", ">= 1", []int{1, -4}, "1 ~x1 1 x4 >= 1"},
		{"no variables and no literals", ">= 1", nil, ">= 1"},
		{"the literals of the cube come first", "1 x11 1 x12 >= 1", []int{-1}, "1 x1 1 x11 1 x12 >= 1"},
		{"the literals of the cube come last", "1 x1 1 ~x2 >= 1", []int{12}, "1 x1 1 ~x2 1 ~x12 >= 1"},
		{"the literals of the cube come between", "1 ~x1 1 x3 1 ~x5 >= 1", []int{-2, 4}, "1 ~x1 1 x2 1 x3 1 ~x4 1 ~x5 >= 1"},
		{"a negation of the cube", "1 ~x1 1 x2 >= 1", []int{1}, "1 ~x1 1 x2 >= 1"},
		{"only negations of the cube", "1 ~x1 1 x4 >= 1", []int{1, -4}, "1 ~x1 1 x4 >= 1"},
		{"some negations of the cube", "1 x4 1 x6 >= 1", []int{1, -4}, "1 ~x1 1 x4 1 x6 >= 1"},
		{"MaxSplit literals", "1 x5 >= 1", []int{1, 2, -3, 4}, "1 ~x1 1 ~x2 1 x3 1 ~x4 1 x5 >= 1"},
		{"all variables", "1 x1 1 x2 1 x3 1 x4 1 x5 1 x6 1 x7 1 x8 1 x9 1 x10 1 x11 1 x12 >= 1", []int{-1, -6, -7, -12},
			"1 x1 1 x2 1 x3 1 x4 1 x5 1 x6 1 x7 1 x8 1 x9 1 x10 1 x11 1 x12 >= 1"},
		{"all variables together", "1 x1 1 x2 1 x3 1 x4 1 x5 1 x6 1 x7 1 x8 >= 1", []int{9, 10, 11, 12},
			"1 x1 1 x2 1 x3 1 x4 1 x5 1 x6 1 x7 1 x8 1 ~x9 1 ~x10 1 ~x11 1 ~x12 >= 1"},
	} {
		lifted, ok := impl.LiftStep(rup(read(t, x.given)), x.cube)
		if !ok || impl.FormatProof([]impl.Step{lifted}) != "rup "+x.want+"\n" {
			t.Errorf("%s: LiftStep = %v, %v", x.name, lifted, ok)
		}
	}
}

func checkNotLifted(t *testing.T, name string, s impl.Step, cube []int) {
	t.Helper()
	lifted, ok := impl.LiftStep(s, cube)
	if ok || lifted.Kind != 0 || lifted.A != 0 || lifted.B != 0 || !isZero(lifted.Given) {
		t.Errorf("%s: LiftStep(%v, %.80v) = %v, %v", name, s, cube, lifted, ok)
	}
}

func TestStepsThatCannotBeLifted(t *testing.T) {
	clause := rup(read(t, "1 x2 >= 1"))
	for _, cube := range [][]int{nil, {1}, {-12}, {3, -4, 5, -6}} {
		for _, text := range []string{
			">= 0", ">= 2", ">= 20000", "1 x2 >= 0", "1 x2 >= 2", "1 x7 1 x8 >= 2", "2 x2 >= 1", "2 x2 >= 2", "1 x7 2 x8 >= 1", "3 x7 1 ~x8 >= 1", "1000 x8 >= 1",
		} {
			checkNotLifted(t, "no clause", rup(read(t, text)), cube)
		}
		for _, c := range invalidConstraints() {
			checkNotLifted(t, "a constraint that is not valid", rup(c), cube)
		}
		for _, s := range malformedSteps() {
			checkNotLifted(t, "malformed", s, cube)
		}
		for _, line := range []string{"add 0 0", "multiply 0 1", "divide 1 1", "saturate 0", "weaken 0 1", "literal x2", "delete 0"} {
			checkNotLifted(t, "another kind", readSteps(t, line)[0], cube)
		}
		for kind := -1; kind <= impl.StepDelete+1; kind++ {
			if kind != impl.StepRup {
				checkNotLifted(t, "another kind with a clause", impl.Step{Kind: kind, Given: clause.Given}, cube)
			}
		}
		for _, number := range []int{1, -1, 2, math.MinInt, math.MaxInt} {
			checkNotLifted(t, "A is not 0", impl.Step{Kind: impl.StepRup, A: number, Given: clause.Given}, cube)
			checkNotLifted(t, "B is not 0", impl.Step{Kind: impl.StepRup, B: number, Given: clause.Given}, cube)
		}
	}
	for _, cube := range notCubes() {
		checkNotLifted(t, "no cube", clause, cube)
		checkNotLifted(t, "no cube and no literals", rup(read(t, ">= 1")), cube)
		checkNotLifted(t, "no cube and no step", impl.Step{}, cube)
	}
	for _, x := range []struct {
		given string
		cube  []int
	}{
		{"1 x2 >= 1", []int{2}},
		{"1 ~x2 >= 1", []int{-2}},
		{"1 x12 >= 1", []int{12}},
		{"1 x1 1 x2 >= 1", []int{1, 2}},
		{"1 x1 1 ~x2 >= 1", []int{1, 2}},
		{"1 x1 1 ~x2 >= 1", []int{-1, -2}},
		{"1 x4 1 x5 1 x6 >= 1", []int{1, 6}},
		{"1 x4 1 x5 1 ~x6 >= 1", []int{-3, -4, 5, 7}},
	} {
		checkNotLifted(t, "a literal of the cube", rup(read(t, x.given)), x.cube)
	}
}

func TestLiftedStepsHoldOutsideTheCube(t *testing.T) {
	n := &numbers{state: 83}
	lifted, refused := 0, 0
	for range 4000 {
		s, cube := n.roughStep(t), n.cube()
		want, wantOK := liftSlowly(s, cube)
		got, ok := impl.LiftStep(s, cube)
		if ok != wantOK || ok && !impl.ProofSame([]impl.Step{got}, []impl.Step{want}) {
			t.Errorf("LiftStep(%v, %v) = %v, %v, not %v", s, cube, got, ok, want)
		}
		if !wantOK {
			refused++
			checkNotLifted(t, "a step that cannot be lifted", s, cube)
			continue
		}
		lifted++
		for range 20 {
			values := valuesOf(n.between(0, 1<<impl.MaxVars-1))
			holds := trueSum(s.Given.Terms, values) >= 1 || !slowCubeHolds(cube, values)
			if impl.EvalConstraint(got.Given, values) != holds {
				t.Errorf("LiftStep(%v, %v) = %v, which is wrong for %v", s, cube, got, values)
			}
		}
	}
	if lifted < 1500 || refused < 1000 {
		t.Errorf("%d steps are lifted, %d are refused", lifted, refused)
	}
}

func checkMerged(t *testing.T, name string, vars []int, proofs [][]impl.Step, want string) {
	t.Helper()
	merged, ok := impl.MergeProofs(vars, proofs)
	if !ok || impl.FormatProof(merged) != want || len(merged) != strings.Count(want, "\n") {
		t.Errorf("%s: MergeProofs = %q, %v", name, impl.FormatProof(merged), ok)
	}
}

func checkNotMerged(t *testing.T, name string, vars []int, proofs [][]impl.Step) {
	t.Helper()
	if merged, ok := impl.MergeProofs(vars, proofs); ok || len(merged) != 0 {
		t.Errorf("%s: MergeProofs(%.80v, %d proofs) = %d steps, %v", name, vars, len(proofs), len(merged), ok)
	}
}

func TestMergeProofs(t *testing.T) {
	for _, x := range []struct {
		name   string
		vars   []int
		proofs []string
		want   string
	}{
		{"no variables and no steps", nil, []string{""}, ""},
		{"no variables", nil, []string{"rup 1 x1 >= 1\nrup >= 1\n"}, "rup 1 x1 >= 1\nrup >= 1\n"},
		{"no variables, and steps that cannot be lifted", nil, []string{"rup 1 x1 >= 1\nadd 0 1\nrup 1 x1 1 x2 >= 2\nrup >= 1\n"}, "rup 1 x1 >= 1\nrup >= 1\n"},
		{"no steps", []int{5}, []string{"", ""}, "rup >= 1\n"},
		{"one step for each cube", []int{5}, []string{"rup >= 1\n", "rup >= 1\n"}, "rup 1 ~x5 >= 1\nrup 1 x5 >= 1\nrup >= 1\n"},
		{"only the first proof has steps", []int{5}, []string{"rup 1 x1 >= 1\nrup >= 1\n", ""}, "rup 1 x1 1 ~x5 >= 1\nrup 1 ~x5 >= 1\nrup >= 1\n"},
		{"only the last proof has steps", []int{5}, []string{"", "rup 1 x1 >= 1\nrup >= 1\n"}, "rup 1 x1 1 x5 >= 1\nrup 1 x5 >= 1\nrup >= 1\n"},
		{"two variables", []int{1, 3}, []string{"rup >= 1\n", "rup 1 x2 >= 1\nrup >= 1\n", "", "rup 1 ~x12 >= 1\n"},
			"rup 1 ~x1 1 ~x3 >= 1\nrup 1 ~x1 1 x2 1 x3 >= 1\nrup 1 ~x1 1 x3 >= 1\nrup 1 x1 1 x3 1 ~x12 >= 1\n" +
				"rup 1 ~x1 >= 1\nrup 1 x1 >= 1\nrup >= 1\n"},
		{"three variables", []int{2, 4, 6}, []string{"", "", "", "", "", "rup 1 x1 >= 1\n", "", ""},
			"rup 1 x1 1 x2 1 ~x4 1 x6 >= 1\n" +
				"rup 1 ~x2 1 ~x4 >= 1\nrup 1 ~x2 1 x4 >= 1\nrup 1 x2 1 ~x4 >= 1\nrup 1 x2 1 x4 >= 1\nrup 1 ~x2 >= 1\nrup 1 x2 >= 1\nrup >= 1\n"},
		{"literals of the cube", []int{5}, []string{"rup 1 x5 >= 1\nrup 1 x1 1 x5 >= 1\nrup 1 x1 1 ~x5 >= 1\n", "rup 1 ~x5 >= 1\nrup 1 x5 >= 1\n"},
			"rup 1 x1 1 ~x5 >= 1\nrup 1 x5 >= 1\nrup >= 1\n"},
		{"literals of one cube in the proofs of others", []int{1, 3}, []string{"rup 1 x1 >= 1\n", "rup 1 ~x3 >= 1\n", "rup 1 x1 >= 1\n", "rup 1 ~x3 1 x4 >= 1\n"},
			"rup 1 x1 1 ~x3 >= 1\nrup 1 ~x1 >= 1\nrup 1 x1 >= 1\nrup >= 1\n"},
		{"steps that cannot be lifted", []int{5}, []string{"add 0 1\nrup 1 x1 >= 1\nliteral x4\nrup 2 x1 >= 1\n", "delete 0\nrup >= 0\nrup >= 2\n"},
			"rup 1 x1 1 ~x5 >= 1\nrup >= 1\n"},
		{"the same step twice", []int{5}, []string{"rup 1 x1 >= 1\nrup 1 x1 >= 1\n", ""}, "rup 1 x1 1 ~x5 >= 1\nrup 1 x1 1 ~x5 >= 1\nrup >= 1\n"},
	} {
		var proofs [][]impl.Step
		for _, text := range x.proofs {
			steps, ok := impl.ParseProof(text)
			if !ok {
				t.Fatalf("%s: ParseProof refuses %q", x.name, text)
			}
			proofs = append(proofs, steps)
		}
		checkMerged(t, x.name, x.vars, proofs, x.want)
	}
	four := make([][]impl.Step, 16)
	four[15] = readSteps(t, "rup 1 x9 >= 1")
	checkMerged(t, "four variables", []int{1, 2, 3, 4}, four, "rup 1 x1 1 x2 1 x3 1 x4 1 x9 >= 1\n"+
		"rup 1 ~x1 1 ~x2 1 ~x3 >= 1\nrup 1 ~x1 1 ~x2 1 x3 >= 1\nrup 1 ~x1 1 x2 1 ~x3 >= 1\nrup 1 ~x1 1 x2 1 x3 >= 1\n"+
		"rup 1 x1 1 ~x2 1 ~x3 >= 1\nrup 1 x1 1 ~x2 1 x3 >= 1\nrup 1 x1 1 x2 1 ~x3 >= 1\nrup 1 x1 1 x2 1 x3 >= 1\n"+
		"rup 1 ~x1 1 ~x2 >= 1\nrup 1 ~x1 1 x2 >= 1\nrup 1 x1 1 ~x2 >= 1\nrup 1 x1 1 x2 >= 1\nrup 1 ~x1 >= 1\nrup 1 x1 >= 1\nrup >= 1\n")
	checkMerged(t, "malformed steps", []int{5}, [][]impl.Step{malformedSteps(), malformedSteps()}, "rup >= 1\n")
}

func TestMergeProofsRefuses(t *testing.T) {
	for _, vars := range notSplits() {
		for _, count := range []int{0, 1, 2, 4, 16, 32} {
			checkNotMerged(t, "no variables by which to split", vars, make([][]impl.Step, count))
		}
	}
	for _, vars := range [][]int{nil, {1}, {1, 12}, {2, 3, 4}, {5, 6, 7, 8}} {
		right := 1 << len(vars)
		for _, count := range []int{0, 1, 2, 4, 8, 16, 32, right - 1, right + 1, 3000} {
			if count != right {
				checkNotMerged(t, "not one proof for each cube", vars, make([][]impl.Step, count))
			}
		}
		if _, ok := impl.MergeProofs(vars, make([][]impl.Step, right)); !ok {
			t.Errorf("MergeProofs refuses %d proofs for %v", right, vars)
		}
	}
}

func TestLimitsOfMergeProofs(t *testing.T) {
	clauses := slices.Repeat([]impl.Step{rup(read(t, "1 x2 >= 1"))}, 2*impl.MaxSteps)
	omitted := idleSteps(2 * impl.MaxSteps)
	for _, x := range []struct {
		name        string
		vars        []int
		first, last []impl.Step
		want        int
	}{
		{"MaxSteps steps, no variables", nil, nil, clauses[:1000], 1000},
		{"more than MaxSteps steps, no variables", nil, nil, clauses[:1001], -1},
		{"MaxSteps steps with the last one", []int{1}, clauses[:999], nil, 1000},
		{"MaxSteps steps with the last one, in the last proof", []int{1}, nil, clauses[:999], 1000},
		{"MaxSteps steps with the last one, in both proofs", []int{1}, clauses[:500], clauses[:499], 1000},
		{"more than MaxSteps steps with the last one", []int{1}, clauses[:1000], nil, -1},
		{"more than MaxSteps steps with the last one, in the last proof", []int{1}, nil, clauses[:1000], -1},
		{"more than MaxSteps steps with the last one, in both proofs", []int{1}, clauses[:500], clauses[:500], -1},
		{"far more than MaxSteps steps", []int{1}, clauses[:1000], clauses[:1000], -1},
		{"MaxSteps steps with the last ones", []int{1, 3, 5, 7}, clauses[:500], clauses[:485], 1000},
		{"more than MaxSteps steps with the last ones", []int{1, 3, 5, 7}, clauses[:500], clauses[:486], -1},
		{"MaxSteps steps that are omitted", []int{1}, omitted[:1000], omitted[:1000], 1},
		{"MaxSteps steps that are omitted, and others", []int{1}, omitted[:1000], clauses[:999], 1000},
		{"MaxSteps steps that are omitted, no variables", nil, nil, omitted[:1000], 0},
		{"more than MaxSteps steps that are omitted", []int{1}, omitted[:1001], nil, -1},
		{"more than MaxSteps steps that are omitted, in the last proof", []int{1}, nil, omitted[:1001], -1},
		{"more than MaxSteps steps that are omitted, no variables", nil, nil, omitted[:1001], -1},
		{"far more than MaxSteps steps that are omitted", []int{1, 2}, nil, omitted, -1},
		{"more than MaxSteps steps, of which most are omitted", []int{1}, append(slices.Clone(omitted[:1000]), clauses[0]), nil, -1},
	} {
		proofs := make([][]impl.Step, 1<<len(x.vars))
		proofs[0] = x.first
		proofs[len(proofs)-1] = x.last
		if x.want < 0 {
			checkNotMerged(t, x.name, x.vars, proofs)
			continue
		}
		if merged, ok := impl.MergeProofs(x.vars, proofs); !ok || len(merged) != x.want || !impl.ProofSame(merged, mergeSlowly(x.vars, proofs)) {
			t.Errorf("%s: MergeProofs = %d steps, %v, not %d", x.name, len(merged), ok, x.want)
		}
	}
}

func TestMergedProofsAreWhatTheDocumentSays(t *testing.T) {
	n := &numbers{state: 84}
	for range 400 {
		vars := n.split()
		var proofs [][]impl.Step
		for range 1 << len(vars) {
			var steps []impl.Step
			for range n.between(0, 6) {
				steps = append(steps, n.roughStep(t))
			}
			proofs = append(proofs, steps)
		}
		if merged, ok := impl.MergeProofs(vars, proofs); !ok || !impl.ProofSame(merged, mergeSlowly(vars, proofs)) {
			t.Errorf("MergeProofs(%v, %v) = %q, %v", vars, proofs, impl.FormatProof(merged), ok)
		}
	}
}

// checkCubes checks results that are known. A proof is given by its text.
func checkCubes(t *testing.T, name string, list []impl.Constraint, vars []int, fuel int, code int, values []bool, proof string) {
	t.Helper()
	gotCode, gotValues, steps := impl.SolveCubes(list, vars, fuel)
	if gotCode != code || !slices.Equal(gotValues, values) || impl.FormatProof(steps) != proof || len(steps) != strings.Count(proof, "\n") {
		t.Errorf("%s: SolveCubes(%.80v, %d) = %d, %v, %q", name, vars, fuel, gotCode, gotValues, impl.FormatProof(steps))
	}
}

func TestSolveCubesFindsSolutions(t *testing.T) {
	for _, x := range []struct {
		name string
		list []string
		vars []int
		// fuel is just sufficient.
		fuel int
		want []bool
	}{
		{"no constraints and no variables", nil, nil, 13, allBut()},
		{"no constraints", nil, []int{1}, 12, allBut()},
		{"no constraints and a later variable", nil, []int{12}, 12, allBut()},
		{"no constraints and four variables", nil, []int{1, 4, 6, 12}, 9, allBut()},
		{"no variables", []string{"1 ~x2 >= 1"}, nil, 12, allBut(2)},
		{"the first cube", []string{"1 x1 1 x2 >= 1", "1 x1 1 ~x2 >= 1"}, []int{1, 2}, 11, allBut()},
		{"the second cube", []string{"1 ~x1 1 ~x2 >= 1"}, []int{1, 2}, 11, allBut(2)},
		{"the third cube", []string{"1 ~x1 >= 1"}, []int{1, 2}, 11, allBut(1)},
		{"the last cube", []string{"1 ~x1 1 ~x2 >= 2"}, []int{1, 2}, 11, allBut(1, 2)},
		{"another solution than without a split", []string{"1 ~x1 1 ~x12 >= 1"}, []int{12}, 11, allBut(1)},
		{"the last one of sixteen cubes", []string{"1 ~x9 1 ~x10 1 ~x11 1 ~x12 >= 4"}, []int{9, 10, 11, 12}, 9, allBut(9, 10, 11, 12)},
		{"little fuel for each cube", []string{"1 ~x1 2 x2 2 x3 2 x4 >= 3", "1 ~x1 2 ~x2 2 ~x3 2 ~x4 >= 3", "1 x5 1 x6 1 x7 1 x8 1 x9 1 x10 1 x11 1 x12 >= 8"},
			[]int{1}, 3, allBut(1, 4)},
	} {
		list := readAll(t, x.list...)
		checkCubes(t, x.name, list, x.vars, impl.MaxFuel, impl.SolveSat, x.want, "")
		checkCubes(t, x.name+", fuel that is just sufficient", list, x.vars, x.fuel, impl.SolveSat, x.want, "")
		checkCubes(t, x.name+", too little fuel", list, x.vars, x.fuel-1, impl.SolveMuch, nil, "")
		checkCubes(t, x.name+", no fuel", list, x.vars, 0, impl.SolveMuch, nil, "")
	}
}

func TestSolveCubesFindsRefutations(t *testing.T) {
	both := []string{"1 x1 1 x2 >= 1", "1 x1 1 ~x2 >= 1", "1 ~x1 1 x2 >= 1", "1 ~x1 1 ~x2 >= 1"}
	odd := []string{"2 x1 2 x2 2 x3 >= 3", "2 ~x1 2 ~x2 2 ~x3 >= 3"}
	for _, x := range []struct {
		name string
		list []string
		vars []int
		fuel int
		want string
	}{
		{"no variables", both, nil, 3, "rup 1 ~x1 >= 1\nrup 1 x1 >= 1\nrup >= 1\n"},
		{"example", both, []int{1}, 1, "rup 1 ~x1 >= 1\nrup 1 x1 >= 1\nrup >= 1\n"},
		{"the other variable", both, []int{2}, 1, "rup 1 ~x2 >= 1\nrup 1 x2 >= 1\nrup >= 1\n"},
		{"a variable without terms", both, []int{7}, 3,
			"rup 1 ~x1 1 ~x7 >= 1\nrup 1 x1 1 ~x7 >= 1\nrup 1 ~x7 >= 1\nrup 1 ~x1 1 x7 >= 1\nrup 1 x1 1 x7 >= 1\nrup 1 x7 >= 1\nrup >= 1\n"},
		{"two variables", both, []int{1, 2}, 1,
			"rup 1 ~x1 1 ~x2 >= 1\nrup 1 ~x1 1 x2 >= 1\nrup 1 x1 1 ~x2 >= 1\nrup 1 x1 1 x2 >= 1\nrup 1 ~x1 >= 1\nrup 1 x1 >= 1\nrup >= 1\n"},
		{"propagation alone", []string{"1 x1 >= 1", "1 ~x1 >= 1"}, []int{1}, 1, "rup 1 ~x1 >= 1\nrup 1 x1 >= 1\nrup >= 1\n"},
		{"a constraint that is false", []string{">= 1"}, []int{12}, 1, "rup 1 ~x12 >= 1\nrup 1 x12 >= 1\nrup >= 1\n"},
		{"a constraint that is false and no variables", []string{">= 1"}, nil, 1, "rup >= 1\n"},
		{"cubes that need no decisions", odd, []int{2}, 1, "rup 1 ~x2 >= 1\nrup 1 x2 >= 1\nrup >= 1\n"},
		{"cubes that need different fuel", append(odd[:2:2], "1 x4 >= 1"), []int{4}, 3,
			"rup 1 ~x1 1 ~x4 >= 1\nrup 1 x1 1 ~x4 >= 1\nrup 1 ~x4 >= 1\nrup 1 x4 >= 1\nrup >= 1\n"},
		{"the cube that needs more fuel is the last one", append(odd[:2:2], "1 ~x4 >= 1"), []int{4}, 3,
			"rup 1 ~x4 >= 1\nrup 1 ~x1 1 x4 >= 1\nrup 1 x1 1 x4 >= 1\nrup 1 x4 >= 1\nrup >= 1\n"},
	} {
		list := readAll(t, x.list...)
		checkCubes(t, x.name, list, x.vars, impl.MaxFuel, impl.SolveUnsat, nil, x.want)
		checkCubes(t, x.name+", fuel that is just sufficient", list, x.vars, x.fuel, impl.SolveUnsat, nil, x.want)
		checkCubes(t, x.name+", too little fuel", list, x.vars, x.fuel-1, impl.SolveMuch, nil, "")
		checkCubes(t, x.name+", no fuel", list, x.vars, 0, impl.SolveMuch, nil, "")
		if !impl.CheckRefutation(list, readSteps(t, strings.Split(strings.TrimSpace(x.want), "\n")...)) {
			t.Errorf("%s: the proof is no refutation", x.name)
		}
	}
}

func TestSolveCubesReturnsTheFirstResult(t *testing.T) {
	// If x1 is true, all other variables are; if it is false, there are many solutions.
	forced := overAllVars(1, 11, false)
	forced.Terms[0] = impl.Term{Coef: 11, Lit: -1}
	// The same with the values of x1 exchanged.
	other := overAllVars(1, 11, false)
	other.Terms[0].Coef = 11
	for _, x := range []struct {
		name   string
		list   []impl.Constraint
		fuel   int
		code   int
		values []bool
	}{
		{"a solution, then the search ends early", []impl.Constraint{forced}, 1, impl.SolveSat, allBut()},
		{"the search ends early, then a solution", []impl.Constraint{other}, 1, impl.SolveMuch, nil},
		{"the search ends early, then a solution, with a little more fuel", []impl.Constraint{other}, 11, impl.SolveMuch, nil},
		{"two solutions", []impl.Constraint{other}, 12, impl.SolveSat, allBut()},
		{"no solution, then the search ends early", append(readAll(t, "1 ~x1 >= 1"), forced), 11, impl.SolveMuch, nil},
		{"no solution, then a solution", append(readAll(t, "1 ~x1 >= 1"), forced), 12, impl.SolveSat, allBut(1)},
		{"no solution, then one without decisions", append(readAll(t, "1 ~x1 >= 1"), other), 1, impl.SolveSat, allBut(1)},
		{"a solution, then none", append(readAll(t, "1 x1 >= 1"), forced), 1, impl.SolveSat, allBut()},
		{"the search ends early, then no solution", append(readAll(t, "1 x1 >= 1"), other), 11, impl.SolveMuch, nil},
	} {
		checkCubes(t, x.name, x.list, []int{1}, x.fuel, x.code, x.values, "")
	}
}

func TestLimitsOfSolveCubes(t *testing.T) {
	for _, vars := range [][]int{nil, {3}, {1, 2}, {4, 6, 12}, {1, 2, 3, 4}} {
		room := impl.MaxProblem - len(vars)
		full := slices.Repeat(readAll(t, "1 ~x5 >= 1"), impl.MaxProblem+1)
		checkCubes(t, "as many constraints as there is room for", full[:room], vars, impl.MaxFuel, impl.SolveSat, allBut(5), "")
		checkCubes(t, "more constraints than there is room for", full[:room+1], vars, impl.MaxFuel, impl.SolveInvalid, nil, "")
		checkCubes(t, "more constraints than there is room for, and no fuel", full[:room+1], vars, 0, impl.SolveInvalid, nil, "")
		unsolvable := slices.Repeat(readAll(t, ">= 1"), impl.MaxProblem+1)
		checkCubes(t, "more constraints that are false than there is room for", unsolvable[:room+1], vars, impl.MaxFuel, impl.SolveInvalid, nil, "")
		code, values, steps := impl.SolveCubes(unsolvable[:room], vars, impl.MaxFuel)
		if code != impl.SolveUnsat || len(values) != 0 || len(steps) != 2<<len(vars)-1 || !impl.CheckRefutation(unsolvable[:room], steps) {
			t.Errorf("SolveCubes of constraints that are false for %v = %d, %v, %q", vars, code, values, impl.FormatProof(steps))
		}
	}
	checkCubes(t, "MaxProblem constraints and a variable", fullProblem(), []int{1}, impl.MaxFuel, impl.SolveInvalid, nil, "")
	for _, x := range []struct {
		name string
		list []impl.Constraint
		vars []int
		code int
		want int
	}{
		{"MaxSteps - 1 steps, no variables", exactly(27, 4, 2, 4, 2, 2, 6, 6, 6, 6, 4, 6, 6), nil, impl.SolveUnsat, impl.MaxSteps - 1},
		{"MaxSteps - 1 steps", exactly(27, 4, 2, 4, 2, 2, 6, 6, 6, 6, 4, 6, 6), []int{1, 2, 3, 4}, impl.SolveUnsat, impl.MaxSteps - 1},
		{"a refutation that is too long without a split", exactly(37, 6, 6, 6, 4, 8, 2, 6, 6, 6, 6, 8, 8), nil, impl.SolveMuch, 0},
		{"a refutation that is too long without a split, split", exactly(37, 6, 6, 6, 4, 8, 2, 6, 6, 6, 6, 8, 8), []int{11}, impl.SolveUnsat, 895},
		{"MaxSteps + 1 steps", exactly(37, 6, 6, 6, 4, 8, 2, 6, 6, 6, 6, 8, 8), []int{1}, impl.SolveMuch, 0},
		{"MaxSteps + 1 steps, two variables", exactly(37, 6, 6, 6, 4, 8, 2, 6, 6, 6, 6, 8, 8), []int{1, 2}, impl.SolveMuch, 0},
	} {
		code, values, steps := impl.SolveCubes(x.list, x.vars, impl.MaxFuel)
		if code != x.code || len(values) != 0 || len(steps) != x.want || impl.CheckRefutation(x.list, steps) != (code == impl.SolveUnsat) {
			t.Errorf("%s: SolveCubes = %d, %v, %d steps", x.name, code, values, len(steps))
		}
	}
	// Each of the cubes has a refutation, but together they have more than MaxSteps steps.
	for _, cube := range slowCubes([]int{1, 2}) {
		under := underCube(exactly(37, 6, 6, 6, 4, 8, 2, 6, 6, 6, 6, 8, 8), cube)
		if code, _, steps := impl.SolveProblem(under, impl.MaxFuel); code != impl.SolveUnsat || len(steps) > 400 {
			t.Errorf("SolveProblem for the cube %v = %d, %d steps", cube, code, len(steps))
		}
	}
}

func TestSolveCubesRefuses(t *testing.T) {
	for _, vars := range notSplits() {
		for _, list := range [][]impl.Constraint{nil, readAll(t, ">= 1"), readAll(t, "1 x1 >= 1"), invalidProblems()[0]} {
			checkCubes(t, "no variables by which to split", list, vars, impl.MaxFuel, impl.SolveInvalid, nil, "")
			checkCubes(t, "no variables by which to split, no fuel", list, vars, 0, impl.SolveInvalid, nil, "")
		}
	}
	for _, vars := range [][]int{nil, {1}, {1, 2, 3, 4}} {
		for _, list := range invalidProblems() {
			checkCubes(t, "no problem", list, vars, impl.MaxFuel, impl.SolveInvalid, nil, "")
			checkCubes(t, "no problem and no fuel", list, vars, 0, impl.SolveInvalid, nil, "")
		}
		for _, fuel := range notFuels() {
			checkCubes(t, "no such fuel", nil, vars, fuel, impl.SolveInvalid, nil, "")
			checkCubes(t, "no such fuel", readAll(t, ">= 1"), vars, fuel, impl.SolveInvalid, nil, "")
			checkCubes(t, "no such fuel and no problem", invalidProblems()[0], vars, fuel, impl.SolveInvalid, nil, "")
		}
	}
}

// compareCubes returns the code.
func compareCubes(t *testing.T, list []impl.Constraint, vars []int, fuel int) int {
	t.Helper()
	want := solveCubesSlowly(list, vars, fuel)
	code, values, steps := impl.SolveCubes(list, vars, fuel)
	if code != want.code || !slices.Equal(values, want.values) || !impl.ProofSame(steps, want.steps) {
		t.Errorf("SolveCubes(%q, %v, %d) = %d, %v, %q, not %d, %v, %q", impl.FormatProblem(list), vars, fuel,
			code, values, impl.FormatProof(steps), want.code, want.values, impl.FormatProof(want.steps))
	}
	return code
}

// splitProblem is sometimes one whose refutation has many steps.
func (n *numbers) splitProblem(t *testing.T) []impl.Constraint {
	t.Helper()
	list := n.smallProblem(t, n.between(6, impl.MaxVars))
	if n.between(0, 2) == 0 {
		list = append(list, exactly(2*n.between(1, 9)+1, 2, 4, 4, 2, 6, 2, 4)...)
	}
	return list
}

func TestSolveCubesAgainstASlowSearch(t *testing.T) {
	n := &numbers{state: 85}
	var codes [impl.SolveInvalid]int
	for range 400 {
		list, vars := n.splitProblem(t), n.split()
		codes[compareCubes(t, list, vars, impl.MaxFuel)]++
		codes[compareCubes(t, list, vars, n.between(0, 12))]++
	}
	if slices.Min(codes[:]) < 100 {
		t.Errorf("the codes occurred %v times", codes)
	}
}

func TestWithoutVariablesCubesAreAProblem(t *testing.T) {
	n := &numbers{state: 86}
	for range 300 {
		list, fuel := n.splitProblem(t), n.between(0, 40)
		code, values, steps := impl.SolveProblem(list, fuel)
		gotCode, gotValues, gotSteps := impl.SolveCubes(list, nil, fuel)
		if gotCode != code || !slices.Equal(gotValues, values) || !impl.ProofSame(gotSteps, steps) {
			t.Errorf("SolveCubes(%q, [], %d) = %d, %v, %q", impl.FormatProblem(list), fuel, gotCode, gotValues, impl.FormatProof(gotSteps))
		}
	}
}

// inEarlierCube reports whether a problem has a solution in a cube before the one that holds for values.
func inEarlierCube(list []impl.Constraint, vars []int, values []bool) bool {
	for _, cube := range slowCubes(vars) {
		if slowCubeHolds(cube, values) {
			return false
		}
		if len(slowSolutions(underCube(list, cube))) > 0 {
			return true
		}
	}
	return true
}

func TestSplitSearchesReturnASolutionOrARefutation(t *testing.T) {
	n := &numbers{state: 87}
	var codes [impl.SolveInvalid]int
	for range 300 {
		list, vars, fuel := n.splitProblem(t), n.split(), n.between(0, 25)
		code, values, steps := impl.SolveCubes(list, vars, fuel)
		codes[code]++
		right := len(values) == 0 && len(steps) == 0
		switch code {
		case impl.SolveSat:
			right = satisfied(list, values) && len(steps) == 0 && !inEarlierCube(list, vars, values)
		case impl.SolveUnsat:
			run, at := runSlowly(list, steps)
			right = len(values) == 0 && impl.CheckRefutation(list, steps) && len(slowSolutions(list)) == 0 &&
				at < 0 && slices.ContainsFunc(run.all, impl.ConstraintFalse)
		}
		if !right {
			t.Errorf("SolveCubes(%q, %v, %d) = %d, %v, %q", impl.FormatProblem(list), vars, fuel, code, values, impl.FormatProof(steps))
		}
	}
	if slices.Min(codes[:]) < 40 {
		t.Errorf("the codes occurred %v times", codes)
	}
}

func TestRefutationsOfEverySplit(t *testing.T) {
	odd := exactly(9, 2, 2, 2, 2, 2, 2, 2, 2)
	splits, long := 0, 0
	for bits := range 1 << impl.MaxVars {
		vars := trueVariables(valuesOf(bits))
		if len(vars) > impl.MaxSplit || bits%5 != 0 {
			continue
		}
		splits++
		code, values, steps := impl.SolveCubes(odd, vars, impl.MaxFuel)
		if code == impl.SolveMuch {
			// Each variable that does not occur doubles the proof.
			long++
			if len(vars) < 3 || vars[len(vars)-3] <= 8 {
				t.Errorf("SolveCubes for %v ends early", vars)
			}
			continue
		}
		if code != impl.SolveUnsat || len(values) != 0 || !impl.CheckRefutation(odd, steps) || !impl.ConstraintSame(steps[len(steps)-1].Given, impl.Constraint{Bound: 1}) {
			t.Errorf("SolveCubes for %v = %d, %v, %q", vars, code, values, impl.FormatProof(steps))
		}
	}
	if splits < 100 || long > splits/10 {
		t.Errorf("%d splits are tried, %d end early", splits, long)
	}
}

func TestCubesDependOnTheirArgumentsOnly(t *testing.T) {
	list := exactly(27, 4, 2, 4, 2, 2, 6, 6, 6, 6, 4, 6, 6)
	vars := []int{1, 2, 3, 4}
	code, _, steps := impl.SolveCubes(list, vars, impl.MaxFuel)
	easy := readAll(t, "1 ~x9 1 ~x10 1 ~x11 1 ~x12 >= 1")
	_, values, _ := impl.SolveCubes(easy, []int{9, 10, 11, 12}, impl.MaxFuel)
	if code != impl.SolveUnsat || !slices.Equal(values, allBut(12)) {
		t.Fatalf("SolveCubes = %d, %v", code, values)
	}
	before := runtime.NumGoroutine()
	var calls sync.WaitGroup
	for range 8 {
		calls.Go(func() {
			for range 10 {
				if code, _, again := impl.SolveCubes(list, vars, impl.MaxFuel); code != impl.SolveUnsat || !impl.ProofSame(again, steps) {
					t.Errorf("SolveCubes = %d, %d steps, not %d", code, len(again), len(steps))
				}
				if code, again, _ := impl.SolveCubes(easy, []int{9, 10, 11, 12}, impl.MaxFuel); code != impl.SolveSat || !slices.Equal(again, values) {
					t.Errorf("SolveCubes = %d, %v, not %v", code, again, values)
				}
			}
		})
	}
	calls.Wait()
	for range 100 {
		if runtime.NumGoroutine() <= before {
			return
		}
		time.Sleep(10 * time.Millisecond)
	}
	t.Errorf("%d goroutines are left, %d were there before", runtime.NumGoroutine(), before)
}

func TestCubesKeepTheirArguments(t *testing.T) {
	texts := []string{"2 x1 2 x2 2 x3 2 x4 >= 5", "2 ~x1 2 ~x2 2 ~x3 2 ~x4 >= 3", "1 x12 >= 1", "1 x11 >= 1", "1 x10 >= 1", "1 x9 >= 1"}
	lines := []string{"rup 1 x6 1 x7 >= 1", "add 0 1", "rup 1 ~x1 >= 1", "literal x3"}
	for count := range len(texts) {
		whole, steps := readAll(t, texts...), readSteps(t, lines...)
		given := append(steps[0].Given.Terms, impl.Term{Coef: 8, Lit: 8})
		steps[0].Given.Terms = given[:2]
		numbers, cube, values := [6]int{1, 2, 3, 5, 9, 9}, [6]int{-1, 2, -3, 5, 9, 9}, append(valuesOf(77), true)
		list := whole[:count]
		for kept := range impl.MaxSplit + 2 {
			impl.SplitCubes(numbers[:kept])
			impl.CubeHolds(cube[:kept], values[:impl.MaxVars])
			impl.CubeProblem(list, cube[:kept])
			impl.LiftStep(steps[0], cube[:kept])
			proofs := make([][]impl.Step, 40)
			for i := range proofs {
				proofs[i] = steps[:i%len(steps)]
			}
			impl.MergeProofs(numbers[:kept], proofs[:1<<kept])
			for i, proof := range proofs {
				if len(proof) != i%len(steps) {
					t.Errorf("MergeProofs changes its proof %d", i)
				}
			}
			impl.SolveCubes(list, numbers[:kept], impl.MaxFuel)
		}
		if !sameProblem(whole, readAll(t, texts...)) || numbers != [6]int{1, 2, 3, 5, 9, 9} || cube != [6]int{-1, 2, -3, 5, 9, 9} ||
			!slices.Equal(values, append(valuesOf(77), true)) {
			t.Errorf("a function of %d constraints changes an argument", count)
		}
		if !impl.ProofSame(steps, readSteps(t, lines...)) || given[2] != (impl.Term{Coef: 8, Lit: 8}) {
			t.Errorf("a function changes a proof: %v", steps)
		}
	}
}

func TestCubesShareNoMemory(t *testing.T) {
	for count := range impl.MaxSplit + 1 {
		vars := append([]int{2, 3, 5, 7}[:count], 9)[:count]
		cubes, _ := impl.SplitCubes(vars)
		for i, cube := range cubes {
			copy(cube[:cap(cube)], repeatedNumbers(cap(cube), 99))
			if !sameCubes(cubes[i+1:], slowCubes(vars)[i+1:]) {
				t.Errorf("cube %d of %v shares memory with a later one", i, vars)
			}
		}
		if again, ok := impl.SplitCubes(vars); !ok || !sameCubes(again, slowCubes([]int{2, 3, 5, 7}[:count])) {
			t.Errorf("the cubes share memory with the variables: %v", again)
		}
	}
}

func TestProblemsOfCubesShareNoMemory(t *testing.T) {
	texts := []string{"1 x1 1 x2 >= 1", "1 x1 >= 1", "1 x1 1 x2 1 x3 >= 1", ">= 0"}
	terms := append(read(t, texts[2]).Terms, impl.Term{Coef: 7, Lit: 7})
	list := readAll(t, texts...)
	for i := range 3 {
		list[i].Terms = terms[:len(list[i].Terms)]
	}
	want := underCube(readAll(t, texts...), []int{4, -5})
	under, ok := impl.CubeProblem(list, []int{4, -5})
	other, _ := impl.CubeProblem(list, []int{4, -5})
	if !ok || !sameProblem(under, want) {
		t.Fatalf("CubeProblem = %v, %v", under, ok)
	}
	for i := range under {
		spoil(under[i])
		if !sameProblem(under[i+1:], want[i+1:]) {
			t.Errorf("constraint %d of a problem shares memory with a later one", i)
		}
	}
	clear(under[:cap(under)])
	if !sameProblem(list, readAll(t, texts...)) || !sameProblem(other, want) || terms[3] != (impl.Term{Coef: 7, Lit: 7}) {
		t.Error("the problem of a cube shares memory with an argument or another one")
	}
}

func TestProofsOfCubesShareNoMemory(t *testing.T) {
	clause := rup(read(t, "1 x2 1 x4 >= 1"))
	for _, cube := range [][]int{nil, {-2}, {1, -4}} {
		lifted, ok := impl.LiftStep(clause, cube)
		spoil(lifted.Given)
		if !ok || !impl.ProofSame([]impl.Step{clause}, readSteps(t, "rup 1 x2 1 x4 >= 1")) {
			t.Errorf("LiftStep for %v shares memory with its argument", cube)
		}
	}
	for _, vars := range [][]int{nil, {9}, {9, 11}} {
		proofs := make([][]impl.Step, 1<<len(vars))
		for i := range proofs {
			proofs[i] = []impl.Step{clause, clause}
		}
		checkOwnSteps(t, "MergeProofs", func() []impl.Step {
			merged, _ := impl.MergeProofs(vars, proofs)
			return merged
		})
		if !impl.ProofSame([]impl.Step{clause}, readSteps(t, "rup 1 x2 1 x4 >= 1")) {
			t.Errorf("MergeProofs for %v shares memory with its argument", vars)
		}
		checkOwnSteps(t, "SolveCubes", func() []impl.Step {
			_, _, steps := impl.SolveCubes(exactly(5, 2, 2, 2, 2), vars, impl.MaxFuel)
			return steps
		})
	}
}

// checkOwnSteps checks that no two steps share memory, of one result or of two.
func checkOwnSteps(t *testing.T, name string, use func() []impl.Step) {
	t.Helper()
	steps, other := use(), use()
	want, ok := impl.ParseProof(impl.FormatProof(other))
	if !ok || len(steps) < 2 || !impl.ProofSame(steps, want) {
		t.Fatalf("%s = %v, then %v", name, steps, other)
	}
	for i := range steps {
		spoil(steps[i].Given)
		if !impl.ProofSame(steps[i+1:], want[i+1:]) {
			t.Errorf("%s: step %d shares memory with a later one", name, i)
		}
	}
	clear(steps[:cap(steps)])
	if !impl.ProofSame(other, want) || !impl.ProofSame(use(), want) {
		t.Errorf("%s: two results share memory", name)
	}
}
