package tests

import (
	"math"
	"slices"
	"testing"

	"loop.example/cuttingplanes/impl"
)

// allBut returns the values in which exactly these variables are false.
func allBut(variables ...int) []bool {
	values := valuesOf(-1)
	for _, v := range variables {
		values[v-1] = false
	}
	return values
}

// inOrder returns the values at a place in their order: variable 1 counts most.
func inOrder(place int) []bool {
	values := make([]bool, impl.MaxVars)
	for i := range values {
		values[i] = place>>(impl.MaxVars-1-i)&1 == 1
	}
	return values
}

// slowSolutions returns the places of all solutions.
func slowSolutions(list []impl.Constraint) []int {
	var places []int
	for place := range 1 << impl.MaxVars {
		if satisfied(list, inOrder(place)) {
			places = append(places, place)
		}
	}
	return places
}

func notFuels() []int { return []int{-1, 2001, math.MinInt, math.MaxInt} }

func notValues() [][]bool {
	return [][]bool{nil, {}, {true}, make([]bool, impl.MaxVars-1), make([]bool, impl.MaxVars+1), make([]bool, 5000), make([]bool, 0, impl.MaxVars)}
}

// exactly returns the two constraints that the coefficients of the true variables add up to sum.
func exactly(sum int, coefs ...int) []impl.Constraint {
	least, most := impl.Constraint{Bound: sum}, impl.Constraint{Bound: -sum}
	for i, coef := range coefs {
		least.Terms = append(least.Terms, impl.Term{Coef: coef, Lit: i + 1})
		most.Terms = append(most.Terms, impl.Term{Coef: coef, Lit: -i - 1})
		most.Bound += coef
	}
	return []impl.Constraint{least, most}
}

// checkSolved checks codes whose results are known. A proof is given by its text.
func checkSolved(t *testing.T, name string, list []impl.Constraint, fuel int, code int, values []bool, proof string) {
	t.Helper()
	gotCode, gotValues, steps := impl.SolveProblem(list, fuel)
	if gotCode != code || !slices.Equal(gotValues, values) || impl.FormatProof(steps) != proof || (proof == "") != (len(steps) == 0) {
		t.Errorf("%s: SolveProblem = %d, %v, %q", name, gotCode, gotValues, impl.FormatProof(steps))
	}
}

// checkSufficient checks that this much fuel is just sufficient.
func checkSufficient(t *testing.T, name string, list []impl.Constraint, fuel int, code int, values []bool, proof string) {
	t.Helper()
	checkSolved(t, name, list, impl.MaxFuel, code, values, proof)
	checkSolved(t, name+", fuel that is just sufficient", list, fuel, code, values, proof)
	checkSolved(t, name+", too little fuel", list, fuel-1, impl.SolveMuch, nil, "")
	checkSolved(t, name+", no fuel", list, 0, impl.SolveMuch, nil, "")
}

func TestSolveProblemFindsSolutions(t *testing.T) {
	for _, x := range []struct {
		name string
		list []string
		fuel int
		want []bool
	}{
		{"no constraints", nil, 13, allBut()},
		{"constraints that always hold", []string{">= 0", "3 x1 4 ~x2 >= 0"}, 13, allBut()},
		{"all values follow", []string{"1 x1 1 ~x2 1 x3 1 x4 1 x5 1 x6 1 ~x7 1 x8 1 x9 1 x10 1 x11 1 ~x12 >= 12"}, 1, allBut(2, 7, 12)},
		{"all but the last value follow", []string{"1 ~x1 1 x2 1 x3 1 x4 1 x5 1 x6 1 x7 1 x8 1 x9 1 x10 1 x11 >= 11"}, 2, allBut(1)},
		{"the first variable without a value is the first one", []string{"1 x1 1 x2 >= 1"}, 13, allBut()},
		{"no decisions on variables that have values", []string{"1 ~x1 1 ~x2 >= 2", "1 ~x3 1 ~x4 >= 1"}, 10, allBut(1, 2, 4)},
		{"a variable is true first", []string{"1 ~x5 1 ~x6 >= 1"}, 12, allBut(6)},
		{"the first visit with a decision fails", []string{"1 ~x1 1 x12 >= 1", "1 ~x1 1 ~x12 >= 1"}, 14, allBut(1)},
		{"a later visit with a decision fails", []string{"1 ~x10 1 x12 >= 1", "1 ~x10 1 ~x12 >= 1", "1 x10 1 ~x11 >= 1"}, 13, allBut(10, 11)},
	} {
		checkSufficient(t, x.name, readAll(t, x.list...), x.fuel, impl.SolveSat, x.want, "")
	}
}

func TestSolveProblemFindsRefutations(t *testing.T) {
	for _, x := range []struct {
		name string
		list []string
		fuel int
		want string
	}{
		{"propagation alone", []string{"1 x1 1 x2 >= 1", "1 x1 1 ~x2 >= 1", "1 ~x1 >= 1"}, 1, "rup >= 1\n"},
		{"propagation in several rounds", []string{"1 x4 1 x5 >= 1", "1 ~x2 1 ~x5 >= 1", "1 ~x1 1 x2 >= 1", "1 ~x2 1 ~x4 >= 1", "1 x1 >= 1"}, 1, "rup >= 1\n"},
		{"a constraint that is false", []string{"1 x1 >= 1", "1 x3 1 x4 >= 3"}, 1, "rup >= 1\n"},
		{"a bound without terms", []string{">= 20000"}, 1, "rup >= 1\n"},
		{"one decision", []string{"1 x1 1 x2 >= 1", "1 ~x1 1 x2 >= 1", "1 x1 1 ~x2 >= 1", "1 ~x1 1 ~x2 >= 1"}, 3,
			"rup 1 ~x1 >= 1\nrup 1 x1 >= 1\nrup >= 1\n"},
		{"no decisions on variables that have values", []string{"1 ~x1 1 x4 >= 2", "2 x2 2 x3 2 x5 >= 3", "2 ~x2 2 ~x3 2 ~x5 >= 3"}, 3,
			"rup 1 ~x2 >= 1\nrup 1 x2 >= 1\nrup >= 1\n"},
		{"two decisions", []string{"2 x1 2 x2 2 x3 2 x4 >= 3", "2 ~x1 2 ~x2 2 ~x3 2 ~x4 >= 5"}, 5,
			"rup 1 ~x1 >= 1\nrup 1 x1 1 ~x2 >= 1\nrup 1 x1 1 x2 >= 1\nrup 1 x1 >= 1\nrup >= 1\n"},
		{"two decisions, the first one with both", []string{"2 x1 2 x2 2 x3 2 x4 >= 5", "2 ~x1 2 ~x2 2 ~x3 2 ~x4 >= 3"}, 5,
			"rup 1 ~x1 1 ~x2 >= 1\nrup 1 ~x1 1 x2 >= 1\nrup 1 ~x1 >= 1\nrup 1 x1 >= 1\nrup >= 1\n"},
		{"a variable without terms", []string{"2 x2 2 x3 2 x12 >= 3", "2 ~x2 2 ~x3 2 ~x12 >= 3"}, 7,
			"rup 1 ~x1 1 ~x2 >= 1\nrup 1 ~x1 1 x2 >= 1\nrup 1 ~x1 >= 1\nrup 1 x1 1 ~x2 >= 1\nrup 1 x1 1 x2 >= 1\nrup 1 x1 >= 1\nrup >= 1\n"},
	} {
		checkSufficient(t, x.name, readAll(t, x.list...), x.fuel, impl.SolveUnsat, nil, x.want)
	}
}

func TestSolveProblemLimits(t *testing.T) {
	if impl.SolveMuch != 0 || impl.SolveSat != 1 || impl.SolveUnsat != 2 || impl.SolveInvalid != 3 || impl.MaxFuel != 2000 {
		t.Error("the codes or MaxFuel are not those of the document")
	}
	checkSolved(t, "MaxProblem constraints", fullProblem(), impl.MaxFuel, impl.SolveSat, allBut(), "")
	list := fullProblem()
	list[0], list[impl.MaxProblem-1] = read(t, "2 x1 2 x2 2 x3 >= 3"), read(t, "2 ~x1 2 ~x2 2 ~x3 >= 3")
	checkSolved(t, "MaxProblem constraints and more", list, 3, impl.SolveUnsat, nil, "rup 1 ~x1 >= 1\nrup 1 x1 >= 1\nrup >= 1\n")
	for _, list := range invalidProblems() {
		checkSolved(t, "no problem", list, impl.MaxFuel, impl.SolveInvalid, nil, "")
		checkSolved(t, "no problem and no fuel", list, 0, impl.SolveInvalid, nil, "")
	}
	for _, fuel := range notFuels() {
		checkSolved(t, "no such fuel", nil, fuel, impl.SolveInvalid, nil, "")
		checkSolved(t, "no such fuel", readAll(t, ">= 1"), fuel, impl.SolveInvalid, nil, "")
		checkSolved(t, "no such fuel and no problem", invalidProblems()[0], fuel, impl.SolveInvalid, nil, "")
	}
}

// slowSearch performs visits as the document describes them: by recursion, and with the clauses among the constraints.
type slowSearch struct {
	list   []impl.Constraint
	steps  []impl.Step
	fuel   int
	code   int
	values []bool
}

// visit reports whether the visit fails. A code other than -1 ends the search.
func (s *slowSearch) visit(decisions []int) bool {
	if s.fuel == 0 || len(s.steps) == impl.MaxSteps {
		s.code = impl.SolveMuch
		return false
	}
	s.fuel--
	p, at := propagateSlowly(s.list, assign(decisions...))
	if v := slices.Index(p, 0) + 1; at < 0 && v == 0 {
		s.code = impl.SolveSat
		s.values = make([]bool, impl.MaxVars)
		for i := range p {
			s.values[i] = p[i] == 1
		}
		return false
	} else if at < 0 {
		if !s.visit(slices.Concat(decisions, []int{v})) || !s.visit(slices.Concat(decisions, []int{-v})) {
			return false
		}
		if len(s.steps) == impl.MaxSteps {
			s.code = impl.SolveMuch
			return false
		}
	}
	clause := impl.Constraint{Bound: 1}
	for _, lit := range decisions {
		clause.Terms = append(clause.Terms, impl.Term{Coef: 1, Lit: -lit})
	}
	s.list = append(s.list, clause)
	s.steps = append(s.steps, rup(clause))
	return true
}

func solveSlowly(list []impl.Constraint, fuel int) *slowSearch {
	s := &slowSearch{list: slices.Clone(list), fuel: fuel, code: -1}
	if s.visit(nil) {
		s.code = impl.SolveUnsat
	}
	return s
}

// compareSearches returns the code, and the fuel that was used.
func compareSearches(t *testing.T, name string, list []impl.Constraint, fuel int) (int, int) {
	t.Helper()
	want := solveSlowly(list, fuel)
	if want.code != impl.SolveUnsat {
		want.steps = nil
	}
	code, values, steps := impl.SolveProblem(list, fuel)
	if code != want.code || !slices.Equal(values, want.values) || !impl.ProofSame(steps, want.steps) {
		t.Errorf("%s: SolveProblem(%q, %d) = %d, %v, %d steps, not %d, %v, %d steps", name, impl.FormatProblem(list), fuel,
			code, values, len(steps), want.code, want.values, len(want.steps))
	}
	return code, fuel - want.fuel
}

func TestSolveProblemAgainstASlowSearch(t *testing.T) {
	n := &numbers{state: 16}
	var codes [impl.SolveInvalid]int
	for range 800 {
		list := n.smallProblem(t, n.between(6, impl.MaxVars))
		if n.between(0, 3) == 0 {
			list = append(list, exactly(2*n.between(1, 9)+1, 2, 4, 4, 2, 6, 2, 4)...)
		}
		code, used := compareSearches(t, "much fuel", list, impl.MaxFuel)
		codes[code]++
		for _, fuel := range []int{used, used - 1, n.between(0, used)} {
			code, _ = compareSearches(t, "little fuel", list, fuel)
			codes[code]++
		}
	}
	if slices.Min(codes[:]) < 400 {
		t.Errorf("the codes occurred %v times", codes)
	}
}

func TestMaxStepsLimitsTheSearch(t *testing.T) {
	for _, x := range []struct {
		name  string
		list  []impl.Constraint
		code  int
		steps int
	}{
		{"a refutation with MaxSteps - 1 steps", exactly(27, 4, 2, 4, 2, 2, 6, 6, 6, 6, 4, 6, 6), impl.SolveUnsat, impl.MaxSteps - 1},
		{"no room for the last step", exactly(37, 6, 6, 6, 4, 8, 2, 6, 6, 6, 6, 8, 8), impl.SolveMuch, impl.MaxSteps},
		{"a solution after MaxSteps - 1 failures", exactly(4111, 590, 754, 402, 743, 332, 448, 716, 720, 555, 857, 794, 741), impl.SolveSat, impl.MaxSteps - 1},
		{"a solution after MaxSteps failures", exactly(3791, 360, 500, 491, 461, 653, 560, 442, 391, 380, 745, 889, 826), impl.SolveMuch, impl.MaxSteps},
	} {
		if code, _ := compareSearches(t, x.name, x.list, impl.MaxFuel); code != x.code {
			t.Errorf("%s: the code is %d", x.name, code)
		}
		if slow := solveSlowly(x.list, impl.MaxFuel); len(slow.steps) != x.steps {
			t.Errorf("%s: there are %d steps", x.name, len(slow.steps))
		}
	}
	list := exactly(27, 4, 2, 4, 2, 2, 6, 6, 6, 6, 4, 6, 6)
	for len(list) < impl.MaxProblem {
		list = append(list, impl.Constraint{})
	}
	if code, _, steps := impl.SolveProblem(list, impl.MaxFuel); code != impl.SolveUnsat || !impl.CheckRefutation(list, steps) {
		t.Errorf("the refutation of MaxProblem constraints: SolveProblem = %d, %d steps", code, len(steps))
	}
}

func TestWhatASearchReturnsIsCorrect(t *testing.T) {
	n := &numbers{state: 17}
	var codes [impl.SolveInvalid]int
	for range 500 {
		list := n.smallProblem(t, n.between(6, impl.MaxVars))
		if n.between(0, 3) == 0 {
			list = append(list, exactly(2*n.between(1, 12)+1, 2, 4, 4, 2, 6, 2, 4, 6)...)
		}
		code, values, steps := impl.SolveProblem(list, n.between(0, 60))
		codes[code]++
		right := len(values) == 0 && len(steps) == 0
		switch code {
		case impl.SolveSat:
			right = satisfied(list, values) && len(steps) == 0
		case impl.SolveUnsat:
			right = len(values) == 0 && impl.CheckRefutation(list, steps) && len(slowSolutions(list)) == 0
		}
		if !right {
			t.Errorf("SolveProblem(%q) = %d, %v, %q", impl.FormatProblem(list), code, values, impl.FormatProof(steps))
		}
	}
	if slices.Min(codes[:]) < 40 {
		t.Errorf("the codes occurred %v times", codes)
	}
}

func TestCountSolutions(t *testing.T) {
	for _, x := range []struct {
		list []impl.Constraint
		want int
	}{
		{nil, 4096},
		{readAll(t, ">= 0", "5 x1 7 ~x12 >= 0"), 4096},
		{readAll(t, "1 ~x12 >= 1"), 2048},
		{readAll(t, "1 x1 1 x2 >= 1", "1 x1 1 ~x2 >= 1"), 2048},
		{readAll(t, "1 x1 1 x2 >= 1", "1 x1 1 ~x2 >= 1", "1 ~x1 >= 1"), 0},
		{readAll(t, ">= 1"), 0},
		{[]impl.Constraint{overAllVars(1, 12, false)}, 1},
		{[]impl.Constraint{overAllVars(1, 1, true)}, 4095},
		{exactly(6, slices.Repeat([]int{1}, 12)...), 924},
		{exactly(11, slices.Repeat([]int{2}, 12)...), 0},
		{fullProblem(), 4096},
		{slices.Repeat(readAll(t, "1 x3 1 ~x7 >= 1"), impl.MaxProblem), 3072},
	} {
		if got := impl.CountSolutions(x.list); got != x.want {
			t.Errorf("CountSolutions(%.200q) = %d, not %d", impl.FormatProblem(x.list), got, x.want)
		}
	}
	for _, list := range invalidProblems() {
		if got := impl.CountSolutions(list); got != 0 {
			t.Errorf("CountSolutions(%.80v) = %d", list, got)
		}
	}
}

func checkNext(t *testing.T, list []impl.Constraint, from []bool, want []bool) {
	t.Helper()
	if got, ok := impl.NextSolution(list, from); ok != (want != nil) || !slices.Equal(got, want) {
		t.Errorf("NextSolution(%q, %v) = %v, %v, not %v", impl.FormatProblem(list), from, got, ok, want)
	}
}

func TestNextSolution(t *testing.T) {
	for place := range 1 << impl.MaxVars {
		if place%37 < 2 || place > 4090 {
			checkNext(t, nil, inOrder(place), inOrder(place))
		}
	}
	for _, x := range []struct {
		list       []string
		from, want []bool
	}{
		{[]string{"1 x1 >= 1"}, inOrder(0), inOrder(2048)},
		{[]string{"1 x1 >= 1"}, inOrder(2047), inOrder(2048)},
		{[]string{"1 x1 >= 1"}, inOrder(2049), inOrder(2049)},
		{[]string{"1 ~x1 >= 1"}, inOrder(2047), inOrder(2047)},
		{[]string{"1 ~x1 >= 1"}, inOrder(2048), nil},
		{[]string{"1 ~x1 >= 1"}, inOrder(4095), nil},
		{[]string{"1 x12 >= 1"}, inOrder(0), inOrder(1)},
		{[]string{"1 ~x12 >= 1"}, inOrder(1), inOrder(2)},
		{[]string{"1 ~x12 >= 1"}, inOrder(2047), inOrder(2048)},
		{[]string{"1 ~x12 >= 1"}, inOrder(4095), nil},
		{[]string{"1 x6 >= 1"}, inOrder(1<<6 | 5), inOrder(1<<6 | 5)},
		{[]string{"1 x6 >= 1"}, inOrder(1<<7 | 5), inOrder(1<<7 | 1<<6)},
		{[]string{"1 x1 1 x2 >= 1", "1 x1 1 ~x2 >= 1"}, inOrder(0), inOrder(2048)},
		{[]string{"1 x1 1 x2 >= 1", "1 x1 1 ~x2 >= 1", "1 ~x1 >= 1"}, inOrder(0), nil},
		{[]string{">= 1"}, inOrder(0), nil},
	} {
		checkNext(t, readAll(t, x.list...), x.from, x.want)
	}
}

func TestNextSolutionRefuses(t *testing.T) {
	for _, list := range invalidProblems() {
		if got, ok := impl.NextSolution(list, inOrder(0)); ok || len(got) != 0 {
			t.Errorf("NextSolution(%.80v) = %v, %v", list, got, ok)
		}
	}
	for _, values := range notValues() {
		for _, list := range [][]impl.Constraint{nil, readAll(t, "1 x1 >= 1"), fullProblem(), invalidProblems()[0]} {
			if got, ok := impl.NextSolution(list, values); ok || len(got) != 0 {
				t.Errorf("NextSolution(%.80v, %.80v) = %v, %v", list, values, got, ok)
			}
		}
	}
}

func TestSolutionsAreFoundInOrder(t *testing.T) {
	n := &numbers{state: 18}
	for range 60 {
		list := append(n.smallProblem(t, impl.MaxVars), n.smallProblem(t, impl.MaxVars)...)
		places := slowSolutions(list)
		if got := impl.CountSolutions(list); got != len(places) {
			t.Errorf("CountSolutions(%q) = %d, not %d", impl.FormatProblem(list), got, len(places))
		}
		for range 30 {
			from := n.between(0, 1<<impl.MaxVars-1)
			at, _ := slices.BinarySearch(places, from)
			if at < len(places) {
				checkNext(t, list, inOrder(from), inOrder(places[at]))
				checkNext(t, list, inOrder(places[at]), inOrder(places[at]))
			} else {
				checkNext(t, list, inOrder(from), nil)
			}
		}
	}
}

func TestBlockingClause(t *testing.T) {
	for _, x := range []struct {
		values []bool
		want   string
	}{
		{allBut(), "1 ~x1 1 ~x2 1 ~x3 1 ~x4 1 ~x5 1 ~x6 1 ~x7 1 ~x8 1 ~x9 1 ~x10 1 ~x11 1 ~x12 >= 1"},
		{inOrder(0), "1 x1 1 x2 1 x3 1 x4 1 x5 1 x6 1 x7 1 x8 1 x9 1 x10 1 x11 1 x12 >= 1"},
		{allBut(2, 3, 12), "1 ~x1 1 x2 1 x3 1 ~x4 1 ~x5 1 ~x6 1 ~x7 1 ~x8 1 ~x9 1 ~x10 1 ~x11 1 x12 >= 1"},
	} {
		c, ok := impl.BlockingClause(x.values)
		checkResult(t, "BlockingClause", c, ok, x.want)
	}
	for _, values := range notValues() {
		c, ok := impl.BlockingClause(values)
		checkRefused(t, "BlockingClause", c, ok)
	}
}

func TestBlockingClauseIsSatisfiedByAllOtherValues(t *testing.T) {
	for _, place := range []int{0, 1, 2048, 1365, 4095} {
		c, _ := impl.BlockingClause(inOrder(place))
		for other := range 1 << impl.MaxVars {
			if impl.EvalConstraint(c, inOrder(other)) != (other != place) {
				t.Errorf("the blocking clause of %d is wrong for %d", place, other)
			}
		}
	}
}

func TestProveConstraintResults(t *testing.T) {
	list := readAll(t, "1 x1 1 x2 >= 1", "1 x1 1 ~x2 >= 1")
	for _, x := range []struct {
		list   []impl.Constraint
		text   string
		fuel   int
		code   int
		values []bool
		proof  string
	}{
		{list, "1 x1 >= 1", 1, impl.SolveUnsat, nil, "rup >= 1\n"},
		{list, "1 x1 >= 1", 0, impl.SolveMuch, nil, ""},
		{list, "1 x2 >= 1", 100, impl.SolveSat, allBut(2), ""},
		{list, "1 x2 >= 1", 11, impl.SolveSat, allBut(2), ""},
		{list, "1 x2 >= 1", 10, impl.SolveMuch, nil, ""},
		{list, "1 x1 1 x2 >= 2", 100, impl.SolveSat, allBut(2), ""},
		{list, ">= 0", 1, impl.SolveUnsat, nil, "rup >= 1\n"},
		{list, ">= 1", 100, impl.SolveSat, allBut(), ""},
		{nil, "1 x1 >= 0", 1, impl.SolveUnsat, nil, "rup >= 1\n"},
		{nil, "3 ~x1 5 x2 >= 3", 100, impl.SolveSat, allBut(2), ""},
		{nil, "1 x1 >= 20000", 100, impl.SolveSat, allBut(), ""},
		{readAll(t, ">= 1"), "1 x1 >= 1", 1, impl.SolveUnsat, nil, "rup >= 1\n"},
		{exactly(3, 2, 2, 1), "1 x3 >= 1", 100, impl.SolveUnsat, nil, "rup >= 1\n"},
		{readAll(t, "2 x1 2 x2 2 x3 >= 3"), "2 x1 2 x2 2 x3 >= 4", 100, impl.SolveUnsat, nil, "rup 1 ~x1 >= 1\nrup 1 x1 >= 1\nrup >= 1\n"},
	} {
		code, values, steps := impl.ProveConstraint(x.list, read(t, x.text), x.fuel)
		if code != x.code || !slices.Equal(values, x.values) || impl.FormatProof(steps) != x.proof {
			t.Errorf("ProveConstraint(%s, %d) = %d, %v, %q", x.text, x.fuel, code, values, impl.FormatProof(steps))
		}
	}
}

func TestProveConstraintRefuses(t *testing.T) {
	check := func(name string, list []impl.Constraint, c impl.Constraint, fuel int, want int) {
		t.Helper()
		code, values, steps := impl.ProveConstraint(list, c, fuel)
		if code != want || len(steps) != 0 || want == impl.SolveInvalid && len(values) != 0 {
			t.Errorf("%s: ProveConstraint = %d, %v, %v", name, code, values, steps)
		}
	}
	c := read(t, "1 x1 >= 1")
	check("MaxProblem - 1 constraints", fullProblem()[1:], c, impl.MaxFuel, impl.SolveSat)
	check("MaxProblem constraints", fullProblem(), c, impl.MaxFuel, impl.SolveInvalid)
	check("MaxProblem constraints that are false", slices.Repeat(readAll(t, ">= 1"), impl.MaxProblem), c, impl.MaxFuel, impl.SolveInvalid)
	for _, list := range invalidProblems() {
		check("no problem", list, c, impl.MaxFuel, impl.SolveInvalid)
		check("no problem and no fuel", list, c, 0, impl.SolveInvalid)
	}
	for _, c := range invalidConstraints() {
		check("no constraint", nil, c, impl.MaxFuel, impl.SolveInvalid)
		check("no constraint and no fuel", readAll(t, ">= 1"), c, 0, impl.SolveInvalid)
	}
	for _, fuel := range notFuels() {
		check("no such fuel", nil, c, fuel, impl.SolveInvalid)
		check("no such fuel", readAll(t, ">= 1"), c, fuel, impl.SolveInvalid)
	}
}

func TestProvedConstraintsHold(t *testing.T) {
	n := &numbers{state: 19}
	var codes [impl.SolveInvalid]int
	for range 300 {
		list, c := n.smallProblem(t, 5), n.smallConstraint(t, 5)
		c.Bound /= n.between(1, 4)
		code, values, steps := impl.ProveConstraint(list, c, n.between(0, 40))
		codes[code]++
		switch code {
		case impl.SolveSat:
			if !satisfied(list, values) || impl.EvalConstraint(c, values) {
				t.Errorf("ProveConstraint(%q, %s) = %v", impl.FormatProblem(list), impl.FormatConstraint(c), values)
			}
		case impl.SolveUnsat:
			negation, _ := impl.NegateConstraint(c)
			if !impl.CheckRefutation(append(list, negation), steps) {
				t.Errorf("ProveConstraint(%q, %s) has a wrong refutation", impl.FormatProblem(list), impl.FormatConstraint(c))
			}
			checkHolds(t, list, c)
		}
	}
	if slices.Min(codes[:]) < 30 {
		t.Errorf("the codes occurred %v times", codes)
	}
}

func checkHolds(t *testing.T, list []impl.Constraint, c impl.Constraint) {
	t.Helper()
	for _, place := range slowSolutions(list) {
		if !impl.EvalConstraint(c, inOrder(place)) {
			t.Errorf("%s does not hold in all solutions of %q", impl.FormatConstraint(c), impl.FormatProblem(list))
			return
		}
	}
}

func TestSearchKeepsItsArguments(t *testing.T) {
	texts := []string{"2 x1 2 x2 2 x3 2 x4 >= 5", "2 ~x1 2 ~x2 2 ~x3 2 ~x4 >= 3", "1 x12 >= 1"}
	c := read(t, "1 x5 1 x6 >= 1")
	for count := range len(texts) + 1 {
		whole := readAll(t, texts...)
		list, values := whole[:count], inOrder(77)
		impl.SolveProblem(list, impl.MaxFuel)
		impl.CountSolutions(list)
		impl.NextSolution(list, values)
		impl.BlockingClause(values)
		impl.ProveConstraint(list, c, impl.MaxFuel)
		if !sameProblem(whole, readAll(t, texts...)) || !slices.Equal(values, inOrder(77)) || impl.FormatConstraint(c) != "1 x5 1 x6 >= 1" {
			t.Errorf("a search of %d constraints changes an argument", count)
		}
	}
}

func TestSearchResultsShareNoMemory(t *testing.T) {
	list := readAll(t, "2 x1 2 x2 2 x3 2 x4 >= 5", "2 ~x1 2 ~x2 2 ~x3 2 ~x4 >= 3")
	_, _, steps := impl.SolveProblem(list, impl.MaxFuel)
	_, _, again := impl.SolveProblem(list, impl.MaxFuel)
	for i := range steps {
		spoil(steps[i].Given)
		if !impl.ProofSame(steps[i+1:], again[i+1:]) {
			t.Errorf("step %d shares memory with a later one", i)
		}
	}
	if _, _, third := impl.SolveProblem(list, impl.MaxFuel); !impl.ProofSame(again, third) {
		t.Error("two refutations share memory")
	}
	from := inOrder(5)
	values, _ := impl.NextSolution(nil, from)
	values[0] = true
	if !slices.Equal(from, inOrder(5)) {
		t.Error("the values of NextSolution share memory with its argument")
	}
}
