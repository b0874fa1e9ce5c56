package tests

import (
	"slices"
	"strings"
	"testing"

	"loop.example/cuttingplanes/impl"
)

// bitsOf returns the text of values.
func bitsOf(values []bool) string {
	var text strings.Builder
	for _, value := range values {
		if value {
			text.WriteByte('1')
		} else {
			text.WriteByte('0')
		}
	}
	return text.String()
}

// pickBits returns the text of the values of some variables.
func pickBits(values []bool, vars []int) string {
	text := ""
	for _, v := range vars {
		text += bitsOf(values[v-1 : v])
	}
	return text
}

// withBits returns values in which the first variables are as in a text, and all others are true.
func withBits(text string) []bool {
	values := allBut()
	for i := range text {
		values[i] = text[i] == '1'
	}
	return values
}

func listOfBits(texts ...string) [][]bool {
	var found [][]bool
	for _, text := range texts {
		found = append(found, withBits(text))
	}
	return found
}

func excludeSlowly(vars []int, values []bool) impl.Constraint {
	clause := impl.Constraint{Bound: 1}
	for _, v := range vars {
		lit := v
		if values[v-1] {
			lit = -v
		}
		clause.Terms = append(clause.Terms, impl.Term{Coef: 1, Lit: lit})
	}
	return clause
}

// excluding returns a problem, followed by a clause for each of some values.
func excluding(list []impl.Constraint, vars []int, found [][]bool) []impl.Constraint {
	problem := slices.Clone(list)
	for _, values := range found {
		problem = append(problem, excludeSlowly(vars, values))
	}
	return problem
}

// slowProjections returns the different values that some variables have in solutions.
func slowProjections(list []impl.Constraint, vars []int) []string {
	var texts []string
	for _, place := range slowSolutions(list) {
		texts = append(texts, pickBits(inOrder(place), vars))
	}
	slices.Sort(texts)
	return slices.Compact(texts)
}

// listSlowly is for arguments that are valid.
func listSlowly(list []impl.Constraint, vars []int, fuel int) (int, [][]bool, []impl.Step) {
	var found [][]bool
	for {
		s := solveSlowly(excluding(list, vars, found), fuel)
		switch {
		case s.code == impl.SolveUnsat:
			return s.code, found, s.steps
		case s.code == impl.SolveMuch || len(found) == impl.MaxListed:
			return impl.SolveMuch, nil, nil
		}
		found = append(found, s.values)
	}
}

// acceptSlowly is for values that have MaxVars elements, and for steps that are well-formed and not too many.
func acceptSlowly(list []impl.Constraint, vars []int, found [][]bool, steps []impl.Step) bool {
	var seen []string
	for _, values := range found {
		text := pickBits(values, vars)
		if !satisfied(list, values) || slices.Contains(seen, text) {
			return false
		}
		seen = append(seen, text)
	}
	run, at := runSlowly(excluding(list, vars, found), steps)
	return at < 0 && slices.ContainsFunc(run.left(), impl.ConstraintFalse)
}

// notLists has one list for each way not to be a valid list of variables.
func notLists() [][]int {
	lists := [][]int{
		{1, 1}, {2, 1}, {12, 11}, {1, 2, 2}, {1, 3, 2}, {1, -2}, {-1, 2}, {-2, -1}, {2, 3, 1}, {1, 2, 3, 4, 5, 5},
		{1, 2, 3, 4, 5, 6, 7, 8, 9, 10, 11, 12, 12}, {1, 2, 3, 4, 5, 6, 7, 8, 9, 10, 11, 12, 13}, {0, 1, 2, 3, 4, 5, 6, 7, 8, 9, 10, 11, 12},
		make([]int, 3000), repeatedNumbers(3000, 1),
	}
	for _, v := range notVariables() {
		lists = append(lists, []int{v}, []int{v, 2}, []int{2, v}, []int{1, 2, 3, 11, v})
	}
	return lists
}

// variables returns a valid list of up to so many variables.
func (n *numbers) variables(most int) []int {
	var vars []int
	for range n.between(0, most) {
		vars = append(vars, n.between(1, impl.MaxVars))
	}
	slices.Sort(vars)
	return slices.Compact(vars)
}

func firstVars(count int) []int {
	var vars []int
	for v := 1; v <= count; v++ {
		vars = append(vars, v)
	}
	return vars
}

// fewer returns a constraint for which the first seven variables have exactly so many combinations of values.
func fewer(count int) impl.Constraint {
	c := impl.Constraint{Bound: 128 - count}
	for i := range 7 {
		c.Terms = append(c.Terms, impl.Term{Coef: 64 >> i, Lit: -i - 1})
	}
	return c
}

// padded returns so many constraints, of which the last ones are given.
func padded(count int, last ...impl.Constraint) []impl.Constraint {
	return append(make([]impl.Constraint, count-len(last)), last...)
}

func sameFound(a, b [][]bool) bool { return slices.EqualFunc(a, b, slices.Equal) }

// checkListed checks results that are known. Solutions are given by their first values, and a proof by its text.
func checkListed(t *testing.T, name string, list []impl.Constraint, vars []int, fuel int, code int, found []string, proof string) {
	t.Helper()
	gotCode, got, steps := impl.ListSolutions(list, vars, fuel)
	if gotCode != code || !sameFound(got, listOfBits(found...)) || impl.FormatProof(steps) != proof || len(steps) != strings.Count(proof, "\n") {
		t.Errorf("%s: ListSolutions(%.80v, %d) = %d, %v, %q", name, vars, fuel, gotCode, got, impl.FormatProof(steps))
	}
}

func TestListSolutions(t *testing.T) {
	const both = "rup 1 ~x1 >= 1\nrup 1 x1 >= 1\nrup >= 1\n"
	for _, x := range []struct {
		name string
		list []string
		vars []int
		// fuel is just sufficient.
		fuel  int
		want  []string
		proof string
	}{
		{"no constraints and no variables", nil, nil, 13, []string{""}, "rup >= 1\n"},
		{"no variables", []string{"1 ~x1 1 ~x2 >= 1"}, nil, 12, []string{"10"}, "rup >= 1\n"},
		{"no variables and the last solution", []string{"1 ~x1 1 ~x2 1 ~x3 1 ~x4 1 ~x5 1 ~x6 1 ~x7 1 ~x8 1 ~x9 1 ~x10 1 ~x11 1 ~x12 >= 12"}, nil, 1, []string{"000000000000"}, "rup >= 1\n"},
		{"no variables and no solution", []string{"1 x1 1 x2 >= 1", "1 x1 1 ~x2 >= 1", "1 ~x1 1 x2 >= 1", "1 ~x1 1 ~x2 >= 1"}, nil, 3, nil, both},
		{"no solution", []string{"1 x1 1 x2 >= 1", "1 x1 1 ~x2 >= 1", "1 ~x1 1 x2 >= 1", "1 ~x1 1 ~x2 >= 1"}, []int{2, 5}, 3, nil, both},
		{"a false constraint", []string{"1 x1 >= 0", ">= 1"}, firstVars(impl.MaxVars), 1, nil, "rup >= 1\n"},
		{"example", []string{"1 x1 1 x2 >= 1"}, []int{1, 2}, 13, []string{"11", "10", "01"}, both},
		{"one of the variables", []string{"1 x1 1 x2 >= 1"}, []int{2}, 13, []string{"11", "10"}, "rup >= 1\n"},
		{"a variable that has one value", []string{"1 ~x3 >= 1"}, []int{3}, 12, []string{"110"}, "rup >= 1\n"},
		{"a variable without terms", []string{"1 ~x3 >= 1"}, []int{12}, 12, []string{"110", "110111111110"}, "rup >= 1\n"},
		{"all variables", []string{"1 x1 1 x2 1 x3 1 x4 1 x5 1 x6 1 x7 1 x8 1 x9 1 x10 >= 10", "1 x11 1 x12 >= 1"}, firstVars(impl.MaxVars), 3,
			[]string{"111111111111", "111111111110", "111111111101"}, "rup 1 ~x11 >= 1\nrup 1 x11 >= 1\nrup >= 1\n"},
		{"variables that determine each other", []string{"1 x1 1 ~x2 >= 1", "1 ~x1 1 x2 >= 1"}, []int{1, 2}, 13, []string{"11", "00"}, both},
		{"exactly one of three", []string{"1 x1 1 x2 1 x3 >= 1", "1 ~x1 1 ~x2 1 ~x3 >= 2"}, []int{1, 2, 3}, 14, []string{"100", "010", "001"},
			"rup 1 ~x1 >= 1\nrup 1 x1 1 ~x2 >= 1\nrup 1 x1 1 x2 >= 1\nrup 1 x1 >= 1\nrup >= 1\n"},
	} {
		list := readAll(t, x.list...)
		checkListed(t, x.name, list, x.vars, impl.MaxFuel, impl.SolveUnsat, x.want, x.proof)
		checkListed(t, x.name+", fuel that is just sufficient", list, x.vars, x.fuel, impl.SolveUnsat, x.want, x.proof)
		checkListed(t, x.name+", too little fuel", list, x.vars, x.fuel-1, impl.SolveMuch, nil, "")
		checkListed(t, x.name+", no fuel", list, x.vars, 0, impl.SolveMuch, nil, "")
		steps, _ := impl.ParseProof(x.proof)
		if !impl.CheckListing(list, x.vars, listOfBits(x.want...), steps) || impl.CountProjected(list, x.vars) != len(x.want) {
			t.Errorf("%s: CheckListing refuses the listing, or CountProjected = %d", x.name, impl.CountProjected(list, x.vars))
		}
	}
}

func TestListSolutionsUpToMaxListed(t *testing.T) {
	if impl.MaxListed != 64 {
		t.Error("MaxListed is not that of the document")
	}
	const room = impl.MaxProblem - impl.MaxListed
	for _, x := range []struct {
		name  string
		list  []impl.Constraint
		vars  []int
		count int
	}{
		{"63 solutions", []impl.Constraint{fewer(63)}, firstVars(7), 63},
		{"64 solutions", []impl.Constraint{fewer(64)}, firstVars(7), 64},
		{"65 solutions", []impl.Constraint{fewer(65)}, firstVars(7), 65},
		{"66 solutions", []impl.Constraint{fewer(66)}, firstVars(7), 66},
		{"six variables without constraints", nil, firstVars(6), 64},
		{"the last six variables, after as many constraints as there may be", padded(room, read(t, "1 x1 1 x2 1 x3 1 x4 1 x5 1 x6 >= 6")), []int{7, 8, 9, 10, 11, 12}, 64},
		{"seven variables without constraints", nil, firstVars(7), 128},
		{"all variables without constraints", nil, firstVars(12), 4096},
		{"64 solutions of as many constraints as there may be", padded(room, fewer(64)), firstVars(7), 64},
		{"65 solutions of as many constraints as there may be", padded(room, fewer(65)), firstVars(7), 65},
	} {
		code, found, steps := impl.ListSolutions(x.list, x.vars, impl.MaxFuel)
		wantCode, want, wantSteps := listSlowly(x.list, x.vars, impl.MaxFuel)
		if code != wantCode || !sameFound(found, want) || !impl.ProofSame(steps, wantSteps) || impl.CountProjected(x.list, x.vars) != x.count {
			t.Errorf("%s: ListSolutions = %d, %d solutions, %d steps, not %d, %d solutions, %d steps", x.name, code, len(found), len(steps), wantCode, len(want), len(wantSteps))
		}
		if listed := x.count <= impl.MaxListed; listed != (code == impl.SolveUnsat) || listed && len(found) != x.count {
			t.Errorf("%s: ListSolutions = %d, %d solutions", x.name, code, len(found))
		}
		if impl.CheckListing(x.list, x.vars, found, steps) != (code == impl.SolveUnsat) {
			t.Errorf("%s: CheckListing is wrong", x.name)
		}
	}
}

func TestListSolutionsWithManyConstraints(t *testing.T) {
	const room = impl.MaxProblem - impl.MaxListed
	one := read(t, "1 x1 >= 1")
	checkListed(t, "as many constraints as there may be", padded(room, one), []int{1}, impl.MaxFuel, impl.SolveUnsat, []string{"1"}, "rup >= 1\n")
	checkListed(t, "as many constraints as there may be, no variables", padded(room, one), nil, impl.MaxFuel, impl.SolveUnsat, []string{"1"}, "rup >= 1\n")
	checkListed(t, "as many constraints as there may be, no solution", padded(room, read(t, ">= 1")), nil, 1, impl.SolveUnsat, nil, "rup >= 1\n")
	for _, count := range []int{room + 1, impl.MaxProblem, impl.MaxProblem + 1} {
		for _, vars := range [][]int{nil, {1}, firstVars(7)} {
			checkListed(t, "too many constraints", padded(count, one), vars, impl.MaxFuel, impl.SolveInvalid, nil, "")
			checkListed(t, "too many constraints, no solution", padded(count, read(t, ">= 1")), vars, impl.MaxFuel, impl.SolveInvalid, nil, "")
			checkListed(t, "too many constraints, no fuel", padded(count, one), vars, 0, impl.SolveInvalid, nil, "")
		}
	}
}

func TestListSolutionsRefuses(t *testing.T) {
	for _, list := range invalidProblems() {
		for _, fuel := range []int{0, 1, impl.MaxFuel} {
			checkListed(t, "no problem", list, nil, fuel, impl.SolveInvalid, nil, "")
			checkListed(t, "no problem", list, []int{1, 2}, fuel, impl.SolveInvalid, nil, "")
		}
	}
	lists := [][]impl.Constraint{nil, readAll(t, ">= 1"), readAll(t, "1 x1 >= 1", "1 ~x2 >= 1"), padded(impl.MaxProblem - impl.MaxListed)}
	for _, list := range lists {
		for _, vars := range notLists() {
			checkListed(t, "no variables", list, vars, 0, impl.SolveInvalid, nil, "")
			checkListed(t, "no variables", list, vars, impl.MaxFuel, impl.SolveInvalid, nil, "")
		}
		for _, fuel := range notFuels() {
			checkListed(t, "no such fuel", list, nil, fuel, impl.SolveInvalid, nil, "")
			checkListed(t, "no such fuel", list, []int{1, 2}, fuel, impl.SolveInvalid, nil, "")
		}
	}
}

func TestRoundsThatEndEarly(t *testing.T) {
	many := exactly(3791, 360, 500, 491, 461, 653, 560, 442, 391, 380, 745, 889, 826)
	for _, vars := range [][]int{nil, {3}, firstVars(12)} {
		checkListed(t, "too many steps in the first round", many, vars, impl.MaxFuel, impl.SolveMuch, nil, "")
	}
	// The last round has to go through the values of six variables that do not matter.
	checkListed(t, "too many steps in the last round", nil, []int{7, 8, 9, 10, 11}, impl.MaxFuel, impl.SolveMuch, nil, "")
	list := readAll(t, "1 x1 1 x2 1 x3 >= 1", "1 x4 1 x5 >= 1", "1 ~x1 1 ~x4 1 x6 >= 1")
	for fuel := range 80 {
		code, found, steps := impl.ListSolutions(list, []int{1, 2, 3, 4, 5, 6}, fuel)
		wantCode, want, wantSteps := listSlowly(list, []int{1, 2, 3, 4, 5, 6}, fuel)
		if code != wantCode || !sameFound(found, want) || !impl.ProofSame(steps, wantSteps) || fuel == 79 && code != impl.SolveUnsat {
			t.Errorf("ListSolutions with the fuel %d = %d, %v, %q", fuel, code, found, impl.FormatProof(steps))
		}
	}
}

// listedProblem often has few solutions.
func (n *numbers) listedProblem(t *testing.T) []impl.Constraint {
	t.Helper()
	list := n.smallProblem(t, n.between(4, impl.MaxVars))
	for range n.between(0, 9) {
		list = append(list, n.clause(n.between(2, 8)))
	}
	return list
}

func TestListSolutionsAgainstASlowSearch(t *testing.T) {
	n := &numbers{state: 101}
	var codes [impl.SolveInvalid]int
	solutions := 0
	for i := range 1500 {
		list, vars := n.listedProblem(t), n.variables(5)
		fuel := impl.MaxFuel
		if i%3 == 0 {
			fuel = n.between(0, 20)
		}
		code, found, steps := impl.ListSolutions(list, vars, fuel)
		wantCode, want, wantSteps := listSlowly(list, vars, fuel)
		if code != wantCode || !sameFound(found, want) || !impl.ProofSame(steps, wantSteps) {
			t.Fatalf("ListSolutions(%q, %v, %d) = %d, %v, %q, not %d, %v, %q", impl.FormatProblem(list), vars, fuel,
				code, found, impl.FormatProof(steps), wantCode, want, impl.FormatProof(wantSteps))
		}
		codes[code]++
		solutions += len(found)
	}
	if codes[impl.SolveMuch] < 100 || codes[impl.SolveSat] > 0 || codes[impl.SolveUnsat] < 1000 || solutions < 1500 {
		t.Errorf("the codes occurred %v times, with %d solutions", codes, solutions)
	}
}

func TestListingsAreComplete(t *testing.T) {
	n := &numbers{state: 102}
	listed := 0
	for range 600 {
		list, vars := n.listedProblem(t), n.variables(7)
		want := slowProjections(list, vars)
		if count := impl.CountProjected(list, vars); count != len(want) {
			t.Fatalf("CountProjected(%q, %v) = %d, not %d", impl.FormatProblem(list), vars, count, len(want))
		}
		code, found, steps := impl.ListSolutions(list, vars, impl.MaxFuel)
		if code == impl.SolveMuch {
			continue
		}
		listed++
		var texts []string
		for _, values := range found {
			if !satisfied(list, values) {
				t.Fatalf("ListSolutions(%q, %v) has %v, which is no solution", impl.FormatProblem(list), vars, values)
			}
			texts = append(texts, pickBits(values, vars))
		}
		slices.Sort(texts)
		if code != impl.SolveUnsat || !slices.Equal(texts, want) || !impl.CheckListing(list, vars, found, steps) {
			t.Fatalf("ListSolutions(%q, %v) = %d, %v, %q", impl.FormatProblem(list), vars, code, found, impl.FormatProof(steps))
		}
	}
	if listed < 200 {
		t.Errorf("only %d problems have a listing", listed)
	}
}

func checkAccepted(t *testing.T, name string, list []impl.Constraint, vars []int, found [][]bool, steps []impl.Step, want bool) {
	t.Helper()
	if impl.CheckListing(list, vars, found, steps) != want {
		t.Errorf("%s: CheckListing(%.80v, %.80v, %.80v, %.80v) = %v", name, list, vars, found, steps, !want)
	}
}

func TestCheckListing(t *testing.T) {
	const both = "rup 1 ~x1 >= 1\nrup 1 x1 >= 1\nrup >= 1\n"
	const added = "add 0 1\ndivide 4 2\nadd 2 3\ndivide 6 2\nadd 5 7\n"
	either, certain := []string{"1 x1 1 x2 >= 1"}, []string{"1 x1 >= 1"}
	for _, x := range []struct {
		name  string
		list  []string
		vars  []int
		found []string
		proof string
		want  bool
	}{
		{"example", either, []int{1, 2}, []string{"11", "10", "01"}, both, true},
		{"another order", either, []int{1, 2}, []string{"01", "11", "10"}, both, true},
		{"other values of variables that are ignored", either, []int{1, 2}, []string{"110000000000", "1001", "01010101"}, both, true},
		{"a solution is missing", either, []int{1, 2}, []string{"11", "10"}, both, false},
		{"no solutions", either, []int{1, 2}, nil, both, false},
		{"a solution that is listed twice", either, []int{1, 2}, []string{"11", "10", "01", "11"}, both, false},
		{"a solution that is listed twice in a row", either, []int{1, 2}, []string{"11", "11", "10", "01"}, both, false},
		{"a solution that is listed twice, apart from variables that are ignored", either, []int{1, 2}, []string{"11", "10", "01", "011"}, both, false},
		{"a solution that is listed twice, apart from a variable that is ignored", either, []int{1, 2}, []string{"110", "10", "01", "111"}, both, false},
		{"a solution that is listed twice, without variables", certain, nil, []string{"1", "1"}, "rup >= 1\n", false},
		{"solutions that do not differ, because there are no variables", certain, nil, []string{"1", "10"}, "rup >= 1\n", false},
		{"no solution", either, []int{1, 2}, []string{"11", "10", "01", "00"}, both, false},
		{"no solution in front", either, []int{1, 2}, []string{"00", "11", "10", "01"}, both, false},
		{"no solution, but it would be one in the variables", either, []int{2}, []string{"11", "00"}, "rup >= 1\n", false},
		{"a solution in its place", either, []int{2}, []string{"01", "10"}, "rup >= 1\n", true},
		{"no steps", either, []int{1, 2}, []string{"11", "10", "01"}, "", false},
		{"steps that refute nothing", either, []int{1, 2}, []string{"11", "10", "01"}, "rup 1 ~x1 >= 1\nrup 1 x1 >= 1\n", false},
		{"a step that is not valid", either, []int{1, 2}, []string{"11", "10", "01"}, "rup >= 1\n", false},
		{"a step that is not valid at the end", either, []int{1, 2}, []string{"11", "10", "01"}, both + "delete 7\n", false},
		{"a false constraint that is deleted", either, []int{1, 2}, []string{"11", "10", "01"}, both + "delete 6\n", false},
		{"a longer proof than is needed", either, []int{1}, []string{"11", "01"}, both, true},
		{"more variables than are listed", either, []int{1, 2, 3}, []string{"11", "10", "01"}, both, false},
		{"no variables, one solution", either, nil, []string{"01"}, "rup >= 1\n", true},
		{"no variables, one solution, no steps", either, nil, []string{"01"}, "", true},
		{"no variables, one solution, a step that is not valid", either, nil, []string{"01"}, "delete 2\n", false},
		{"no variables, one solution, the clause is deleted", either, nil, []string{"01"}, "delete 1\n", false},
		{"no variables, no solution", either, nil, []string{"00"}, "rup >= 1\n", false},
		{"no variables, nothing is listed", either, nil, nil, "rup >= 1\n", false},
		{"no variables and no constraints", nil, nil, []string{""}, "", true},
		{"a problem without solutions", []string{"1 x1 >= 1", "1 ~x1 >= 1"}, []int{1, 2}, nil, "add 0 1\n", true},
		{"a problem without solutions, no variables", []string{"1 x1 >= 1", "1 ~x1 >= 1"}, nil, nil, "add 0 1\n", true},
		{"a problem without solutions, something is listed", []string{"1 x1 >= 1", "1 ~x1 >= 1"}, []int{1}, []string{"1"}, "add 0 1\n", false},
		{"a false constraint", []string{">= 1"}, []int{1, 2}, nil, "", true},
		{"a clause is numbered after the problem", certain, []int{1}, []string{"1"}, "add 0 1\n", true},
		{"a clause is numbered after the problem, not before", []string{"1 x1 >= 1", "1 x2 >= 1"}, []int{1}, []string{"1"}, "delete 1\nadd 0 2\n", true},
		{"the clauses are in the order of the list", nil, []int{1, 2}, []string{"11", "10", "01", "00"}, added, true},
		{"the clauses are in the order of another list", nil, []int{1, 2}, []string{"11", "00", "10", "01"}, added, false},
		{"the clauses have the variables only", nil, []int{12}, []string{"", "111111111110"}, "add 0 1\n", true},
		{"all variables", []string{"1 ~x1 1 ~x2 1 ~x3 1 ~x4 1 ~x5 1 ~x6 1 ~x7 1 ~x8 1 ~x9 1 ~x10 1 ~x11 1 ~x12 >= 12"}, firstVars(impl.MaxVars), []string{"000000000000"}, "rup >= 1\n", true},
	} {
		steps, ok := impl.ParseProof(x.proof)
		if !ok {
			t.Fatalf("ParseProof refuses %q", x.proof)
		}
		checkAccepted(t, x.name, readAll(t, x.list...), x.vars, listOfBits(x.found...), steps, x.want)
	}
}

func TestCheckListingRefuses(t *testing.T) {
	either, all := readAll(t, "1 x1 1 x2 >= 1"), listOfBits("11", "10", "01")
	steps := readSteps(t, "rup 1 ~x1 >= 1", "rup 1 x1 >= 1", "rup >= 1")
	checkAccepted(t, "a listing", either, []int{1, 2}, all, steps, true)
	for _, list := range invalidProblems() {
		for _, vars := range [][]int{nil, {1}, {1, 2}} {
			checkAccepted(t, "no problem", list, vars, nil, readSteps(t, "rup >= 1"), false)
			checkAccepted(t, "no problem, a solution", list, vars, listOfBits("11"), nil, false)
			checkAccepted(t, "no problem, solutions", list, vars, all, steps, false)
		}
	}
	for _, vars := range notLists() {
		checkAccepted(t, "no variables", either, vars, all, steps, false)
		checkAccepted(t, "no variables, one solution", either, vars, all[:1], steps, false)
		checkAccepted(t, "no variables, a false constraint", readAll(t, ">= 1"), vars, nil, nil, false)
	}
	for _, values := range notValues() {
		checkAccepted(t, "no values", either, []int{1, 2}, [][]bool{all[0], all[1], all[2], values}, steps, false)
		checkAccepted(t, "no values in front", either, []int{1, 2}, [][]bool{values, all[1], all[2]}, steps, false)
		checkAccepted(t, "no values and no variables", either, nil, [][]bool{values}, steps, false)
		checkAccepted(t, "no values and no constraints", nil, nil, [][]bool{values}, nil, false)
	}
	for _, s := range malformedSteps() {
		checkAccepted(t, "a step that is malformed", either, []int{1, 2}, all, append(slices.Clone(steps), s), false)
		checkAccepted(t, "a step that is malformed in front", either, nil, all[:1], []impl.Step{s}, false)
	}
}

func TestLimitsOfCheckListing(t *testing.T) {
	const room = impl.MaxProblem - impl.MaxListed
	empty := readSteps(t, "rup >= 1")
	for count := room - 1; count <= impl.MaxProblem+1; count++ {
		accepted := count <= room
		checkAccepted(t, "a problem without solutions", padded(count, read(t, ">= 1")), []int{1}, nil, nil, accepted)
		checkAccepted(t, "one solution", padded(count, read(t, "1 x1 >= 1")), []int{1}, listOfBits("1"), empty, accepted)
		checkAccepted(t, "one solution and no variables", padded(count, read(t, "1 x1 >= 1")), nil, listOfBits("1"), nil, accepted)
	}
	for _, x := range []struct{ count, limit int }{{63, 100}, {64, 100}, {65, 100}, {66, 100}, {64, room}, {65, room - 1}, {64, room + 1}} {
		list := padded(x.limit, fewer(x.count))
		var found [][]bool
		for place := range x.count {
			found = append(found, inOrder(place<<5))
		}
		code, values, steps := impl.SolveProblem(excluding(list, firstVars(7), found), impl.MaxFuel)
		if code != impl.SolveUnsat && len(list)+len(found) <= impl.MaxProblem {
			t.Fatalf("%d values leave the solution %v", x.count, values)
		}
		checkAccepted(t, "many solutions", list, firstVars(7), found, steps, x.count <= impl.MaxListed && x.limit <= room)
	}
	one := readAll(t, "1 x1 >= 1")
	checkAccepted(t, "MaxSteps steps", one, []int{1}, listOfBits("1"), append(idleSteps(impl.MaxSteps-1), empty...), true)
	checkAccepted(t, "more than MaxSteps steps", one, []int{1}, listOfBits("1"), append(idleSteps(impl.MaxSteps), empty...), false)
	checkAccepted(t, "more than MaxSteps steps, none of which is needed", one, nil, listOfBits("1"), idleSteps(impl.MaxSteps+1), false)
}

// disturb changes a listing in one of several ways, some of which leave it correct.
func (n *numbers) disturb(found [][]bool, steps []impl.Step) ([][]bool, []impl.Step) {
	found, steps = slices.Clone(found), slices.Clone(steps)
	some := func() int { return n.between(0, len(found)-1) }
	switch kind := n.between(0, 5); {
	case kind == 0 && len(steps) > 0:
		return found, slices.Delete(steps, len(steps)-1, len(steps))
	case kind == 1 || len(found) == 0:
		return append(found, valuesOf(n.between(0, 1<<impl.MaxVars-1))), steps
	case kind == 2:
		at := some()
		return slices.Delete(found, at, at+1), steps
	case kind == 3:
		return slices.Insert(found, some(), found[some()]), steps
	case kind == 4:
		slices.Reverse(found)
	default:
		at, v := some(), n.between(0, impl.MaxVars-1)
		found[at] = slices.Clone(found[at])
		found[at][v] = !found[at][v]
	}
	return found, steps
}

func TestCheckedListingsContainAllSolutions(t *testing.T) {
	n := &numbers{state: 103}
	accepted, refused := 0, 0
	for range 1200 {
		list, vars := n.listedProblem(t), n.variables(4)
		code, found, steps := impl.ListSolutions(list, vars, impl.MaxFuel)
		if code != impl.SolveUnsat {
			continue
		}
		for range 4 {
			other, proof := n.disturb(found, steps)
			want := acceptSlowly(list, vars, other, proof)
			if impl.CheckListing(list, vars, other, proof) != want {
				t.Fatalf("CheckListing(%q, %v, %v, %q) = %v", impl.FormatProblem(list), vars, other, impl.FormatProof(proof), !want)
			}
			if !want {
				refused++
				continue
			}
			accepted++
			var texts []string
			for _, values := range other {
				texts = append(texts, pickBits(values, vars))
			}
			slices.Sort(texts)
			if !slices.Equal(texts, slowProjections(list, vars)) {
				t.Fatalf("CheckListing(%q, %v, %v) accepts a listing that is not complete", impl.FormatProblem(list), vars, other)
			}
		}
	}
	if accepted < 500 || refused < 1000 {
		t.Errorf("%d listings are accepted, %d refused", accepted, refused)
	}
}

func TestExcludeClause(t *testing.T) {
	for _, x := range []struct {
		vars []int
		bits string
		want string
	}{
		{nil, "", ">= 1"},
		{nil, "000000000000", ">= 1"},
		{[]int{1}, "1", "1 ~x1 >= 1"},
		{[]int{1}, "0", "1 x1 >= 1"},
		{[]int{12}, "111111111110", "1 x12 >= 1"},
		{[]int{1, 3}, "100", "1 ~x1 1 x3 >= 1"},
		{[]int{2, 5, 11}, "01001", "1 ~x2 1 ~x5 1 ~x11 >= 1"},
		{[]int{2, 5, 11}, "000000000000", "1 x2 1 x5 1 x11 >= 1"},
		{firstVars(12), "101010101010", "1 ~x1 1 x2 1 ~x3 1 x4 1 ~x5 1 x6 1 ~x7 1 x8 1 ~x9 1 x10 1 ~x11 1 x12 >= 1"},
	} {
		c, ok := impl.ExcludeClause(x.vars, withBits(x.bits))
		checkResult(t, "ExcludeClause", c, ok, x.want)
	}
	for _, vars := range append(notLists(), nil, []int{1}, firstVars(12)) {
		for _, values := range notValues() {
			c, ok := impl.ExcludeClause(vars, values)
			checkRefused(t, "ExcludeClause of no values", c, ok)
		}
	}
	for _, vars := range notLists() {
		for _, bits := range []int{0, 1, 77, 4095} {
			c, ok := impl.ExcludeClause(vars, valuesOf(bits))
			checkRefused(t, "ExcludeClause of no variables", c, ok)
		}
	}
}

func TestExcludeClauseIsSatisfiedByValuesThatDiffer(t *testing.T) {
	n := &numbers{state: 104}
	for i := range 60 {
		vars, values := n.variables(i), valuesOf(n.between(0, 1<<impl.MaxVars-1))
		c, ok := impl.ExcludeClause(vars, values)
		if !ok || !impl.ConstraintSame(c, excludeSlowly(vars, values)) {
			t.Fatalf("ExcludeClause(%v, %v) = %v, %v", vars, values, c, ok)
		}
		for bits := range 1 << impl.MaxVars {
			other := valuesOf(bits)
			if impl.EvalConstraint(c, other) != (pickBits(other, vars) != pickBits(values, vars)) {
				t.Fatalf("ExcludeClause(%v, %v) is wrong for %v", vars, values, other)
			}
		}
	}
}

func TestCountProjected(t *testing.T) {
	for _, x := range []struct {
		list []impl.Constraint
		vars []int
		want int
	}{
		{nil, nil, 1},
		{nil, []int{5}, 2},
		{nil, []int{2, 7, 11}, 8},
		{nil, firstVars(12), 4096},
		{readAll(t, "1 x1 1 x2 >= 1"), nil, 1},
		{readAll(t, "1 x1 1 x2 >= 1"), []int{1, 2}, 3},
		{readAll(t, "1 x1 1 x2 >= 1"), []int{2}, 2},
		{readAll(t, "1 x1 1 x2 >= 1"), []int{1, 2, 12}, 6},
		{readAll(t, "1 x1 1 x2 >= 1"), []int{3, 4}, 4},
		{readAll(t, "1 x1 1 x2 >= 1"), firstVars(12), 3072},
		{readAll(t, "1 ~x5 >= 1"), []int{5}, 1},
		{readAll(t, ">= 1"), nil, 0},
		{readAll(t, ">= 1"), []int{1}, 0},
		{readAll(t, "1 x1 1 x2 >= 1", "1 x1 1 ~x2 >= 1", "1 ~x1 1 x2 >= 1", "1 ~x1 1 ~x2 >= 1"), nil, 0},
		{readAll(t, "1 x1 1 x2 >= 1", "1 x1 1 ~x2 >= 1", "1 ~x1 1 x2 >= 1", "1 ~x1 1 ~x2 >= 1"), firstVars(12), 0},
		{exactly(6, slices.Repeat([]int{1}, 12)...), firstVars(12), 924},
		{exactly(6, slices.Repeat([]int{1}, 12)...), firstVars(7), 126},
		{exactly(6, slices.Repeat([]int{1}, 12)...), firstVars(6), 64},
		{exactly(3791, 360, 500, 491, 461, 653, 560, 442, 391, 380, 745, 889, 826), nil, 1},
		{fullProblem(), firstVars(12), 4096},
		{fullProblem(), nil, 1},
		{padded(impl.MaxProblem, fewer(65)), firstVars(7), 65},
		{padded(impl.MaxProblem, fewer(65)), firstVars(12), 65 * 32},
		{padded(impl.MaxProblem, fewer(65)), []int{1, 7, 12}, 6},
		{padded(impl.MaxProblem, read(t, ">= 1")), []int{1}, 0},
	} {
		if count := impl.CountProjected(x.list, x.vars); count != x.want {
			t.Errorf("CountProjected(%.200q, %v) = %d, not %d", impl.FormatProblem(x.list), x.vars, count, x.want)
		}
	}
	for _, list := range invalidProblems() {
		for _, vars := range [][]int{nil, {1}, firstVars(12), {0}} {
			if count := impl.CountProjected(list, vars); count != 0 {
				t.Errorf("CountProjected(%.80v, %v) = %d", list, vars, count)
			}
		}
	}
	for _, vars := range notLists() {
		for _, list := range [][]impl.Constraint{nil, readAll(t, "1 x1 1 x2 >= 1"), fullProblem(), invalidProblems()[0]} {
			if count := impl.CountProjected(list, vars); count != 0 {
				t.Errorf("CountProjected(%.80v, %.80v) = %d", list, vars, count)
			}
		}
	}
}

func TestTextsOfValues(t *testing.T) {
	for _, text := range []string{"000000000000", "111111111111", "100000000000", "000000000001", "010011000111"} {
		values, ok := impl.ParseValues(text)
		if !ok || !slices.Equal(values, withBits(text)) {
			t.Errorf("ParseValues(%q) = %v, %v", text, values, ok)
		}
	}
	for place := range 1 << impl.MaxVars {
		values := inOrder(place)
		text := impl.FormatValues(values)
		if again, ok := impl.ParseValues(text); !ok || text != bitsOf(values) || !slices.Equal(again, values) {
			t.Errorf("FormatValues(%v) = %q, ParseValues = %v, %v", values, text, again, ok)
		}
	}
	for _, values := range notValues() {
		if text := impl.FormatValues(values); text != "" {
			t.Errorf("FormatValues(%.80v) = %q", values, text)
		}
	}
	texts := []string{
		"", "0", "1", "00000000000", "11111111111", "0000000000000", "1111111111111", "\n", "            ", "000000000000\n", " 00000000000", "00000000000 ",
		"-00000000000", "+11111111111", "0x1111111111", "true", "ffffffffffff", "tttttttttttt", strings.Repeat("1", 24), strings.Repeat("0", 100000),
		strings.Repeat("\u0661", 6), strings.Repeat("\u0661", 12), "1111111111\u0661", strings.Repeat("\uff11", 4), "11111111111\xff", strings.Repeat("\x00", 12), strings.Repeat("\x01", 12),
	}
	for i := range impl.MaxVars {
		for _, other := range []string{"2", "9", "/", "x", "O", "l", " ", "\n", "\x00", "\x80", ""} {
			texts = append(texts, "010101010101"[:i]+other+"010101010101"[i+1:])
		}
	}
	for _, text := range texts {
		if values, ok := impl.ParseValues(text); ok || len(values) != 0 {
			t.Errorf("ParseValues(%.80q) = %v, %v", text, values, ok)
		}
	}
}

func TestListingKeepsItsArguments(t *testing.T) {
	texts := []string{"1 x1 1 x2 >= 1", "2 ~x3 1 x4 >= 2", "1 x9 >= 1", ">= 1", "1 x10 >= 1"}
	lines := []string{"rup 1 ~x1 >= 1", "rup 1 x1 >= 1", "rup >= 1", "literal x4"}
	for count := range 4 {
		whole, steps := readAll(t, texts...), readSteps(t, lines...)
		terms := append(whole[1].Terms, impl.Term{Coef: 8, Lit: 8})
		whole[1].Terms = terms[:2]
		variables, found, last := []int{1, 2, 7, 8}, listOfBits("1101", "1001", "0101", "0001", "1"), append(withBits("1"), true)
		list, vars := whole[:count], variables[:2]
		impl.ListSolutions(list, vars, impl.MaxFuel)
		if accepted := impl.CheckListing(list, vars, found[:3], steps[:3]); accepted != (count > 0) {
			t.Errorf("CheckListing of %d constraints = %v", count, accepted)
		}
		impl.ExcludeClause(vars, last[:impl.MaxVars])
		impl.CountProjected(list, vars)
		impl.FormatValues(last[:impl.MaxVars])
		if !sameProblem(whole, readAll(t, texts...)) || terms[2] != (impl.Term{Coef: 8, Lit: 8}) || !slices.Equal(variables, []int{1, 2, 7, 8}) ||
			!sameFound(found, listOfBits("1101", "1001", "0101", "0001", "1")) || !slices.Equal(last, append(withBits("1"), true)) || !impl.ProofSame(steps, readSteps(t, lines...)) {
			t.Errorf("a function of %d constraints changes an argument", count)
		}
	}
}

func TestListingResultsShareNoMemory(t *testing.T) {
	list, vars := readAll(t, "1 x1 1 x2 >= 1"), []int{1, 2}
	checkOwnSteps(t, "ListSolutions", func() []impl.Step {
		_, _, steps := impl.ListSolutions(list, vars, impl.MaxFuel)
		return steps
	})
	_, found, _ := impl.ListSolutions(list, vars, impl.MaxFuel)
	_, other, _ := impl.ListSolutions(list, vars, impl.MaxFuel)
	for i, values := range found {
		clear(values[:cap(values)])
		if !sameFound(found[i+1:], other[i+1:]) {
			t.Errorf("solution %d shares memory with a later one", i)
		}
	}
	clear(found[:cap(found)])
	if want := listOfBits("11", "10", "01"); !sameFound(other, want) || !sameProblem(list, readAll(t, "1 x1 1 x2 >= 1")) || !slices.Equal(vars, []int{1, 2}) {
		t.Errorf("a listing shares memory: %v", other)
	}
	values := withBits("10")
	first, _ := impl.ExcludeClause(vars, values)
	second, _ := impl.ExcludeClause(vars, values)
	spoil(first)
	if impl.FormatConstraint(second) != "1 ~x1 1 x2 >= 1" || !slices.Equal(vars, []int{1, 2}) || !slices.Equal(values, withBits("10")) {
		t.Errorf("a result of ExcludeClause shares memory: %v", second)
	}
	parsed, _ := impl.ParseValues("101010101010")
	again, _ := impl.ParseValues("101010101010")
	clear(parsed[:cap(parsed)])
	if !slices.Equal(again, withBits("101010101010")) {
		t.Errorf("two results of ParseValues share memory: %v", again)
	}
}
