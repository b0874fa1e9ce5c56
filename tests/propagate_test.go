package tests

import (
	"math"
	"slices"
	"strings"
	"testing"

	"loop.example/cuttingplanes/impl"
)

func readAll(t *testing.T, texts ...string) []impl.Constraint {
	t.Helper()
	var list []impl.Constraint
	for _, text := range texts {
		list = append(list, read(t, text))
	}
	return list
}

// assign returns the partial assignment in which exactly these literals are true.
func assign(lits ...int) []int {
	p := make([]int, impl.MaxVars)
	for _, lit := range lits {
		p[max(lit, -lit)-1] = lit / max(lit, -lit)
	}
	return p
}

// trueIn returns the literals that are true under a partial assignment.
func trueIn(p []int) []int {
	var lits []int
	for i, value := range p {
		if value != 0 {
			lits = append(lits, (i+1)*value)
		}
	}
	return lits
}

func invalidPartials() [][]int {
	partials := [][]int{
		nil, {}, {0}, {1, -1},
		make([]int, impl.MaxVars-1), make([]int, impl.MaxVars+1), make([]int, 1000),
		make([]int, 0, impl.MaxVars),
	}
	for _, value := range []int{2, -2, 12, math.MinInt, math.MaxInt} {
		for i := range impl.MaxVars {
			p := make([]int, impl.MaxVars)
			p[i] = value
			partials = append(partials, p)
		}
	}
	return partials
}

// invalidProblems has each invalid constraint in different places, and a problem that is too long.
func invalidProblems() [][]impl.Constraint {
	problems := [][]impl.Constraint{make([]impl.Constraint, impl.MaxProblem+1), make([]impl.Constraint, 3000)}
	for i, c := range invalidConstraints() {
		list := make([]impl.Constraint, i+1)
		list[i/2] = c
		full := make([]impl.Constraint, impl.MaxProblem)
		full[len(full)-1] = c
		problems = append(problems, []impl.Constraint{c}, list, full)
	}
	return problems
}

// fullProblem has MaxProblem constraints that all values satisfy.
func fullProblem() []impl.Constraint { return make([]impl.Constraint, impl.MaxProblem) }

// smallProblem has small bounds, so that many problems have solutions.
func (n *numbers) smallProblem(t *testing.T, vars int) []impl.Constraint {
	t.Helper()
	var list []impl.Constraint
	for range n.between(0, 7) {
		c := n.smallConstraint(t, vars)
		c.Bound /= n.between(1, 5)
		list = append(list, c)
	}
	return list
}

func (n *numbers) smallPartial(vars int) []int {
	p := make([]int, impl.MaxVars)
	for range n.between(0, 3) {
		p[n.between(1, vars)-1] = n.between(-1, 1)
	}
	return p
}

func TestPartialValid(t *testing.T) {
	for _, p := range [][]int{
		make([]int, impl.MaxVars),
		slices.Repeat([]int{1}, impl.MaxVars),
		slices.Repeat([]int{-1}, impl.MaxVars),
		slices.Repeat([]int{0, 1, -1}, impl.MaxVars/3),
		assign(1, -12),
	} {
		if !impl.PartialValid(p) {
			t.Errorf("PartialValid refuses %v", p)
		}
	}
	for _, p := range invalidPartials() {
		if impl.PartialValid(p) {
			t.Errorf("PartialValid accepts %v", p)
		}
	}
}

func TestProblemValid(t *testing.T) {
	for _, list := range [][]impl.Constraint{
		nil,
		{},
		{{}},
		readAll(t, ">= 1"),
		readAll(t, "1 x1 1 x2 >= 1", "1 x1 1 x2 >= 1", "1000 ~x12 >= 20000"),
		fullProblem(),
		slices.Repeat(readAll(t, "1 ~x1 >= 1"), impl.MaxProblem),
	} {
		if !impl.ProblemValid(list) {
			t.Errorf("ProblemValid refuses %v", list)
		}
	}
	for _, list := range invalidProblems() {
		if impl.ProblemValid(list) {
			t.Errorf("ProblemValid accepts %v", list)
		}
	}
}

func TestSlackOf(t *testing.T) {
	const text = "2 x1 3 ~x2 4 x12 >= 5"
	for _, x := range []struct {
		text string
		p    []int
		want int
	}{
		{text, assign(), 4},
		{text, assign(1, -2, 12), 4},
		{text, assign(3, -4, 11), 4},
		{text, assign(-1), 2},
		{text, assign(2), 1},
		{text, assign(-12), 0},
		{text, assign(-1, 2), -1},
		{text, assign(-1, 2, 12), -1},
		{text, assign(-1, 2, -12), -5},
		{"2 x1 3 ~x2 >= 0", assign(-1, 2), 0},
		{">= 0", assign(1), 0},
		{">= 7", assign(), -7},
		{">= 20000", assign(), -20000},
		{"1000 ~x1 >= 20000", assign(1), -20000},
		{"1000 ~x1 >= 20000", assign(-1), -19000},
	} {
		if got, ok := impl.SlackOf(read(t, x.text), x.p); !ok || got != x.want {
			t.Errorf("SlackOf(%s, %v) = %d, %v, not %d", x.text, x.p, got, ok, x.want)
		}
	}
	if got, ok := impl.SlackOf(overAllVars(impl.MaxCoef, 0, true), assign()); !ok || got != 12000 {
		t.Errorf("SlackOf of the greatest coefficients = %d, %v", got, ok)
	}
}

func TestSlackAndImpliedLiteralsOfInvalidArguments(t *testing.T) {
	check := func(c impl.Constraint, p []int) {
		t.Helper()
		if slack, ok := impl.SlackOf(c, p); ok || slack != 0 {
			t.Errorf("SlackOf(%v, %v) = %d, %v", c, p, slack, ok)
		}
		if lits := impl.ImpliedLiterals(c, p); len(lits) != 0 {
			t.Errorf("ImpliedLiterals(%v, %v) = %v", c, p, lits)
		}
	}
	for _, c := range invalidConstraints() {
		check(c, assign())
		check(c, assign(-1))
		check(c, nil)
	}
	for _, p := range invalidPartials() {
		check(read(t, "2 x1 3 ~x2 >= 5"), p)
		check(impl.Constraint{}, p)
	}
}

func TestImpliedLiterals(t *testing.T) {
	for _, x := range []struct {
		name, text string
		p          []int
		want       []int
	}{
		{"all literals", "1 x1 2 ~x2 3 x12 >= 6", assign(), []int{1, -2, 12}},
		{"several literals, in the order of the terms", "5 ~x3 1 x4 4 x7 3 ~x11 >= 10", assign(), []int{-3, 7}},
		{"a coefficient that equals the slack", "2 x1 3 x2 >= 3", assign(), []int{2}},
		{"a slack that equals all coefficients", "2 x1 2 x2 >= 2", assign(), nil},
		{"a false literal makes the slack smaller", "2 x1 2 ~x2 2 x3 >= 2", assign(-1, 2), []int{3}},
		{"a true literal leaves the slack", "2 x1 2 ~x2 2 x3 >= 2", assign(1), nil},
		{"literals with values are left out", "3 x1 3 ~x2 3 x3 3 x4 >= 9", assign(-1, 3), []int{-2, 4}},
		{"all have values", "3 x1 3 ~x2 >= 6", assign(1, -2), nil},
		{"slack 0", "1 x1 1 ~x2 1 x3 >= 2", assign(2), []int{1, 3}},
		{"negative slack", "1 x1 1 ~x2 1 x3 >= 2", assign(-1, 2), nil},
		{"negative slack from the start", "1 x1 1 ~x2 >= 3", assign(), nil},
		{"the bound 0", "1 x1 1000 ~x2 >= 0", assign(-1), nil},
		{"no terms", ">= 0", assign(), nil},
		{"no terms and a negative slack", ">= 1", assign(), nil},
		{"least variable and greatest coefficient", "1000 ~x1 1 x2 >= 1000", assign(-12), []int{-1}},
	} {
		if got := impl.ImpliedLiterals(read(t, x.text), x.p); !slices.Equal(got, x.want) {
			t.Errorf("%s: ImpliedLiterals(%s, %v) = %v, not %v", x.name, x.text, x.p, got, x.want)
		}
	}
}

type propagationCase struct {
	name string
	list []string
	p    []int
	want []int
	at   int
}

func checkPropagation(t *testing.T, cases []propagationCase) {
	t.Helper()
	for _, x := range cases {
		q, at, ok := impl.Propagate(readAll(t, x.list...), x.p)
		if !ok || at != x.at || !impl.PartialValid(q) || !slices.Equal(trueIn(q), x.want) {
			t.Errorf("%s: Propagate = %v, %d, %v, not %v, %d", x.name, trueIn(q), at, ok, x.want, x.at)
		}
	}
}

func TestPropagateResults(t *testing.T) {
	checkPropagation(t, []propagationCase{
		{"empty problem", nil, assign(), nil, -1},
		{"empty problem, some values", nil, assign(1, -5, 12), []int{1, -5, 12}, -1},
		{"empty problem, all values", nil, slices.Repeat([]int{-1}, 12), []int{-1, -2, -3, -4, -5, -6, -7, -8, -9, -10, -11, -12}, -1},
		{"nothing implied", []string{"1 x1 1 x2 >= 1", ">= 0"}, assign(), nil, -1},
		{"one literal", []string{"1 x1 1 x2 >= 1"}, assign(-2), []int{1, -2}, -1},
		{"several literals at once", []string{"1 x1 2 ~x2 3 x12 >= 6"}, assign(), []int{1, -2, 12}, -1},
		{"some of the literals at once", []string{"5 ~x3 1 x4 4 x7 3 ~x11 >= 10"}, assign(), []int{-3, 7}, -1},
		{"forward in one round", []string{"1 x1 >= 1", "1 ~x1 1 x2 >= 1", "1 ~x2 1 ~x3 >= 1"}, assign(), []int{1, 2, -3}, -1},
		{"backward in several rounds", []string{"1 ~x3 1 x4 >= 1", "1 ~x2 1 x3 >= 1", "1 ~x1 1 x2 >= 1", "1 x1 >= 1"}, assign(), []int{1, 2, 3, 4}, -1},
		{"several literals make others true", []string{"1 ~x1 1 ~x2 1 ~x3 1 x4 >= 1", "2 x1 2 x2 1 x3 >= 5"}, assign(), []int{1, 2, 3, 4}, -1},
		{"a constraint implies another literal later", []string{"3 x1 1 x2 1 x3 >= 4", "1 ~x1 1 x4 >= 1", "1 ~x2 1 ~x4 >= 1"}, assign(), []int{1, -2, 3, 4}, -1},
		{"values are kept", []string{"1 x1 1 x2 >= 1"}, assign(1, -2, 3), []int{1, -2, 3}, -1},
	})
}

func TestPropagateFindsTheViolatedConstraint(t *testing.T) {
	checkPropagation(t, []propagationCase{
		{"violated from the start", []string{">= 1"}, assign(), nil, 0},
		{"violated from the start by its coefficients", []string{"1 x1 1 x2 >= 3"}, assign(4), []int{4}, 0},
		{"violated from the start by the values", []string{"1 x1 1 ~x2 >= 1"}, assign(-1, 2), []int{-1, 2}, 0},
		{"the first one is violated before the second one implies", []string{"1 x1 >= 2", "1 x2 >= 1"}, assign(), nil, 0},
		{"the second one is violated after the first one implies", []string{"1 x2 >= 1", "1 x1 >= 2", "1 x3 >= 1"}, assign(), []int{2}, 1},
		{"two are violated from the start", []string{"1 x1 >= 0", ">= 1", ">= 2"}, assign(), nil, 1},
		{"an earlier one is violated, a later one was so from the start", []string{"1 x1 >= 1", "1 ~x1 >= 1", ">= 1"}, assign(), []int{1}, 1},
		{"violated after all literals at once", []string{"1 x1 1 x2 1 x3 >= 3", "1 ~x1 1 x4 >= 1", "1 ~x2 1 ~x3 >= 1"}, assign(), []int{1, 2, 3, 4}, 2},
		{"the rest of the round comes before the first one", []string{"1 x1 1 x2 1 x3 >= 2", "2 ~x1 2 ~x2 >= 4", "1 x1 1 x2 >= 1"}, assign(), []int{-1, -2}, 2},
		{"the first one is violated in the next round", []string{"1 x1 1 x2 1 x3 >= 2", "2 ~x1 2 ~x2 >= 4", "1 x4 >= 1"}, assign(), []int{-1, -2, 4}, 0},
		{"the index in a later round", []string{"1 ~x1 1 x2 >= 1", "1 ~x1 1 ~x2 >= 1", "1 x1 >= 1"}, assign(), []int{1, 2}, 1},
	})
}

func TestPropagateOfFullProblems(t *testing.T) {
	list := fullProblem()
	list[impl.MaxProblem-1] = read(t, "1 x1 1 ~x12 >= 2")
	if q, at, ok := impl.Propagate(list, assign()); !ok || at != -1 || !slices.Equal(trueIn(q), []int{1, -12}) {
		t.Errorf("Propagate of MaxProblem constraints = %v, %d, %v", q, at, ok)
	}
	if q, at, ok := impl.Propagate(list, assign(12)); !ok || at != impl.MaxProblem-1 || !slices.Equal(trueIn(q), []int{12}) {
		t.Errorf("Propagate of MaxProblem constraints, the last one violated = %v, %d, %v", q, at, ok)
	}
	long := slices.Repeat([]impl.Constraint{overAllVars(1, 1, true)}, impl.MaxProblem)
	for v := 1; v < impl.MaxVars; v++ {
		long[impl.MaxProblem-v] = impl.Constraint{Terms: []impl.Term{{Coef: 1, Lit: v}}, Bound: 1}
	}
	if q, at, ok := impl.Propagate(long, assign()); !ok || at != -1 || !slices.Equal(trueIn(q), []int{1, 2, 3, 4, 5, 6, 7, 8, 9, 10, 11, -12}) {
		t.Errorf("Propagate of long constraints = %v, %d, %v", q, at, ok)
	}
}

func TestPropagateRefuses(t *testing.T) {
	check := func(list []impl.Constraint, p []int) {
		t.Helper()
		if q, at, ok := impl.Propagate(list, p); ok || at != -1 || len(q) != 0 {
			t.Errorf("Propagate(%.80v, %v) = %v, %d, %v", list, p, q, at, ok)
		}
	}
	for _, list := range invalidProblems() {
		check(list, assign())
		check(list, nil)
	}
	for _, p := range invalidPartials() {
		check(nil, p)
		check(readAll(t, "1 x1 >= 1"), p)
		check(readAll(t, ">= 1"), p)
	}
}

// propagateSlowly considers the constraints as the document describes it, and shares no code with Propagate.
func propagateSlowly(list []impl.Constraint, p []int) ([]int, int) {
	q := slices.Clone(p)
	for changed := true; changed; {
		changed = false
		for i, c := range list {
			slack := -c.Bound
			for _, t := range c.Terms {
				if q[max(t.Lit, -t.Lit)-1]*t.Lit >= 0 {
					slack += t.Coef
				}
			}
			if slack < 0 {
				return q, i
			}
			for _, t := range c.Terms {
				if q[max(t.Lit, -t.Lit)-1] == 0 && t.Coef > slack {
					q[max(t.Lit, -t.Lit)-1] = t.Lit / max(t.Lit, -t.Lit)
					changed = true
				}
			}
		}
	}
	return q, -1
}

func TestPropagateGoesInOrder(t *testing.T) {
	n := &numbers{state: 8}
	violated, extended := 0, 0
	for range 6000 {
		vars := n.between(1, 7)
		list, p := n.smallProblem(t, vars), n.smallPartial(vars)
		want, wantAt := propagateSlowly(list, p)
		got, at, ok := impl.Propagate(list, p)
		if !ok || at != wantAt || !slices.Equal(got, want) {
			t.Fatalf("Propagate(%v, %v) = %v, %d, %v, not %v, %d", list, p, got, at, ok, want, wantAt)
		}
		if at >= 0 {
			violated++
		} else if !slices.Equal(got, p) {
			extended++
		}
	}
	if violated < 500 || extended < 500 {
		t.Errorf("only %d problems are violated and %d extended", violated, extended)
	}
}

// agrees reports whether values have the values of p.
func agrees(p []int, values []bool) bool {
	for i, value := range p {
		if value == 1 && !values[i] || value == -1 && values[i] {
			return false
		}
	}
	return true
}

func satisfied(list []impl.Constraint, values []bool) bool {
	return !slices.ContainsFunc(list, func(c impl.Constraint) bool { return trueSum(c.Terms, values) < c.Bound })
}

func TestPropagationLosesNoSolution(t *testing.T) {
	n := &numbers{state: 9}
	solutions := 0
	for range 1500 {
		vars := n.between(1, 7)
		list, p := n.smallProblem(t, vars), n.smallPartial(vars)
		q, at, ok := impl.Propagate(list, p)
		if !ok {
			t.Fatalf("Propagate refuses %v, %v", list, p)
		}
		for i, value := range p {
			if value != 0 && q[i] != value {
				t.Fatalf("Propagate changes the values of %v: %v", p, q)
			}
		}
		for bits := range 1 << vars {
			values := valuesOf(bits)
			if !agrees(p[:vars], values) || !satisfied(list, values) {
				continue
			}
			solutions++
			if at != -1 || !agrees(q[:vars], values) {
				t.Fatalf("Propagate(%v, %v) = %v, %d loses %b", list, p, q, at, bits)
			}
		}
		checkEnd(t, list, q, at)
	}
	if solutions < 1000 {
		t.Errorf("only %d solutions are there to lose", solutions)
	}
}

// checkEnd checks that propagation ended with a violated constraint, or with nothing left to imply.
func checkEnd(t *testing.T, list []impl.Constraint, q []int, at int) {
	t.Helper()
	for i, c := range list {
		slack, ok := impl.SlackOf(c, q)
		if !ok || at == i && slack >= 0 || at == -1 && slack < 0 {
			t.Fatalf("the slack of %v under %v is %d, %v", c, q, slack, ok)
		}
		if at == -1 && len(impl.ImpliedLiterals(c, q)) != 0 {
			t.Fatalf("%v still implies literals under %v", c, q)
		}
	}
}

func TestImpliedLiteralsAreTrueWhereTheConstraintHolds(t *testing.T) {
	n := &numbers{state: 10}
	for range 3000 {
		vars := n.between(1, 7)
		c, p := n.smallConstraint(t, vars), n.smallPartial(vars)
		slack, ok := impl.SlackOf(c, p)
		if !ok {
			t.Fatalf("SlackOf refuses %v, %v", c, p)
		}
		implied := impl.ImpliedLiterals(c, p)
		// Without other variables, a literal without a value is implied exactly if it is true in all values that are left.
		left, trueCount := 0, map[int]int{}
		for bits := range 1 << vars {
			values := valuesOf(bits)
			if !agrees(p[:vars], values) || trueSum(c.Terms, values) < c.Bound {
				continue
			}
			left++
			for _, term := range c.Terms {
				trueCount[term.Lit] += trueSum([]impl.Term{{Coef: 1, Lit: term.Lit}}, values)
			}
		}
		if (left == 0) != (slack < 0) {
			t.Fatalf("the slack of %v under %v is %d, but %d values satisfy it", c, p, slack, left)
		}
		for _, term := range c.Terms {
			free := p[max(term.Lit, -term.Lit)-1] == 0
			want := left > 0 && free && trueCount[term.Lit] == left
			if slices.Contains(implied, term.Lit) != want {
				t.Fatalf("ImpliedLiterals(%v, %v) = %v is wrong for %d", c, p, implied, term.Lit)
			}
		}
	}
}

func TestRupConstraint(t *testing.T) {
	either := []string{"1 x1 1 x2 >= 1", "1 x1 1 ~x2 >= 1"}
	for _, x := range []struct {
		name string
		list []string
		c    string
		want bool
	}{
		{"example", either, "1 x1 >= 1", true},
		{"does not hold", either, "1 x2 >= 1", false},
		{"does not hold, the negated variable", either, "1 ~x2 >= 1", false},
		{"a constraint of the problem", either, "1 x1 1 ~x2 >= 1", true},
		{"weaker", either, "1 x1 1 ~x2 1 x5 >= 1", true},
		{"other coefficients", []string{"2 x1 1 x2 1 x3 >= 2"}, "1 x1 1 x2 >= 1", true},
		{"holds, but does not follow by propagation", []string{"1 x1 1 x2 >= 1", "1 x1 1 ~x2 >= 1", "1 ~x1 1 x2 >= 1", "1 ~x1 1 ~x2 >= 1"}, ">= 1", false},
		{"the problem is violated", []string{"1 x1 >= 1", "1 ~x1 >= 1"}, ">= 1", true},
		{"the problem is violated from the start", []string{">= 1"}, "1 x1 >= 2", true},
		{"follows from the problem, whose constraints are considered first", []string{"1 x1 1 x2 >= 2"}, "1 x1 1 x2 >= 2", true},
		{"empty problem, always true", nil, ">= 0", true},
		{"empty problem, always true with terms", nil, "1 x1 >= 0", true},
		{"empty problem, not always true", nil, "1 x1 >= 1", false},
		{"empty problem, several terms", nil, "1 x1 1 ~x2 >= 1", false},
		{"empty problem, false", nil, ">= 1", false},
		{"empty problem, greatest bound", nil, "1000 x1 >= 20000", false},
		{"the negation implies several literals", []string{"1 x1 1 x2 1 x3 >= 1"}, "3 x1 2 x2 4 x3 >= 2", true},
		{"the negation implies too few literals", []string{"1 x1 1 x2 1 x3 >= 1"}, "3 x1 2 x2 4 x3 >= 3", false},
	} {
		if got := impl.RupConstraint(readAll(t, x.list...), read(t, x.c)); got != x.want {
			t.Errorf("%s: RupConstraint(%v, %s) = %v", x.name, x.list, x.c, got)
		}
	}
}

func TestRupConstraintLimits(t *testing.T) {
	list := fullProblem()
	always, unit := read(t, "1 x1 >= 0"), read(t, "1 x1 1 ~x2 >= 1")
	if !impl.RupConstraint(list, always) || impl.RupConstraint(list, unit) {
		t.Error("RupConstraint is wrong for MaxProblem constraints")
	}
	list[impl.MaxProblem-1] = unit
	if !impl.RupConstraint(list, unit) {
		t.Error("RupConstraint does not find the last of MaxProblem constraints")
	}
	if impl.RupConstraint(append(list, unit), unit) || impl.RupConstraint(append(list, read(t, ">= 1")), always) {
		t.Error("RupConstraint accepts more than MaxProblem constraints")
	}
	for _, bad := range invalidProblems() {
		if impl.RupConstraint(bad, always) || impl.RupConstraint(append([]impl.Constraint{{Bound: 1}}, bad...), always) {
			t.Errorf("RupConstraint accepts the problem %.80v", bad)
		}
	}
	for _, c := range invalidConstraints() {
		for _, list := range [][]impl.Constraint{nil, readAll(t, ">= 1"), {c}, fullProblem()} {
			if impl.RupConstraint(list, c) {
				t.Errorf("RupConstraint accepts %v", c)
			}
		}
	}
}

func TestConstraintsThatFollowHoldInAllSolutions(t *testing.T) {
	n := &numbers{state: 11}
	follows := 0
	for range 4000 {
		vars := n.between(1, 6)
		list, c := n.smallProblem(t, vars), n.smallConstraint(t, vars)
		negation, ok := impl.NegateConstraint(c)
		if !ok {
			t.Fatalf("NegateConstraint refuses %v", c)
		}
		_, at := propagateSlowly(append(slices.Clone(list), negation), assign())
		got := impl.RupConstraint(list, c)
		if got != (at >= 0) {
			t.Fatalf("RupConstraint(%v, %v) = %v", list, c, got)
		}
		if !got {
			continue
		}
		for bits := range 1 << vars {
			values := valuesOf(bits)
			if satisfied(list, values) {
				follows++
				if trueSum(c.Terms, values) < c.Bound {
					t.Fatalf("%v follows from %v, but does not hold for %b", c, list, bits)
				}
			}
		}
	}
	if follows < 500 {
		t.Errorf("only %d solutions are checked", follows)
	}
}

func TestExtendsPartial(t *testing.T) {
	for _, x := range []struct {
		p    []int
		bits int
		want bool
	}{
		{assign(), 0, true},
		{assign(), 1<<impl.MaxVars - 1, true},
		{assign(1), 1, true},
		{assign(1), 0, false},
		{assign(1), 1<<impl.MaxVars - 2, false},
		{assign(-1), 0, true},
		{assign(-1), 1, false},
		{assign(12), 1 << 11, true},
		{assign(12), 1<<11 - 1, false},
		{assign(-12), 1 << 11, false},
		{assign(2, -3), 2, true},
		{assign(2, -3), 6, false},
		{assign(2, -3), 0, false},
		{slices.Repeat([]int{1}, impl.MaxVars), 1<<impl.MaxVars - 1, true},
		{slices.Repeat([]int{1}, impl.MaxVars), 1<<impl.MaxVars - 2, false},
		{slices.Repeat([]int{-1}, impl.MaxVars), 0, true},
		{slices.Repeat([]int{-1}, impl.MaxVars), 1 << 5, false},
	} {
		if got := impl.ExtendsPartial(x.p, valuesOf(x.bits)); got != x.want {
			t.Errorf("ExtendsPartial(%v, %012b) = %v", x.p, x.bits, got)
		}
	}
	for _, p := range invalidPartials() {
		if impl.ExtendsPartial(p, valuesOf(0)) || impl.ExtendsPartial(p, make([]bool, len(p))) {
			t.Errorf("ExtendsPartial accepts %v", p)
		}
	}
	for _, count := range []int{0, 1, impl.MaxVars - 1, impl.MaxVars + 1} {
		if impl.ExtendsPartial(assign(), make([]bool, count)) {
			t.Errorf("ExtendsPartial accepts %d values", count)
		}
	}
}

func TestSatisfiesAll(t *testing.T) {
	list := readAll(t, "1 x1 1 x2 >= 1", "2 ~x1 1 ~x12 >= 2", ">= 0")
	for _, x := range []struct {
		bits int
		want bool
	}{
		{0, false},
		{1, false},
		{2, true},
		{3, false},
		{2 | 1<<11, true},
		{1 << 11, false},
	} {
		if got := impl.SatisfiesAll(list, valuesOf(x.bits)); got != x.want {
			t.Errorf("SatisfiesAll for %012b = %v", x.bits, got)
		}
	}
	if !impl.SatisfiesAll(nil, valuesOf(0)) || !impl.SatisfiesAll([]impl.Constraint{}, valuesOf(7)) || !impl.SatisfiesAll(fullProblem(), valuesOf(1)) {
		t.Error("SatisfiesAll refuses values that satisfy a problem")
	}
	full := fullProblem()
	full[impl.MaxProblem-1] = read(t, "1 x1 >= 1")
	if impl.SatisfiesAll(full, valuesOf(2)) || !impl.SatisfiesAll(full, valuesOf(3)) {
		t.Error("SatisfiesAll is wrong for the last of MaxProblem constraints")
	}
	for _, bad := range invalidProblems() {
		if impl.SatisfiesAll(bad, valuesOf(1<<impl.MaxVars-1)) {
			t.Errorf("SatisfiesAll accepts %.80v", bad)
		}
	}
	for _, count := range []int{0, 1, impl.MaxVars - 1, impl.MaxVars + 1} {
		if impl.SatisfiesAll(nil, make([]bool, count)) || impl.SatisfiesAll(readAll(t, ">= 0"), make([]bool, count)) {
			t.Errorf("SatisfiesAll accepts %d values", count)
		}
	}
}

func sameProblem(a, b []impl.Constraint) bool { return slices.EqualFunc(a, b, impl.ConstraintSame) }

func TestProblemTexts(t *testing.T) {
	for _, x := range []struct {
		text string
		want []impl.Constraint
	}{
		{"", nil},
		{">= 0\n", []impl.Constraint{{}}},
		{"1 x1 1 x2 >= 1\n2 ~x1 1 x3 >= 2\n", readAll(t, "1 x1 1 x2 >= 1", "2 ~x1 1 x3 >= 2")},
		{">= 20000\n>= 20000\n1000 ~x12 >= 0\n", readAll(t, ">= 20000", ">= 20000", "1000 ~x12 >= 0")},
		{strings.Repeat(">= 0\n", impl.MaxProblem), fullProblem()},
	} {
		if text := impl.FormatProblem(x.want); text != x.text {
			t.Errorf("FormatProblem = %q, not %q", text, x.text)
		}
		if list, ok := impl.ParseProblem(x.text); !ok || !sameProblem(list, x.want) {
			t.Errorf("ParseProblem(%.80q) = %v, %v", x.text, list, ok)
		}
	}
	n := &numbers{state: 12}
	for range 300 {
		list := n.smallProblem(t, impl.MaxVars)
		if again, ok := impl.ParseProblem(impl.FormatProblem(list)); !ok || !sameProblem(list, again) {
			t.Fatalf("ParseProblem of the text of %v = %v, %v", list, again, ok)
		}
	}
	for _, list := range invalidProblems() {
		if text := impl.FormatProblem(list); text != "" {
			t.Errorf("FormatProblem(%.80v) = %.80q", list, text)
		}
	}
}

func TestParseProblemRefuses(t *testing.T) {
	for _, text := range []string{
		"1 x1 >= 1", "1 x1 >= 1\n>= 0", "\n", " \n", "1 x1 >= 1\n\n", "\n1 x1 >= 1\n", "1 x1 >= 1\n\n>= 0\n",
		"1 x1 >= 1\n ", "1 x1 >= 1 \n", " 1 x1 >= 1\n", "1 x1 >= 1\r\n", "1 x1 >= 1\r", "1 x1 >= 1\x00\n", "1 x1 >= 1\n\x00",
		">= 0\n>= -1\n", ">= 20001\n", "1 x13 >= 1\n>= 0\n", ">= 0\n1 x2 1 x1 >= 1\n", "1 x1 >= 1 >= 0\n", "1 x1\n>= 1\n",
		"\xff\n", "end\n", ">= 0\nend\n",
		strings.Repeat(">= 0\n", impl.MaxProblem+1), strings.Repeat(">= 0\n", impl.MaxProblem) + ">= 0",
		strings.Repeat(">= 0\n", impl.MaxProblem) + "\n", strings.Repeat("\n", 10000), strings.Repeat("1 x1 ", 10000) + ">= 1\n",
	} {
		if list, ok := impl.ParseProblem(text); ok || len(list) != 0 {
			t.Errorf("ParseProblem(%.80q) = %v, %v", text, list, ok)
		}
	}
}

func TestPropagationKeepsItsArguments(t *testing.T) {
	spare := readAll(t, "1 x1 1 x2 >= 1", "1 ~x1 1 x3 >= 1", "5 x7 >= 5", "1 ~x9 >= 1")
	before := impl.FormatProblem(spare)
	list := spare[:2]
	given := append(assign(-2), 7, 8)
	p := given[:impl.MaxVars]
	values := valuesOf(5)
	q, at, ok := impl.Propagate(list, p)
	if !ok || at != -1 || !slices.Equal(trueIn(q), []int{1, -2, 3}) {
		t.Fatalf("Propagate = %v, %d, %v", q, at, ok)
	}
	again, _, _ := impl.Propagate(list, q)
	implied := impl.ImpliedLiterals(list[0], p)
	impl.SlackOf(list[0], p)
	impl.RupConstraint(list, spare[0])
	impl.ExtendsPartial(p, values)
	impl.SatisfiesAll(list, values)
	for i := range q[:cap(q)] {
		q[:cap(q)][i] = 9
	}
	for i := range implied[:cap(implied)] {
		implied[:cap(implied)][i] = 9
	}
	if !slices.Equal(given, append(assign(-2), 7, 8)) || !slices.Equal(values, valuesOf(5)) || impl.FormatProblem(spare) != before {
		t.Error("a function changes its arguments or shares memory with them")
	}
	if !slices.Equal(trueIn(again), []int{1, -2, 3}) || impl.ImpliedLiterals(list[0], p)[0] != 1 {
		t.Error("two results share memory")
	}
}

func TestParsedConstraintsShareNoMemory(t *testing.T) {
	text := "1 x1 1 x2 >= 1\n1 x3 >= 1\n1 x4 1 x5 1 x6 >= 1\n"
	list, _ := impl.ParseProblem(text)
	other, ok := impl.ParseProblem(text)
	if !ok || len(list) != 3 {
		t.Fatalf("ParseProblem = %v, %v", list, ok)
	}
	for _, terms := range [][]impl.Term{list[1].Terms, other[0].Terms, other[2].Terms} {
		for i := range terms[:cap(terms)] {
			terms[:cap(terms)][i] = impl.Term{Coef: 9, Lit: 9}
		}
	}
	if impl.FormatConstraint(list[0]) != "1 x1 1 x2 >= 1" || impl.FormatConstraint(list[2]) != "1 x4 1 x5 1 x6 >= 1" || impl.FormatConstraint(other[1]) != "1 x3 >= 1" {
		t.Error("constraints of problems share memory")
	}
}
