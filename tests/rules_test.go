package tests

import (
	"math"
	"slices"
	"testing"

	"loop.example/cuttingplanes/impl"
)

func checkResult(t *testing.T, name string, c impl.Constraint, ok bool, want string) {
	t.Helper()
	if !ok || !impl.ConstraintValid(c) || impl.FormatConstraint(c) != want {
		t.Errorf("%s = %v, %v, not %s", name, c, ok, want)
	}
}

func checkRefused(t *testing.T, name string, c impl.Constraint, ok bool) {
	t.Helper()
	if ok || !isZero(c) {
		t.Errorf("%s = %v, %v", name, c, ok)
	}
}

// smallConstraint has few variables and small numbers, so that literals meet their negations.
func (n *numbers) smallConstraint(t *testing.T, vars int) impl.Constraint {
	t.Helper()
	c, ok := impl.NormalForm(n.terms(n.between(0, 6), vars, 6), n.between(-4, 12))
	if !ok {
		t.Fatal("NormalForm refuses small terms")
	}
	return c
}

// overAllVars has a literal of each variable, negated or not.
func overAllVars(coef int, bound int, negated bool) impl.Constraint {
	terms := allVars(coef)
	for i := range terms {
		if negated {
			terms[i].Lit = -terms[i].Lit
		}
	}
	return impl.Constraint{Terms: terms, Bound: bound}
}

func notVariables() []int {
	return []int{0, -1, -3, impl.MaxVars + 1, -impl.MaxVars, -impl.MaxVars - 1, math.MinInt, math.MaxInt}
}

func notLiterals() []int {
	return []int{0, impl.MaxVars + 1, -impl.MaxVars - 1, math.MinInt, math.MaxInt}
}

func notFactors() []int {
	return []int{0, -1, impl.MaxCoef + 1, -impl.MaxCoef, math.MinInt, math.MaxInt}
}

func TestLiteralAxiom(t *testing.T) {
	for _, x := range []struct {
		lit  int
		want string
	}{
		{1, "1 x1 >= 0"},
		{-1, "1 ~x1 >= 0"},
		{-4, "1 ~x4 >= 0"},
		{impl.MaxVars, "1 x12 >= 0"},
		{-impl.MaxVars, "1 ~x12 >= 0"},
	} {
		c, ok := impl.LiteralAxiom(x.lit)
		checkResult(t, "LiteralAxiom", c, ok, x.want)
	}
	for _, lit := range notLiterals() {
		c, ok := impl.LiteralAxiom(lit)
		checkRefused(t, "LiteralAxiom", c, ok)
	}
}

func TestAddConstraintsResults(t *testing.T) {
	for _, x := range []struct{ name, a, b, want string }{
		{"example", "1 x1 1 x2 >= 1", "1 ~x1 1 x2 >= 1", "2 x2 >= 1"},
		{"same literals", "1 x1 2 ~x2 >= 1", "3 x1 4 ~x2 >= 2", "4 x1 6 ~x2 >= 3"},
		{"different variables", "1 x1 2 x3 >= 1", "3 ~x2 4 x12 >= 2", "1 x1 3 ~x2 2 x3 4 x12 >= 3"},
		{"some variables are in both", "1 x1 2 x3 5 x4 >= 3", "3 x3 4 x5 >= 2", "1 x1 5 x3 5 x4 4 x5 >= 5"},
		{"the order of the variables, not of the literals", "1 ~x2 1 ~x11 >= 1", "1 x1 1 x10 >= 1", "1 x1 1 ~x2 1 x10 1 ~x11 >= 2"},
		{"cancels out partly", "5 x1 >= 4", "2 ~x1 >= 2", "3 x1 >= 4"},
		{"cancels out partly, the negated literal is left", "2 x1 >= 2", "5 ~x1 >= 4", "3 ~x1 >= 4"},
		{"cancels out", "3 x1 >= 3", "3 ~x1 >= 2", ">= 2"},
		{"cancels out between others", "1 x1 3 x2 1 x3 >= 3", "1 x1 3 ~x2 1 ~x4 >= 2", "2 x1 1 x3 1 ~x4 >= 2"},
		{"contradiction", "1 x1 >= 1", "1 ~x1 >= 1", ">= 1"},
		{"cancels out and leaves the bound 0", "2 x1 >= 1", "2 ~x1 >= 1", ">= 0"},
		{"cancels out and leaves a negative bound", "3 x1 >= 1", "3 ~x1 >= 1", ">= 0"},
		{"the bound is negative only while the literals are replaced", "1 x1 >= 1", "5 ~x1 >= 2", "4 ~x1 >= 2"},
		{"both bounds 0", "1 x1 >= 0", "1 x2 >= 0", "1 x1 1 x2 >= 0"},
		{"both bounds 0, cancels out", "4 x1 1 x2 >= 0", "4 ~x1 >= 0", "1 x2 >= 0"},
		{"one bound 0", "1 ~x2 >= 0", "1 x1 2 x2 >= 2", "1 x1 1 x2 >= 1"},
		{"no terms", ">= 0", ">= 0", ">= 0"},
		{"no terms on one side", ">= 3", "2 x1 1 ~x2 >= 1", "2 x1 1 ~x2 >= 4"},
		{"greatest coefficient", "999 x1 >= 1", "1 x1 >= 1", "1000 x1 >= 2"},
		{"greatest negated coefficient", "500 ~x12 >= 1", "500 ~x12 >= 1", "1000 ~x12 >= 2"},
		{"greatest bound", "1 x1 >= 19999", ">= 1", "1 x1 >= 20000"},
		{"greatest bound, greater in between", "1000 x1 >= 20000", "1000 ~x1 1 x2 >= 1000", "1 x2 >= 20000"},
	} {
		for _, pair := range [][2]string{{x.a, x.b}, {x.b, x.a}} {
			c, ok := impl.AddConstraints(read(t, pair[0]), read(t, pair[1]))
			checkResult(t, "AddConstraints: "+x.name, c, ok, x.want)
		}
	}
}

func TestAddConstraintsHasOnlyTheLimitsOfItsResult(t *testing.T) {
	c, ok := impl.AddConstraints(overAllVars(1000, 20000, false), overAllVars(1000, 12000, true))
	checkResult(t, "AddConstraints with a sum of the bounds of 32000", c, ok, ">= 20000")
	c, ok = impl.AddConstraints(overAllVars(1000, 16000, false), overAllVars(999, 15988, true))
	checkResult(t, "AddConstraints with a sum of the bounds of 31988", c, ok, impl.FormatConstraint(overAllVars(1, 20000, false)))
	c, ok = impl.AddConstraints(overAllVars(1000, 20000, false), overAllVars(1000, 12001, true))
	checkRefused(t, "AddConstraints with the bound 20001", c, ok)
	for _, x := range []struct{ name, a, b string }{
		{"coefficient", "1000 x1 >= 1", "1 x1 >= 1"},
		{"negated coefficient", "1 x1 501 ~x2 >= 1", "500 ~x2 >= 1"},
		{"last coefficient", "1 x1 1000 x12 >= 1", "1 x1 1000 x12 >= 1"},
		{"bound", ">= 20000", ">= 1"},
		{"greatest bounds", "1 x1 >= 20000", "1 x1 >= 20000"},
		{"bound that is too great after all", "500 x1 >= 20000", "500 ~x1 >= 501"},
	} {
		for _, pair := range [][2]string{{x.a, x.b}, {x.b, x.a}} {
			c, ok := impl.AddConstraints(read(t, pair[0]), read(t, pair[1]))
			checkRefused(t, "AddConstraints: "+x.name, c, ok)
		}
	}
}

func TestAddConstraintsIsTheNormalFormOfAllTerms(t *testing.T) {
	n := &numbers{state: 4}
	for range 3000 {
		vars := n.between(1, impl.MaxVars)
		a, b := n.smallConstraint(t, vars), n.smallConstraint(t, vars)
		want, ok := impl.NormalForm(slices.Concat(a.Terms, b.Terms), a.Bound+b.Bound)
		if !ok {
			t.Fatalf("NormalForm refuses the terms of %v and %v", a, b)
		}
		c, ok := impl.AddConstraints(a, b)
		if !ok || !impl.ConstraintSame(c, want) {
			t.Fatalf("AddConstraints(%v, %v) = %v, %v, not %v", a, b, c, ok, want)
		}
	}
}

func TestMultiplyConstraint(t *testing.T) {
	for _, x := range []struct {
		text string
		k    int
		want string
	}{
		{"3 ~x2 >= 2", 4, "12 ~x2 >= 8"},
		{"2 x1 3 ~x5 1 x12 >= 4", 1, "2 x1 3 ~x5 1 x12 >= 4"},
		{"2 x1 3 ~x5 1 x12 >= 4", 7, "14 x1 21 ~x5 7 x12 >= 28"},
		{"1 x1 2 x2 >= 0", 5, "5 x1 10 x2 >= 0"},
		{">= 0", 1000, ">= 0"},
		{">= 20", 1000, ">= 20000"},
		{"1 x1 1 ~x2 >= 1", 1000, "1000 x1 1000 ~x2 >= 1000"},
		{"500 x1 >= 10000", 2, "1000 x1 >= 20000"},
	} {
		c, ok := impl.MultiplyConstraint(read(t, x.text), x.k)
		checkResult(t, "MultiplyConstraint of "+x.text, c, ok, x.want)
	}
	for _, x := range []struct {
		text string
		k    int
	}{
		{"600 x1 >= 1", 2},
		{"1 x1 501 ~x2 >= 1", 2},
		{"2 x1 >= 1", 501},
		{"2 x1 >= 1", 1000},
		{"1 x1 >= 10001", 2},
		{">= 21", 1000},
		{"1000 x1 >= 20000", 1000},
	} {
		c, ok := impl.MultiplyConstraint(read(t, x.text), x.k)
		checkRefused(t, "MultiplyConstraint of "+x.text, c, ok)
	}
}

func TestDivideConstraint(t *testing.T) {
	for _, x := range []struct {
		text string
		k    int
		want string
	}{
		{"2 x2 >= 1", 2, "1 x2 >= 1"},
		{"2 x1 4 ~x2 6 x3 >= 8", 2, "1 x1 2 ~x2 3 x3 >= 4"},
		{"1 x1 2 x2 3 x3 4 x4 5 ~x5 >= 7", 2, "1 x1 1 x2 2 x3 2 x4 3 ~x5 >= 4"},
		{"3 x1 6 x2 9 x3 >= 7", 3, "1 x1 2 x2 3 x3 >= 3"},
		{"3 x1 6 x2 9 x3 >= 6", 3, "1 x1 2 x2 3 x3 >= 2"},
		{"4 x1 5 x2 >= 6", 1, "4 x1 5 x2 >= 6"},
		{"4 x1 5 x2 >= 0", 3, "2 x1 2 x2 >= 0"},
		{"1 x1 1000 ~x12 >= 1001", 1000, "1 x1 1 ~x12 >= 2"},
		{"999 x1 1000 x2 >= 1000", 1000, "1 x1 1 x2 >= 1"},
		{"999 x1 1000 x2 >= 20000", 999, "1 x1 2 x2 >= 21"},
		{">= 20000", 1000, ">= 20"},
		{">= 0", 1000, ">= 0"},
		{">= 1", 1000, ">= 1"},
	} {
		c, ok := impl.DivideConstraint(read(t, x.text), x.k)
		checkResult(t, "DivideConstraint of "+x.text, c, ok, x.want)
	}
}

func TestNumbersThatAreNotFactorsAreRefused(t *testing.T) {
	for _, k := range notFactors() {
		for _, text := range []string{"1 x1 1 ~x2 >= 1", ">= 0"} {
			c, ok := impl.MultiplyConstraint(read(t, text), k)
			checkRefused(t, "MultiplyConstraint", c, ok)
			c, ok = impl.DivideConstraint(read(t, text), k)
			checkRefused(t, "DivideConstraint", c, ok)
		}
	}
}

func TestSaturateConstraint(t *testing.T) {
	for _, x := range []struct{ text, want string }{
		{"5 x1 1 x3 >= 2", "2 x1 1 x3 >= 2"},
		{"5 ~x1 3 x2 4 ~x12 >= 4", "4 ~x1 3 x2 4 ~x12 >= 4"},
		{"3 x1 2 x2 >= 3", "3 x1 2 x2 >= 3"},
		{"3 x1 2 x2 >= 9", "3 x1 2 x2 >= 9"},
		{"1000 x1 1000 ~x2 >= 1", "1 x1 1 ~x2 >= 1"},
		{"1000 x1 >= 20000", "1000 x1 >= 20000"},
		{"5 x1 1 x3 >= 0", ">= 0"},
		{">= 0", ">= 0"},
		{">= 3", ">= 3"},
	} {
		c, ok := impl.SaturateConstraint(read(t, x.text))
		checkResult(t, "SaturateConstraint of "+x.text, c, ok, x.want)
	}
}

func TestWeakenConstraint(t *testing.T) {
	const text = "5 x1 2 ~x3 4 x12 >= 6"
	for _, x := range []struct {
		text     string
		variable int
		want     string
	}{
		{text, 1, "2 ~x3 4 x12 >= 1"},
		{text, 3, "5 x1 4 x12 >= 4"},
		{text, 12, "5 x1 2 ~x3 >= 2"},
		{text, 2, text},
		{text, 11, text},
		{"5 x1 2 x3 >= 5", 1, "2 x3 >= 0"},
		{"5 x1 2 x3 >= 4", 1, "2 x3 >= 0"},
		{"5 ~x1 2 x3 >= 0", 1, "2 x3 >= 0"},
		{"5 x1 2 x3 >= 0", 2, "5 x1 2 x3 >= 0"},
		{"2 ~x4 >= 3", 4, ">= 1"},
		{">= 0", 1, ">= 0"},
		{">= 20000", 12, ">= 20000"},
		{"1 ~x12 >= 20000", 12, ">= 19999"},
	} {
		c, ok := impl.WeakenConstraint(read(t, x.text), x.variable)
		checkResult(t, "WeakenConstraint of "+x.text, c, ok, x.want)
	}
	for _, v := range notVariables() {
		for _, text := range []string{text, "1 x3 >= 1", ">= 0"} {
			c, ok := impl.WeakenConstraint(read(t, text), v)
			checkRefused(t, "WeakenConstraint of "+text, c, ok)
		}
	}
}

func TestCoversConstraint(t *testing.T) {
	for _, x := range []struct {
		name, a, b string
		want       bool
	}{
		{"loss of a literal", "2 x1 1 x2 >= 2", "2 x1 >= 1", true},
		{"loss that is too great", "2 x1 1 x2 >= 1", "2 x1 >= 1", false},
		{"itself", "2 x1 3 ~x2 >= 4", "2 x1 3 ~x2 >= 4", true},
		{"smaller bound", "2 x1 3 ~x2 >= 4", "2 x1 3 ~x2 >= 3", true},
		{"greater bound", "2 x1 3 ~x2 >= 4", "2 x1 3 ~x2 >= 5", false},
		{"greater coefficients", "1 x1 1 x2 >= 1", "2 x1 3 x2 4 x3 >= 1", true},
		{"a greater coefficient makes up for no loss", "1 x1 1 x2 >= 1", "9 x2 >= 1", false},
		{"smaller coefficient", "5 x1 1 x2 >= 3", "3 x1 1 x2 >= 1", true},
		{"smaller coefficient, bound too great", "5 x1 1 x2 >= 3", "3 x1 1 x2 >= 2", false},
		{"saturation is not covered", "5 x1 1 x2 >= 2", "2 x1 1 x2 >= 2", false},
		{"the negation is not the same literal", "2 x1 1 x2 >= 2", "2 ~x1 1 x2 >= 1", false},
		{"the negation counts as a loss", "2 x1 1 x2 >= 3", "2 ~x1 1 x2 >= 1", true},
		{"the bound 0", "1 x1 >= 0", "3 x2 >= 0", false},
		{"the bound 0 without a loss", "1 x1 >= 0", "1 x1 3 x2 >= 0", true},
		{"no terms, bounds 0", ">= 0", ">= 0", true},
		{"no terms cover any with the same bound", ">= 1", "1 x1 1 ~x12 >= 1", true},
		{"no terms do not cover a greater bound", ">= 1", "1 x1 1 ~x12 >= 2", false},
		{"no terms are covered", "1 x1 1 ~x12 >= 2", ">= 0", true},
		{"no terms are not covered", "1 x1 1 ~x12 >= 1", ">= 0", false},
		{"loss before and after the common literal", "1 x1 2 x5 4 ~x9 >= 6", "2 x5 >= 1", true},
		{"the loss before and after is counted", "1 x1 2 x5 4 ~x9 >= 5", "2 x5 >= 1", false},
		{"greatest bounds", "1000 x1 >= 20000", "1000 x1 >= 20000", true},
	} {
		if got := impl.CoversConstraint(read(t, x.a), read(t, x.b)); got != x.want {
			t.Errorf("%s: CoversConstraint(%s, %s) = %v", x.name, x.a, x.b, got)
		}
	}
}

func coefOf(c impl.Constraint, lit int) int {
	for _, t := range c.Terms {
		if t.Lit == lit {
			return t.Coef
		}
	}
	return 0
}

func TestCoversConstraintIsSound(t *testing.T) {
	n := &numbers{state: 5}
	covered := 0
	for range 4000 {
		vars := n.between(1, 4)
		a, b := n.smallConstraint(t, vars), n.smallConstraint(t, vars)
		b.Bound /= 3
		loss := 0
		for _, term := range a.Terms {
			loss += max(term.Coef-coefOf(b, term.Lit), 0)
		}
		got := impl.CoversConstraint(a, b)
		if got != (a.Bound-loss >= b.Bound) {
			t.Fatalf("CoversConstraint(%v, %v) = %v", a, b, got)
		}
		if !got {
			continue
		}
		covered++
		for bits := range 1 << vars {
			if impl.EvalConstraint(a, valuesOf(bits)) && !impl.EvalConstraint(b, valuesOf(bits)) {
				t.Fatalf("%v covers %v, but not for %b", a, b, bits)
			}
		}
	}
	if covered < 100 {
		t.Errorf("only %d pairs are covered", covered)
	}
}

func TestClauseOf(t *testing.T) {
	everyVariable := []int{12, -11, 10, -9, 8, -7, 6, -5, 4, -3, 2, -1}
	for _, x := range []struct {
		lits []int
		want string
	}{
		{[]int{3, -1, 3}, "1 ~x1 1 x3 >= 1"},
		{[]int{5}, "1 x5 >= 1"},
		{[]int{-12, 1}, "1 x1 1 ~x12 >= 1"},
		{[]int{-2, -10, -1}, "1 ~x1 1 ~x2 1 ~x10 >= 1"},
		{[]int{-2, 7, -2, 7, 7, -2}, "1 ~x2 1 x7 >= 1"},
		{nil, ">= 1"},
		{[]int{}, ">= 1"},
		{everyVariable, "1 ~x1 1 x2 1 ~x3 1 x4 1 ~x5 1 x6 1 ~x7 1 x8 1 ~x9 1 x10 1 ~x11 1 x12 >= 1"},
		{slices.Repeat([]int{-4}, impl.MaxTerms), "1 ~x4 >= 1"},
		{slices.Repeat([]int{9, -4}, impl.MaxTerms/2), "1 ~x4 1 x9 >= 1"},
	} {
		c, ok := impl.ClauseOf(x.lits)
		checkResult(t, "ClauseOf", c, ok, x.want)
	}
}

func TestClauseOfRefuses(t *testing.T) {
	for _, lits := range [][]int{
		{1, -1},
		{-1, 1},
		{-12, 5, 12},
		{3, -3, 3},
		{-3, 3, -3, 3, -3},
		slices.Repeat([]int{1}, impl.MaxTerms+1),
		slices.Repeat([]int{1}, 10000),
		append(slices.Repeat([]int{2}, impl.MaxTerms-1), -2),
	} {
		c, ok := impl.ClauseOf(lits)
		checkRefused(t, "ClauseOf", c, ok)
	}
	for _, lit := range notLiterals() {
		for _, lits := range [][]int{{lit}, {lit, 1}, {1, 2, lit}, {lit, lit}} {
			c, ok := impl.ClauseOf(lits)
			checkRefused(t, "ClauseOf", c, ok)
		}
	}
}

func TestRulesRefuseInvalidConstraints(t *testing.T) {
	valid := read(t, "1 x1 1 x2 >= 1")
	for _, bad := range invalidConstraints() {
		c, ok := impl.AddConstraints(bad, valid)
		checkRefused(t, "AddConstraints", c, ok)
		c, ok = impl.AddConstraints(valid, bad)
		checkRefused(t, "AddConstraints", c, ok)
		c, ok = impl.AddConstraints(bad, bad)
		checkRefused(t, "AddConstraints", c, ok)
		for _, k := range []int{1, 2, impl.MaxCoef} {
			c, ok = impl.MultiplyConstraint(bad, k)
			checkRefused(t, "MultiplyConstraint", c, ok)
			c, ok = impl.DivideConstraint(bad, k)
			checkRefused(t, "DivideConstraint", c, ok)
		}
		c, ok = impl.SaturateConstraint(bad)
		checkRefused(t, "SaturateConstraint", c, ok)
		for v := 1; v <= impl.MaxVars; v++ {
			c, ok = impl.WeakenConstraint(bad, v)
			checkRefused(t, "WeakenConstraint", c, ok)
		}
		for _, pair := range [][2]impl.Constraint{{bad, valid}, {valid, bad}, {bad, bad}, {bad, {}}, {{Bound: impl.MaxBound}, bad}} {
			if impl.CoversConstraint(pair[0], pair[1]) {
				t.Errorf("CoversConstraint accepts %v and %v", pair[0], pair[1])
			}
		}
	}
}

// checkSound reports values that satisfy all premises, but not the conclusion.
func checkSound(t *testing.T, name string, vars int, conclusion impl.Constraint, ok bool, premises ...impl.Constraint) {
	t.Helper()
	if !ok || !impl.ConstraintValid(conclusion) {
		t.Fatalf("%s of %v = %v, %v", name, premises, conclusion, ok)
	}
	for bits := range 1 << vars {
		values := valuesOf(bits)
		fails := func(c impl.Constraint) bool { return !impl.EvalConstraint(c, values) }
		if !slices.ContainsFunc(premises, fails) && fails(conclusion) {
			t.Fatalf("%s of %v = %v does not hold for %b", name, premises, conclusion, bits)
		}
	}
}

func TestEveryRuleIsSound(t *testing.T) {
	n := &numbers{state: 6}
	for range 2000 {
		vars := n.between(1, 6)
		a, b := n.smallConstraint(t, vars), n.smallConstraint(t, vars)
		sum, ok := impl.AddConstraints(a, b)
		checkSound(t, "AddConstraints", vars, sum, ok, a, b)
		product, ok := impl.MultiplyConstraint(a, n.between(1, 9))
		checkSound(t, "MultiplyConstraint", vars, product, ok, a)
		for _, k := range []int{2, 3, n.between(1, 9), impl.MaxCoef} {
			quotient, ok := impl.DivideConstraint(a, k)
			checkSound(t, "DivideConstraint", vars, quotient, ok, a)
		}
		saturated, ok := impl.SaturateConstraint(a)
		checkSound(t, "SaturateConstraint", vars, saturated, ok, a)
		checkSound(t, "the premise of SaturateConstraint", vars, a, true, saturated)
		for v := 1; v <= vars; v++ {
			weak, ok := impl.WeakenConstraint(a, v)
			checkSound(t, "WeakenConstraint", vars, weak, ok, a)
		}
		axiom, ok := impl.LiteralAxiom(n.literal(vars))
		checkSound(t, "LiteralAxiom", vars, axiom, ok)
	}
}

func TestClausesHoldWhereALiteralIsTrue(t *testing.T) {
	n := &numbers{state: 7}
	for range 2000 {
		vars := n.between(1, 8)
		lits := make([]int, n.between(0, 5))
		for i := range lits {
			lits[i] = n.literal(vars)
		}
		opposite := slices.ContainsFunc(lits, func(lit int) bool { return slices.Contains(lits, -lit) })
		c, ok := impl.ClauseOf(lits)
		if ok == opposite {
			t.Fatalf("ClauseOf(%v) = %v, %v", lits, c, ok)
		}
		if opposite {
			continue
		}
		for bits := range 1 << vars {
			values := valuesOf(bits)
			holds := slices.ContainsFunc(lits, func(lit int) bool { return trueSum([]impl.Term{{Coef: 1, Lit: lit}}, values) == 1 })
			if impl.EvalConstraint(c, values) != holds {
				t.Fatalf("ClauseOf(%v) = %v is wrong for %b", lits, c, bits)
			}
		}
	}
}

func TestRulesKeepTheirArguments(t *testing.T) {
	spare := []impl.Term{{Coef: 4, Lit: 3}, {Coef: 2, Lit: -5}, {Coef: 7, Lit: 7}, {Coef: 8, Lit: 8}}
	lits := []int{5, -2, 5, 1, 9, 8}
	before, litsBefore := slices.Clone(spare), slices.Clone(lits)
	c := impl.Constraint{Terms: spare[:2], Bound: 3}
	empty := impl.Constraint{Terms: spare[:0], Bound: 1}
	var results []impl.Constraint
	keep := func(result impl.Constraint, ok bool) {
		if !ok {
			t.Errorf("rule %d refuses its arguments", len(results))
		}
		results = append(results, result)
	}
	for _, x := range []impl.Constraint{c, empty} {
		keep(impl.AddConstraints(x, x))
		keep(impl.AddConstraints(x, impl.Constraint{}))
		keep(impl.AddConstraints(impl.Constraint{}, x))
		keep(impl.MultiplyConstraint(x, 1))
		keep(impl.DivideConstraint(x, 1))
		keep(impl.SaturateConstraint(x))
		keep(impl.WeakenConstraint(x, 5))
		keep(impl.WeakenConstraint(x, 6))
	}
	keep(impl.ClauseOf(lits[:4]))
	impl.CoversConstraint(c, c)
	texts := make([]string, len(results))
	for i, r := range results {
		texts[i] = impl.FormatConstraint(r)
	}
	for i, r := range results {
		terms := r.Terms[:cap(r.Terms)]
		for j := range terms {
			terms[j] = impl.Term{Coef: 99, Lit: 9}
		}
		for j := i + 1; j < len(results); j++ {
			if impl.FormatConstraint(results[j]) != texts[j] {
				t.Errorf("results %d and %d share memory", i, j)
			}
		}
	}
	if !slices.Equal(spare, before) || !slices.Equal(lits, litsBefore) {
		t.Error("a rule changes its arguments or shares memory with them")
	}
}
