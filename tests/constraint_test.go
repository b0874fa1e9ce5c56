package tests

import (
	"math"
	"slices"
	"strings"
	"testing"

	"loop.example/cuttingplanes/impl"
)

// numbers is a fixed sequence that looks random, so that every run tests the same cases.
type numbers struct{ state uint32 }

func (n *numbers) between(low, high int) int {
	n.state = n.state*1664525 + 1013904223
	return low + int(n.state>>8)%(high-low+1)
}

func (n *numbers) literal(vars int) int {
	lit := n.between(1, vars)
	if n.between(0, 1) == 1 {
		return -lit
	}
	return lit
}

func (n *numbers) terms(count, vars, coef int) []impl.Term {
	var terms []impl.Term
	for range count {
		terms = append(terms, impl.Term{Coef: n.between(-coef, coef), Lit: n.literal(vars)})
	}
	return terms
}

// valuesOf returns the values in which variable v is true if bit v - 1 of bits is set.
func valuesOf(bits int) []bool {
	values := make([]bool, impl.MaxVars)
	for i := range values {
		values[i] = bits>>i&1 == 1
	}
	return values
}

func trueSum(terms []impl.Term, values []bool) int {
	sum := 0
	for _, t := range terms {
		if t.Lit > 0 && values[t.Lit-1] || t.Lit < 0 && !values[-t.Lit-1] {
			sum += t.Coef
		}
	}
	return sum
}

func read(t *testing.T, text string) impl.Constraint {
	t.Helper()
	c, ok := impl.ParseConstraint(text)
	if !ok {
		t.Fatalf("ParseConstraint refuses %q", text)
	}
	return c
}

func isZero(c impl.Constraint) bool { return len(c.Terms) == 0 && c.Bound == 0 }

func repeated(count, coef, lit int) []impl.Term {
	return slices.Repeat([]impl.Term{{Coef: coef, Lit: lit}}, count)
}

// allVars has each variable once.
func allVars(coef int) []impl.Term {
	var terms []impl.Term
	for v := 1; v <= impl.MaxVars; v++ {
		terms = append(terms, impl.Term{Coef: coef, Lit: v})
	}
	return terms
}

// invalidConstraints has one constraint for each way to be invalid.
func invalidConstraints() []impl.Constraint {
	return []impl.Constraint{
		{Bound: -1},
		{Bound: impl.MaxBound + 1},
		{Bound: math.MinInt},
		{Bound: math.MaxInt},
		{Terms: []impl.Term{{Coef: 0, Lit: 1}}, Bound: 1},
		{Terms: []impl.Term{{Coef: -1, Lit: 1}}, Bound: 1},
		{Terms: []impl.Term{{Coef: impl.MaxCoef + 1, Lit: 1}}, Bound: 1},
		{Terms: []impl.Term{{Coef: math.MaxInt, Lit: 1}, {Coef: math.MaxInt, Lit: 2}}, Bound: 1},
		{Terms: []impl.Term{{Coef: 1, Lit: 0}}, Bound: 1},
		{Terms: []impl.Term{{Coef: 1, Lit: impl.MaxVars + 1}}, Bound: 1},
		{Terms: []impl.Term{{Coef: 1, Lit: -impl.MaxVars - 1}}, Bound: 1},
		{Terms: []impl.Term{{Coef: 1, Lit: math.MinInt}}, Bound: 1},
		{Terms: []impl.Term{{Coef: 1, Lit: math.MaxInt}}, Bound: 1},
		{Terms: []impl.Term{{Coef: 1, Lit: 2}, {Coef: 1, Lit: 1}}, Bound: 1},
		{Terms: []impl.Term{{Coef: 1, Lit: 1}, {Coef: 1, Lit: 1}}, Bound: 1},
		{Terms: []impl.Term{{Coef: 1, Lit: 1}, {Coef: 1, Lit: -1}}, Bound: 1},
		{Terms: []impl.Term{{Coef: 1, Lit: -2}, {Coef: 1, Lit: 1}}, Bound: 1},
		{Terms: []impl.Term{{Coef: 1, Lit: 1}, {Coef: 0, Lit: 2}}, Bound: 1},
		{Terms: repeated(100, 1, 1), Bound: 1},
	}
}

func TestConstraintValid(t *testing.T) {
	for _, c := range []impl.Constraint{
		{},
		{Terms: []impl.Term{}},
		{Bound: impl.MaxBound},
		{Terms: []impl.Term{{Coef: 1, Lit: 1}}},
		{Terms: []impl.Term{{Coef: impl.MaxCoef, Lit: impl.MaxVars}}, Bound: 1},
		{Terms: []impl.Term{{Coef: 1, Lit: -impl.MaxVars}}, Bound: 1},
		{Terms: []impl.Term{{Coef: 2, Lit: -1}, {Coef: 1, Lit: 2}, {Coef: 3, Lit: -7}}, Bound: 4},
		{Terms: allVars(impl.MaxCoef), Bound: impl.MaxBound},
	} {
		if !impl.ConstraintValid(c) {
			t.Errorf("ConstraintValid refuses %v", c)
		}
	}
	for _, c := range invalidConstraints() {
		if impl.ConstraintValid(c) {
			t.Errorf("ConstraintValid accepts %v", c)
		}
	}
}

func TestInvalidConstraintsHaveTheirResults(t *testing.T) {
	for _, c := range invalidConstraints() {
		for _, bits := range []int{0, 1, 1<<impl.MaxVars - 1} {
			if impl.EvalConstraint(c, valuesOf(bits)) {
				t.Errorf("EvalConstraint accepts %v", c)
			}
		}
		if n, ok := impl.NegateConstraint(c); ok || !isZero(n) {
			t.Errorf("NegateConstraint(%v) = %v, %v", c, n, ok)
		}
		if total := impl.TotalCoef(c); total != 0 {
			t.Errorf("TotalCoef(%v) = %d", c, total)
		}
		if impl.ConstraintFalse(c) {
			t.Errorf("ConstraintFalse accepts %v", c)
		}
		if text := impl.FormatConstraint(c); text != "" {
			t.Errorf("FormatConstraint(%v) = %q", c, text)
		}
		if !impl.ConstraintSame(c, c) {
			t.Errorf("ConstraintSame tells %v from itself", c)
		}
	}
}

func TestConstraintSame(t *testing.T) {
	c := impl.Constraint{Terms: []impl.Term{{Coef: 2, Lit: 1}, {Coef: 3, Lit: -2}}, Bound: 4}
	same := impl.Constraint{Terms: slices.Clone(c.Terms), Bound: 4}
	if !impl.ConstraintSame(c, same) {
		t.Error("ConstraintSame tells equal constraints apart")
	}
	if !impl.ConstraintSame(impl.Constraint{}, impl.Constraint{Terms: []impl.Term{}}) {
		t.Error("ConstraintSame tells nil terms from empty ones")
	}
	for _, other := range []impl.Constraint{
		{},
		{Terms: c.Terms, Bound: 5},
		{Terms: c.Terms[:1], Bound: 4},
		{Terms: append(slices.Clone(c.Terms), impl.Term{Coef: 1, Lit: 3}), Bound: 4},
		{Terms: []impl.Term{{Coef: 2, Lit: 1}, {Coef: 3, Lit: 2}}, Bound: 4},
		{Terms: []impl.Term{{Coef: 2, Lit: 1}, {Coef: 4, Lit: -2}}, Bound: 4},
		{Terms: []impl.Term{{Coef: 3, Lit: -2}, {Coef: 2, Lit: 1}}, Bound: 4},
	} {
		if impl.ConstraintSame(c, other) || impl.ConstraintSame(other, c) {
			t.Errorf("ConstraintSame accepts %v and %v", c, other)
		}
	}
}

type normalCase struct {
	name  string
	terms []impl.Term
	bound int
	want  string
}

func checkNormalForms(t *testing.T, cases []normalCase) {
	t.Helper()
	for _, x := range cases {
		c, ok := impl.NormalForm(x.terms, x.bound)
		if !ok || !impl.ConstraintValid(c) || impl.FormatConstraint(c) != x.want {
			t.Errorf("%s: NormalForm(%v, %d) = %v, %v, not %q", x.name, x.terms, x.bound, c, ok, x.want)
		}
	}
}

func TestNormalFormResults(t *testing.T) {
	checkNormalForms(t, []normalCase{
		{"example", []impl.Term{{Coef: 2, Lit: 1}, {Coef: -3, Lit: 2}, {Coef: 1, Lit: -1}}, 1, "1 x1 3 ~x2 >= 3"},
		{"already normal", []impl.Term{{Coef: 2, Lit: 1}, {Coef: 3, Lit: -4}}, 2, "2 x1 3 ~x4 >= 2"},
		{"any order", []impl.Term{{Coef: 1, Lit: 12}, {Coef: 2, Lit: -10}, {Coef: 3, Lit: 2}, {Coef: 4, Lit: 1}}, 5, "4 x1 3 x2 2 ~x10 1 x12 >= 5"},
		{"negative coefficient", []impl.Term{{Coef: -3, Lit: 2}}, -2, "3 ~x2 >= 1"},
		{"negative coefficient of a negated variable", []impl.Term{{Coef: -2, Lit: -3}}, 0, "2 x3 >= 2"},
		{"coefficients added", []impl.Term{{Coef: 1, Lit: 3}, {Coef: 2, Lit: 3}, {Coef: 4, Lit: 3}}, 5, "7 x3 >= 5"},
		{"both literals, the negated one greater", []impl.Term{{Coef: 2, Lit: 5}, {Coef: 7, Lit: -5}}, 4, "5 ~x5 >= 2"},
		{"zero coefficient", []impl.Term{{Coef: 0, Lit: 1}, {Coef: 0, Lit: -2}}, 2, ">= 2"},
		{"cancels out by its negation", []impl.Term{{Coef: 3, Lit: 1}, {Coef: 3, Lit: -1}}, 5, ">= 2"},
		{"cancels out by a negative coefficient", []impl.Term{{Coef: 3, Lit: 1}, {Coef: -3, Lit: 1}}, 5, ">= 5"},
		{"cancels out between others", []impl.Term{{Coef: 3, Lit: 2}, {Coef: 1, Lit: 1}, {Coef: 1, Lit: 3}, {Coef: 3, Lit: -2}}, 4, "1 x1 1 x3 >= 1"},
		{"cancels out and leaves a negative bound", []impl.Term{{Coef: 3, Lit: 1}, {Coef: 3, Lit: -1}}, 1, ">= 0"},
		{"negative bound", []impl.Term{{Coef: 1, Lit: 1}}, -5, "1 x1 >= 0"},
		{"bound that becomes negative", []impl.Term{{Coef: 6, Lit: 1}, {Coef: 4, Lit: -1}}, 2, "2 x1 >= 0"},
		{"bound that is negative in between", []impl.Term{{Coef: 5, Lit: -1}}, 2, "5 ~x1 >= 2"},
		{"bound that is negative in between by two variables", []impl.Term{{Coef: 6, Lit: 1}, {Coef: 5, Lit: -1}, {Coef: -4, Lit: 2}}, 2, "1 x1 4 ~x2 >= 1"},
		{"no terms, bound 0", nil, 0, ">= 0"},
		{"no terms, positive bound", nil, 7, ">= 7"},
		{"no terms, negative bound", []impl.Term{}, -1, ">= 0"},
	})
}

func TestNormalFormLimitsAreInclusive(t *testing.T) {
	checkNormalForms(t, []normalCase{
		{"terms", repeated(impl.MaxTerms, 1, 1), 1, "40 x1 >= 1"},
		{"coefficient", []impl.Term{{Coef: impl.MaxCoef, Lit: 1}}, 1, "1000 x1 >= 1"},
		{"negative coefficient", []impl.Term{{Coef: -impl.MaxCoef, Lit: 1}}, 1, "1000 ~x1 >= 1001"},
		{"variable", []impl.Term{{Coef: 1, Lit: impl.MaxVars}, {Coef: 1, Lit: 1}}, 1, "1 x1 1 x12 >= 1"},
		{"negated variable", []impl.Term{{Coef: 1, Lit: -impl.MaxVars}, {Coef: 1, Lit: -1}}, 1, "1 ~x1 1 ~x12 >= 1"},
		{"bound", nil, impl.MaxBound, ">= 20000"},
		{"negative bound", nil, -impl.MaxBound, ">= 0"},
		{"coefficient of the result", repeated(2, 500, 1), 1, "1000 x1 >= 1"},
		{"negated coefficient of the result", repeated(2, 500, -1), 1, "1000 ~x1 >= 1"},
		{"coefficient that is greater in between", []impl.Term{{Coef: 600, Lit: 1}, {Coef: 600, Lit: 1}, {Coef: -200, Lit: 1}}, 1, "1000 x1 >= 1"},
		{"bound of the result", []impl.Term{{Coef: -1, Lit: 1}}, 19999, "1 ~x1 >= 20000"},
		{"bound that is greater in between", []impl.Term{{Coef: -1000, Lit: -1}, {Coef: 1000, Lit: 2}, {Coef: 1000, Lit: -2}}, impl.MaxBound, "1000 x1 >= 20000"},
	})
}

func TestNormalFormRefuses(t *testing.T) {
	for _, x := range []struct {
		name  string
		terms []impl.Term
		bound int
	}{
		{"too many terms", repeated(impl.MaxTerms+1, 1, 1), 1},
		{"too many terms that are 0", repeated(impl.MaxTerms+1, 0, 1), 1},
		{"coefficient", []impl.Term{{Coef: impl.MaxCoef + 1, Lit: 1}}, 1},
		{"negative coefficient", []impl.Term{{Coef: -impl.MaxCoef - 1, Lit: 1}}, 1},
		{"coefficient that would cancel out", []impl.Term{{Coef: 1001, Lit: 1}, {Coef: -500, Lit: 1}}, 1},
		{"negative coefficient that would cancel out", []impl.Term{{Coef: -1001, Lit: 1}, {Coef: 500, Lit: 1}}, 1},
		{"least coefficient", []impl.Term{{Coef: math.MinInt, Lit: 1}}, 1},
		{"greatest coefficient", []impl.Term{{Coef: math.MaxInt, Lit: -1}}, 1},
		{"literal 0", []impl.Term{{Coef: 1, Lit: 0}}, 1},
		{"literal 0 with the coefficient 0", []impl.Term{{Coef: 0, Lit: 0}}, 1},
		{"literal 13", []impl.Term{{Coef: 1, Lit: impl.MaxVars + 1}}, 1},
		{"literal -13", []impl.Term{{Coef: 1, Lit: 1}, {Coef: 0, Lit: -impl.MaxVars - 1}}, 1},
		{"least literal", []impl.Term{{Coef: 1, Lit: math.MinInt}}, 1},
		{"greatest literal", []impl.Term{{Coef: 1, Lit: math.MaxInt}}, 1},
		{"bound", nil, impl.MaxBound + 1},
		{"bound that would become smaller", []impl.Term{{Coef: 1, Lit: 1}, {Coef: 1, Lit: -1}}, impl.MaxBound + 1},
		{"negative bound", nil, -impl.MaxBound - 1},
		{"least bound", nil, math.MinInt},
		{"greatest bound", nil, math.MaxInt},
		{"coefficient of the result", []impl.Term{{Coef: 1000, Lit: 1}, {Coef: 1, Lit: 1}}, 1},
		{"negated coefficient of the result", []impl.Term{{Coef: -1000, Lit: 1}, {Coef: 1, Lit: -1}}, 1},
		{"bound of the result", []impl.Term{{Coef: -1, Lit: 1}}, impl.MaxBound},
		{"bound of the result without terms", []impl.Term{{Coef: -1, Lit: 1}, {Coef: -1, Lit: -1}}, impl.MaxBound},
	} {
		if c, ok := impl.NormalForm(x.terms, x.bound); ok || !isZero(c) {
			t.Errorf("%s: NormalForm(%v, %d) = %v, %v", x.name, x.terms, x.bound, c, ok)
		}
	}
}

func TestNormalFormIsEquivalent(t *testing.T) {
	n := &numbers{state: 1}
	for range 150 {
		terms := n.terms(n.between(0, 14), n.between(1, impl.MaxVars), n.between(0, 9))
		bound := n.between(-20, 20)
		c, ok := impl.NormalForm(terms, bound)
		if !ok || !impl.ConstraintValid(c) {
			t.Fatalf("NormalForm(%v, %d) = %v, %v", terms, bound, c, ok)
		}
		for bits := range 1 << impl.MaxVars {
			values := valuesOf(bits)
			if impl.EvalConstraint(c, values) != (trueSum(terms, values) >= bound) {
				t.Fatalf("NormalForm(%v, %d) = %v differs for %v", terms, bound, c, values)
			}
		}
		if again, ok := impl.NormalForm(c.Terms, c.Bound); !ok || !impl.ConstraintSame(c, again) {
			t.Fatalf("the normal form of %v is %v, %v", c, again, ok)
		}
	}
}

func TestEvalConstraint(t *testing.T) {
	c := read(t, "2 x1 3 ~x2 4 x12 >= 5")
	for _, x := range []struct {
		bits int
		want bool
	}{
		{0, false},
		{1, true},
		{2, false},
		{3, false},
		{1 << 11, true},
		{1<<11 | 2, false},
		{1<<11 | 3, true},
		{1<<11 - 1, false},
	} {
		if got := impl.EvalConstraint(c, valuesOf(x.bits)); got != x.want {
			t.Errorf("EvalConstraint for %012b = %v", x.bits, got)
		}
	}
	always := read(t, ">= 0")
	if !impl.EvalConstraint(always, valuesOf(0)) || impl.EvalConstraint(read(t, ">= 1"), valuesOf(0)) {
		t.Error("EvalConstraint is wrong without terms")
	}
	for _, count := range []int{0, 1, impl.MaxVars - 1, impl.MaxVars + 1} {
		if impl.EvalConstraint(always, make([]bool, count)) {
			t.Errorf("EvalConstraint accepts %d values", count)
		}
	}
	if impl.EvalConstraint(always, nil) {
		t.Error("EvalConstraint accepts nil")
	}
}

func TestNegateConstraintResults(t *testing.T) {
	for _, x := range []struct{ text, want string }{
		{"1 x1 3 ~x2 >= 3", "1 ~x1 3 x2 >= 2"},
		{"1 x1 >= 1", "1 ~x1 >= 1"},
		{"5 ~x12 >= 5", "5 x12 >= 1"},
		{"1 x1 2 x2 >= 0", "1 ~x1 2 ~x2 >= 4"},
		{"1 x1 2 x2 >= 4", "1 ~x1 2 ~x2 >= 0"},
		{"1 x1 2 x2 >= 5", "1 ~x1 2 ~x2 >= 0"},
		{"1 x1 >= 20000", "1 ~x1 >= 0"},
		{">= 0", ">= 1"},
		{">= 1", ">= 0"},
		{">= 20000", ">= 0"},
	} {
		n, ok := impl.NegateConstraint(read(t, x.text))
		if !ok || impl.FormatConstraint(n) != x.want {
			t.Errorf("NegateConstraint(%s) = %v, %v, not %s", x.text, n, ok, x.want)
		}
	}
	n, ok := impl.NegateConstraint(impl.Constraint{Terms: allVars(impl.MaxCoef)})
	if !ok || n.Bound != impl.MaxVars*impl.MaxCoef+1 || len(n.Terms) != impl.MaxVars {
		t.Errorf("NegateConstraint of the greatest coefficients = %v, %v", n, ok)
	}
}

func TestNegationIsSatisfiedWhereTheConstraintIsNot(t *testing.T) {
	n := &numbers{state: 2}
	for range 150 {
		c, ok := impl.NormalForm(n.terms(n.between(0, 8), impl.MaxVars, 9), n.between(-5, 40))
		if !ok {
			t.Fatal("NormalForm refuses small terms")
		}
		negation, ok := impl.NegateConstraint(c)
		if !ok || !impl.ConstraintValid(negation) {
			t.Fatalf("NegateConstraint(%v) = %v, %v", c, negation, ok)
		}
		count := 0
		for bits := range 1 << impl.MaxVars {
			values := valuesOf(bits)
			holds := impl.EvalConstraint(c, values)
			if holds == impl.EvalConstraint(negation, values) {
				t.Fatalf("%v and its negation %v agree for %v", c, negation, values)
			}
			if holds {
				count++
			}
		}
		if impl.ConstraintFalse(c) != (count == 0) || impl.ConstraintFalse(negation) != (count == 1<<impl.MaxVars) {
			t.Fatalf("ConstraintFalse is wrong for %v or its negation %v", c, negation)
		}
	}
}

func TestTotalCoefAndConstraintFalse(t *testing.T) {
	for _, x := range []struct {
		text    string
		total   int
		isFalse bool
	}{
		{">= 0", 0, false},
		{">= 1", 0, true},
		{">= 20000", 0, true},
		{"2 ~x12 >= 2", 2, false},
		{"2 ~x12 >= 3", 2, true},
		{"1 x1 2 ~x2 3 x3 >= 0", 6, false},
		{"1 x1 2 ~x2 3 x3 >= 6", 6, false},
		{"1 x1 2 ~x2 3 x3 >= 7", 6, true},
	} {
		c := read(t, x.text)
		if impl.TotalCoef(c) != x.total || impl.ConstraintFalse(c) != x.isFalse {
			t.Errorf("%s: TotalCoef = %d, ConstraintFalse = %v", x.text, impl.TotalCoef(c), impl.ConstraintFalse(c))
		}
	}
	if total := impl.TotalCoef(impl.Constraint{Terms: allVars(impl.MaxCoef)}); total != impl.MaxVars*impl.MaxCoef {
		t.Errorf("TotalCoef of the greatest coefficients = %d", total)
	}
}

func TestConstraintTexts(t *testing.T) {
	for _, x := range []struct {
		text string
		want impl.Constraint
	}{
		{">= 0", impl.Constraint{}},
		{">= 20000", impl.Constraint{Bound: impl.MaxBound}},
		{"1 x1 >= 1", impl.Constraint{Terms: []impl.Term{{Coef: 1, Lit: 1}}, Bound: 1}},
		{"1000 ~x12 >= 10", impl.Constraint{Terms: []impl.Term{{Coef: impl.MaxCoef, Lit: -impl.MaxVars}}, Bound: 10}},
		{"2 ~x1 10 x2 3 x10 >= 0", impl.Constraint{Terms: []impl.Term{{Coef: 2, Lit: -1}, {Coef: 10, Lit: 2}, {Coef: 3, Lit: 10}}}},
		{
			"1000 x1 1000 x2 1000 x3 1000 x4 1000 x5 1000 x6 1000 x7 1000 x8 1000 x9 1000 x10 1000 x11 1000 x12 >= 20000",
			impl.Constraint{Terms: allVars(impl.MaxCoef), Bound: impl.MaxBound},
		},
	} {
		if text := impl.FormatConstraint(x.want); text != x.text {
			t.Errorf("FormatConstraint(%v) = %q, not %q", x.want, text, x.text)
		}
		if c, ok := impl.ParseConstraint(x.text); !ok || !impl.ConstraintSame(c, x.want) {
			t.Errorf("ParseConstraint(%q) = %v, %v", x.text, c, ok)
		}
	}
	n := &numbers{state: 3}
	for range 500 {
		c, ok := impl.NormalForm(n.terms(n.between(0, impl.MaxTerms), impl.MaxVars, 50), n.between(0, 50))
		if !ok {
			t.Fatal("NormalForm refuses small terms")
		}
		if again, ok := impl.ParseConstraint(impl.FormatConstraint(c)); !ok || !impl.ConstraintSame(c, again) {
			t.Fatalf("ParseConstraint of the text of %v = %v, %v", c, again, ok)
		}
	}
}

func TestParseConstraintRefuses(t *testing.T) {
	for _, text := range []string{
		"", " ", ">=", ">= ", " >= 1", ">= 1 ", ">=  1", ">=1", "> 1", "= 1", "1", "x1", ">= 1 1", ">= >=", ">= 1 >= 1",
		">= -1", ">= -0", ">= +1", ">= 01", ">= 00", ">= 1.0", ">= 1e3", ">= 0x1", ">= 1_0", ">= a", ">= 20001",
		">= 99999999999999999999", ">= -99999999999999999999", ">= 1\n", ">= 1\r", ">= 1\x00", ">= \u0661", ">= 1\xff", "\xff\xfe",
		"1 x1", "1 x1 ", "1 x1 >=", "1 x1 >= ", "1 x1 1", "x1 >= 1", "1 >= 1", "1 x1 x2 >= 1", "1 1 x1 >= 1", "1 x1 >= x1",
		" 1 x1 >= 1", "1  x1 >= 1", "1 x1  >= 1", "1\tx1 >= 1", "1 x1\n>= 1", "1 x1\u00a0>= 1",
		"0 x1 >= 0", "-1 x1 >= 0", "+1 x1 >= 1", "01 x1 >= 1", "1001 x1 >= 1", "99999999999999999999 x1 >= 1", "a x1 >= 1",
		"1 x0 >= 1", "1 ~x0 >= 1", "1 x13 >= 1", "1 ~x13 >= 1", "1 x01 >= 1", "1 x-1 >= 1", "1 ~x-1 >= 1", "1 x+1 >= 1", "1 x >= 1",
		"1 ~ >= 1", "1 ~~x1 >= 1", "1 ~1 >= 1", "1 x~1 >= 1", "1 X1 >= 1", "1 y1 >= 1", "1 -x1 >= 1", "1 1 >= 1", "1 x99999999999999999999 >= 1",
		"1 x2 1 x1 >= 1", "1 x1 1 x1 >= 1", "1 x1 1 ~x1 >= 1", "1 ~x2 1 x1 >= 1", "1 x1 >= 1 1 x2 >= 1",
		"1 x1 1 x2 1 x3 1 x4 1 x5 1 x6 1 x7 1 x8 1 x9 1 x10 1 x11 1 x12 1 x12 >= 1",
		"1 x1 1 x2 1 x3 1 x4 1 x5 1 x6 1 x7 1 x8 1 x9 1 x10 1 x11 1 x12 >= 1 >= 1",
		"1 x1 1 x2 1 x3 1 x4 1 x5 1 x6 1 x7 1 x8 1 x9 1 x10 1 x11 1 x12 >= 1 1",
		strings.Repeat("1 x1 ", 10000) + ">= 1", strings.Repeat(" ", 10000), ">= " + strings.Repeat("1", 10000),
	} {
		if c, ok := impl.ParseConstraint(text); ok || !isZero(c) {
			t.Errorf("ParseConstraint(%.80q) = %v, %v", text, c, ok)
		}
	}
}

func TestConstraintsKeepTheirArguments(t *testing.T) {
	spare := []impl.Term{{Coef: 2, Lit: 3}, {Coef: 1, Lit: -5}, {Coef: 7, Lit: 7}}
	before := slices.Clone(spare)
	c := impl.Constraint{Terms: spare[:2], Bound: 2}
	values := valuesOf(5)
	impl.EvalConstraint(c, values)
	impl.ConstraintSame(c, c)
	normal, _ := impl.NormalForm(c.Terms, c.Bound)
	negation, _ := impl.NegateConstraint(c)
	if !slices.Equal(spare, before) || !slices.Equal(values, valuesOf(5)) {
		t.Fatal("a function changes its arguments")
	}
	if impl.FormatConstraint(normal) != "2 x3 1 ~x5 >= 2" || impl.FormatConstraint(negation) != "2 ~x3 1 x5 >= 2" {
		t.Fatalf("NormalForm = %v, NegateConstraint = %v", normal, negation)
	}
	for _, result := range [][]impl.Term{normal.Terms, negation.Terms} {
		for i := range result[:cap(result)] {
			result[:cap(result)][i] = impl.Term{Coef: 9, Lit: 9}
		}
	}
	if !slices.Equal(spare, before) {
		t.Error("a result shares memory with an argument")
	}
}
