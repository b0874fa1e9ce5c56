package tests

import (
	"slices"
	"testing"

	"loop.example/cuttingplanes/impl"
)

func fixSlowly(list []impl.Constraint, p []int) []impl.Constraint {
	var fixed []impl.Constraint
	for _, c := range list {
		var rest []impl.Term
		bound := c.Bound
		for _, term := range c.Terms {
			value := p[max(term.Lit, -term.Lit)-1]
			if value == 0 {
				rest = append(rest, term)
			} else if (value == 1) == (term.Lit > 0) {
				bound -= term.Coef
			}
		}
		fixed = append(fixed, impl.Constraint{Terms: rest, Bound: max(bound, 0)})
	}
	return fixed
}

func coversSlowly(a, b impl.Constraint) bool {
	loss := 0
	for _, term := range a.Terms {
		loss += max(term.Coef-coefOf(b, term.Lit), 0)
	}
	return a.Bound-loss >= b.Bound
}

func removeSlowly(list []impl.Constraint) []impl.Constraint {
	left := unmoved(len(list))
	for i, c := range list {
		if slices.ContainsFunc(left, func(j int) bool { return j != i && coversSlowly(list[j], c) }) {
			left = without(left, i)
		}
	}
	return pick(list, left)
}

func saturateSlowly(list []impl.Constraint) []impl.Constraint {
	var saturated []impl.Constraint
	for _, c := range list {
		var terms []impl.Term
		for _, term := range c.Terms {
			if c.Bound > 0 {
				terms = append(terms, impl.Term{Coef: min(term.Coef, c.Bound), Lit: term.Lit})
			}
		}
		saturated = append(saturated, impl.Constraint{Terms: terms, Bound: c.Bound})
	}
	return saturated
}

// simplifySlowly returns false if propagation ends with a violated constraint.
func simplifySlowly(list []impl.Constraint) ([]impl.Constraint, []int, bool) {
	p, at := propagateSlowly(list, assign())
	if at >= 0 {
		return nil, nil, false
	}
	list = fixSlowly(list, p)
	for text := "none"; impl.FormatProblem(list) != text; {
		text = impl.FormatProblem(list)
		list = saturateSlowly(list)
		list = slices.DeleteFunc(list, func(c impl.Constraint) bool { return c.Bound == 0 })
		list = removeSlowly(list)
	}
	return list, p, true
}

// literalsInOrder has each variable before its negation.
func literalsInOrder() []int {
	var lits []int
	for v := 1; v <= impl.MaxVars; v++ {
		lits = append(lits, v, -v)
	}
	return lits
}

func slowPure(list []impl.Constraint) []int {
	occurs := func(lit int) bool {
		return slices.ContainsFunc(list, func(c impl.Constraint) bool { return coefOf(c, lit) != 0 })
	}
	return slices.DeleteFunc(literalsInOrder(), func(lit int) bool { return !occurs(lit) || occurs(-lit) })
}

func slowFailed(list []impl.Constraint) []int {
	return slices.DeleteFunc(literalsInOrder(), func(lit int) bool {
		_, at := propagateSlowly(list, assign(lit))
		return at < 0
	})
}

// holdsWithout reports whether c holds if exactly the literals of the terms in a set are false.
func holdsWithout(c impl.Constraint, set int) bool {
	values := valuesOf(0)
	for i, term := range c.Terms {
		values[max(term.Lit, -term.Lit)-1] = (term.Lit > 0) == (set>>i&1 == 0)
	}
	return trueSum(c.Terms, values) >= c.Bound
}

// slowClauses does not look at the limit.
func slowClauses(c impl.Constraint) []impl.Constraint {
	var clauses []impl.Constraint
	for set := range 1 << len(c.Terms) {
		clause := impl.Constraint{Bound: 1}
		minimal := !holdsWithout(c, set)
		for i, term := range c.Terms {
			if set>>i&1 == 1 {
				clause.Terms = append(clause.Terms, impl.Term{Coef: 1, Lit: term.Lit})
				minimal = minimal && holdsWithout(c, set-1<<i)
			}
		}
		if minimal {
			clauses = append(clauses, clause)
		}
	}
	return clauses
}

// weighted has the bound and the coefficients of all variables from the first one on.
func weighted(bound int, coefs ...int) impl.Constraint { return exactly(bound, coefs...)[0] }

// roughProblem often has constraints that others cover, and sometimes one that is trivial or false.
func (n *numbers) roughProblem(t *testing.T, vars int) []impl.Constraint {
	t.Helper()
	list := n.smallProblem(t, vars)
	for range n.between(0, 5) {
		list = append(list, n.clause(vars))
	}
	for range n.between(0, 3) {
		if len(list) == 0 {
			break
		}
		c := list[n.between(0, len(list)-1)]
		terms := slices.Clone(c.Terms)
		for i := range terms {
			terms[i].Coef += n.between(0, 1)
		}
		list = slices.Insert(list, n.between(0, len(list)), impl.Constraint{Terms: terms, Bound: max(c.Bound-n.between(0, 1), 0)})
	}
	if n.between(0, 29) == 0 {
		list = slices.Insert(list, n.between(0, len(list)), impl.Constraint{Bound: n.between(0, 2)})
	}
	return list
}

func checkProblem(t *testing.T, name string, list []impl.Constraint, ok bool, want ...string) {
	t.Helper()
	if !ok || !sameProblem(list, readAll(t, want...)) {
		t.Errorf("%s = %q, %v, not %q", name, impl.FormatProblem(list), ok, want)
	}
}

func checkNoProblem(t *testing.T, name string, list []impl.Constraint, ok bool) {
	t.Helper()
	if ok || len(list) != 0 {
		t.Errorf("%s = %.80v, %v", name, list, ok)
	}
}

func checkNotSimplified(t *testing.T, name string, list []impl.Constraint) {
	t.Helper()
	if simple, p, ok := impl.SimplifyProblem(list); ok || len(simple) != 0 || len(p) != 0 {
		t.Errorf("%s: SimplifyProblem(%.80v) = %.80v, %v, %v", name, list, simple, p, ok)
	}
}

func TestPresolvingOfWhatIsNotAProblem(t *testing.T) {
	lists := append(invalidProblems(), append(leaves(), impl.Constraint{}), slices.Repeat(readAll(t, "1 x1 >= 1"), impl.MaxProblem+1))
	for _, bad := range lists {
		for _, list := range [][]impl.Constraint{bad, append(readAll(t, "1 x1 >= 1", ">= 0"), bad...), append(readAll(t, ">= 1"), bad...)} {
			for _, lit := range append(notLiterals(), 1, -1, -12) {
				fixed, ok := impl.FixLiteral(list, lit)
				checkNoProblem(t, "FixLiteral", fixed, ok)
			}
			for _, p := range [][]int{nil, assign(), assign(1, -12), slices.Repeat([]int{1}, impl.MaxVars), make([]int, 3)} {
				fixed, ok := impl.FixPartial(list, p)
				checkNoProblem(t, "FixPartial", fixed, ok)
			}
			rest, ok := impl.RemoveCovered(list)
			checkNoProblem(t, "RemoveCovered", rest, ok)
			if pure, failed := impl.PureLiterals(list), impl.FailedLiterals(list); len(pure) != 0 || len(failed) != 0 {
				t.Errorf("PureLiterals(%.80v) = %v, FailedLiterals = %v", list, pure, failed)
			}
			checkNotSimplified(t, "no problem", list)
		}
	}
}

func TestFixPartial(t *testing.T) {
	for _, x := range []struct {
		name string
		list []string
		p    []int
		want []string
	}{
		{"no constraints", nil, assign(1, -2), nil},
		{"no values", []string{"2 x1 3 ~x12 >= 4", ">= 0", "1 x1 >= 0"}, assign(), []string{"2 x1 3 ~x12 >= 4", ">= 0", "1 x1 >= 0"}},
		{"other variables", []string{"2 x1 3 ~x12 >= 4"}, assign(-2, 11), []string{"2 x1 3 ~x12 >= 4"}},
		{"a true variable", []string{"2 x1 3 ~x12 >= 4"}, assign(1), []string{"3 ~x12 >= 2"}},
		{"a false variable", []string{"2 x1 3 ~x12 >= 4"}, assign(-1), []string{"3 ~x12 >= 4"}},
		{"a true negated variable", []string{"2 x1 3 ~x12 >= 4"}, assign(-12), []string{"2 x1 >= 1"}},
		{"a false negated variable", []string{"2 x1 3 ~x12 >= 4"}, assign(12), []string{"2 x1 >= 4"}},
		{"several variables", []string{"1 x1 2 ~x2 4 x3 8 ~x4 16 x5 >= 20"}, assign(1, 2, -4, 6), []string{"4 x3 16 x5 >= 11"}},
		{"all terms, satisfied", []string{"2 x1 3 ~x12 >= 4"}, assign(1, -12), []string{">= 0"}},
		{"all terms, not satisfied", []string{"2 x1 3 ~x12 >= 4"}, assign(1, 12), []string{">= 2"}},
		{"the bound becomes 0", []string{"2 x1 3 x2 >= 2"}, assign(1), []string{"3 x2 >= 0"}},
		{"the bound would become negative", []string{"2 x1 3 x2 1 x3 >= 2"}, assign(2), []string{"2 x1 1 x3 >= 0"}},
		{"the bound would become negative after each of two", []string{"2 x1 3 x2 1 x3 >= 1"}, assign(1, 2), []string{"1 x3 >= 0"}},
		{"the bound stays 0", []string{"2 x1 3 x2 >= 0"}, assign(2), []string{"2 x1 >= 0"}},
		{"a false constraint", []string{">= 3", "1 x1 >= 2"}, assign(1), []string{">= 3", ">= 1"}},
		{"no constraint is removed", []string{"1 x1 1 x2 >= 1", "1 x1 1 x3 >= 1", "1 x3 >= 1", "1 x3 >= 1"}, assign(1, 3), []string{"1 x2 >= 0", ">= 0", ">= 0", ">= 0"}},
		{"coefficients stay greater than the bound", []string{"5 x1 5 x2 4 x3 >= 6"}, assign(1), []string{"5 x2 4 x3 >= 1"}},
		{"the greatest numbers", []string{"1000 x1 1000 ~x2 >= 20000"}, assign(1), []string{"1000 ~x2 >= 19000"}},
	} {
		fixed, ok := impl.FixPartial(readAll(t, x.list...), x.p)
		checkProblem(t, x.name+": FixPartial", fixed, ok, x.want...)
	}
	everywhere := []impl.Constraint{overAllVars(impl.MaxCoef, impl.MaxBound, false), overAllVars(1, 7, true)}
	fixed, ok := impl.FixPartial(everywhere, slices.Repeat([]int{1, -1}, impl.MaxVars/2))
	checkProblem(t, "all values: FixPartial", fixed, ok, ">= 14000", ">= 1")
	for _, p := range invalidPartials() {
		for _, list := range [][]impl.Constraint{nil, readAll(t, ">= 1", "1 x1 >= 1"), everywhere, leaves()} {
			fixed, ok := impl.FixPartial(list, p)
			checkNoProblem(t, "FixPartial", fixed, ok)
		}
	}
}

func TestFixLiteral(t *testing.T) {
	for _, x := range []struct {
		lit  int
		want []string
	}{
		{1, []string{"1 x2 >= 0", "3 x3 >= 2", "4 x12 >= 4", ">= 0"}},
		{-1, []string{"1 x2 >= 2", "3 x3 >= 1", "4 x12 >= 4", ">= 0"}},
		{2, []string{"2 x1 >= 1", "1 ~x1 3 x3 >= 2", "4 x12 >= 4", ">= 0"}},
		{-3, []string{"2 x1 1 x2 >= 2", "1 ~x1 >= 2", "4 x12 >= 4", ">= 0"}},
		{12, []string{"2 x1 1 x2 >= 2", "1 ~x1 3 x3 >= 2", ">= 0", ">= 0"}},
		{-12, []string{"2 x1 1 x2 >= 2", "1 ~x1 3 x3 >= 2", ">= 4", ">= 0"}},
		{7, []string{"2 x1 1 x2 >= 2", "1 ~x1 3 x3 >= 2", "4 x12 >= 4", ">= 0"}},
	} {
		fixed, ok := impl.FixLiteral(readAll(t, "2 x1 1 x2 >= 2", "1 ~x1 3 x3 >= 2", "4 x12 >= 4", ">= 0"), x.lit)
		checkProblem(t, "FixLiteral", fixed, ok, x.want...)
	}
	for _, lit := range literalsInOrder() {
		fixed, ok := impl.FixLiteral(leaves(), lit)
		if !ok || len(fixed) != impl.MaxProblem || !sameProblem(fixed, fixSlowly(leaves(), assign(lit))) {
			t.Errorf("FixLiteral of MaxProblem constraints for %d = %d constraints, %v", lit, len(fixed), ok)
		}
		fixed, ok = impl.FixLiteral(nil, lit)
		checkProblem(t, "FixLiteral of nothing", fixed, ok)
	}
	for _, lit := range notLiterals() {
		for _, list := range [][]impl.Constraint{nil, readAll(t, ">= 1"), readAll(t, "1 x1 >= 1", "1 ~x12 >= 1"), leaves()} {
			fixed, ok := impl.FixLiteral(list, lit)
			checkNoProblem(t, "FixLiteral", fixed, ok)
		}
	}
}

func TestFixedProblemsHaveTheSolutionsThatAgree(t *testing.T) {
	n := &numbers{state: 91}
	solutions := 0
	for range 1500 {
		vars := n.between(1, 7)
		list, p := n.roughProblem(t, vars), n.smallPartial(vars)
		fixed, ok := impl.FixPartial(list, p)
		if !ok || !impl.ProblemValid(fixed) || !sameProblem(fixed, fixSlowly(list, p)) {
			t.Fatalf("FixPartial(%q, %v) = %q, %v", impl.FormatProblem(list), p, impl.FormatProblem(fixed), ok)
		}
		for bits := range 1 << vars {
			values := valuesOf(bits)
			if !agrees(p[:vars], values) {
				continue
			}
			if satisfied(list, values) {
				solutions++
			}
			if satisfied(list, values) != satisfied(fixed, values) {
				t.Fatalf("FixPartial(%q, %v) has other solutions: %v", impl.FormatProblem(list), p, values)
			}
		}
		lit := n.literal(vars)
		one, ok := impl.FixLiteral(list, lit)
		if !ok || !sameProblem(one, fixSlowly(list, assign(lit))) {
			t.Fatalf("FixLiteral(%q, %d) = %q, %v", impl.FormatProblem(list), lit, impl.FormatProblem(one), ok)
		}
	}
	if solutions < 1000 {
		t.Errorf("only %d solutions agree", solutions)
	}
}

func TestRemoveCovered(t *testing.T) {
	for _, x := range []struct {
		name       string
		list, want []string
	}{
		{"no constraints", nil, nil},
		{"one constraint does not cover itself", []string{"1 x1 >= 1"}, []string{"1 x1 >= 1"}},
		{"one trivial constraint", []string{">= 0"}, []string{">= 0"}},
		{"one false constraint", []string{">= 1"}, []string{">= 1"}},
		{"two equal constraints, of which the last one remains", []string{"1 x1 >= 1", "1 x3 >= 1", "1 x1 >= 1"}, []string{"1 x3 >= 1", "1 x1 >= 1"}},
		{"three equal constraints", []string{"1 x1 2 x2 >= 2", "1 x3 >= 1", "1 x1 2 x2 >= 2", "1 x1 2 x2 >= 2", "1 x4 >= 1"}, []string{"1 x3 >= 1", "1 x1 2 x2 >= 2", "1 x4 >= 1"}},
		{"equal trivial constraints", []string{">= 0", ">= 0"}, []string{">= 0"}},
		{"an earlier one covers a later one", []string{"1 x1 >= 1", "1 x1 1 x2 >= 1"}, []string{"1 x1 >= 1"}},
		{"a later one covers an earlier one", []string{"1 x1 1 x2 >= 1", "1 x1 >= 1"}, []string{"1 x1 >= 1"}},
		{"a chain", []string{"1 x1 1 x2 1 x3 >= 1", "1 x1 1 x2 >= 1", "1 x1 >= 1"}, []string{"1 x1 >= 1"}},
		{"a chain backward", []string{"1 x1 >= 1", "1 x1 1 x2 >= 1", "1 x1 1 x2 1 x3 >= 1"}, []string{"1 x1 >= 1"}},
		{"only a smaller bound", []string{"2 x1 1 x2 >= 1", "2 x1 1 x2 >= 2"}, []string{"2 x1 1 x2 >= 2"}},
		{"a loss that is small enough", []string{"2 x1 >= 1", "2 x1 1 ~x2 >= 2"}, []string{"2 x1 1 ~x2 >= 2"}},
		{"a loss that is too great", []string{"2 x1 >= 1", "2 x1 1 ~x2 >= 1"}, []string{"2 x1 >= 1"}},
		{"a loss of a part of a coefficient", []string{"5 x1 1 x2 >= 3", "3 x1 1 x2 >= 1"}, []string{"5 x1 1 x2 >= 3"}},
		{"a loss of a part of a coefficient that is too great", []string{"5 x1 1 x2 >= 3", "3 x1 1 x2 >= 2"}, []string{"5 x1 1 x2 >= 3", "3 x1 1 x2 >= 2"}},
		{"one with smaller coefficients", []string{"5 x1 1 x2 >= 2", "2 x1 1 x2 >= 2"}, []string{"2 x1 1 x2 >= 2"}},
		{"equivalent ones that do not cover each other", []string{"9 x1 9 x2 >= 8", "1 x1 1 x2 >= 1"}, []string{"9 x1 9 x2 >= 8", "1 x1 1 x2 >= 1"}},
		{"several in common", []string{"2 x1 2 ~x2 3 x3 >= 4", "1 x1 1 ~x2 2 x3 >= 1"}, []string{"2 x1 2 ~x2 3 x3 >= 4"}},
		{"several in common, bound too great", []string{"2 x1 2 ~x2 3 x3 >= 4", "1 x1 1 ~x2 2 x3 >= 2"}, []string{"2 x1 2 ~x2 3 x3 >= 4", "1 x1 1 ~x2 2 x3 >= 2"}},
		{"the negation is not the same literal", []string{"1 x1 >= 1", "1 ~x1 1 x2 >= 1"}, []string{"1 x1 >= 1", "1 ~x1 1 x2 >= 1"}},
		{"a false constraint covers all with such a bound", []string{"1 x1 >= 1", ">= 1", "1 x2 >= 1", ">= 0"}, []string{">= 1"}},
		{"a false constraint with terms", []string{"1 x2 >= 1", "1 x1 >= 2", "1 x3 >= 2"}, []string{"1 x1 >= 2", "1 x3 >= 2"}},
		{"a trivial constraint covers no others", []string{">= 0", "1 x1 1 x2 >= 1", "1 x1 >= 1"}, []string{"1 x1 >= 1"}},
		{"a trivial constraint that is not covered", []string{">= 0", "1 x1 1 x2 >= 1"}, []string{">= 0", "1 x1 1 x2 >= 1"}},
		{"trivial constraints with terms", []string{"3 x2 >= 0", "1 x1 >= 0", "1 x1 3 x2 >= 0"}, []string{"3 x2 >= 0", "1 x1 >= 0"}},
		{"two that are covered by one", []string{"1 x1 1 x2 >= 1", "1 x2 1 x3 >= 1", "1 x2 >= 1", "1 x1 1 x3 >= 1"}, []string{"1 x2 >= 1", "1 x1 1 x3 >= 1"}},
		{"implied by two together", []string{"1 x1 >= 1", "1 x2 >= 1", "1 x1 1 x2 >= 2"}, []string{"1 x1 1 x2 >= 2"}},
		{"implied by two together, but covered by none", []string{"1 x1 >= 1", "1 ~x1 1 x2 >= 1", "1 x2 >= 1"}, []string{"1 x1 >= 1", "1 x2 >= 1"}},
		{"nothing is covered", []string{"1 x1 1 x2 >= 1", "1 x1 1 ~x2 >= 1", "1 ~x1 1 x2 >= 1", "1 ~x1 1 ~x2 >= 1"}, []string{"1 x1 1 x2 >= 1", "1 x1 1 ~x2 >= 1", "1 ~x1 1 x2 >= 1", "1 ~x1 1 ~x2 >= 1"}},
		{"the greatest numbers", []string{"1000 x1 >= 19000", "1000 x1 1000 x2 >= 20000"}, []string{"1000 x1 1000 x2 >= 20000"}},
	} {
		rest, ok := impl.RemoveCovered(readAll(t, x.list...))
		checkProblem(t, x.name+": RemoveCovered", rest, ok, x.want...)
	}
}

func TestLimitsOfRemoveCovered(t *testing.T) {
	if rest, ok := impl.RemoveCovered(leaves()); !ok || !sameProblem(rest, leaves()) {
		t.Errorf("RemoveCovered of MaxProblem constraints = %d constraints, %v", len(rest), ok)
	}
	rest, ok := impl.RemoveCovered(slices.Repeat(readAll(t, "2 x1 1 ~x12 >= 2"), impl.MaxProblem))
	checkProblem(t, "RemoveCovered of MaxProblem equal constraints", rest, ok, "2 x1 1 ~x12 >= 2")
	list := append(leaves()[1:], read(t, "1 x1 >= 1"))
	want := append(slices.DeleteFunc(leaves()[1:], func(c impl.Constraint) bool { return coefOf(c, 1) == 1 }), read(t, "1 x1 >= 1"))
	if rest, ok := impl.RemoveCovered(list); !ok || !sameProblem(rest, want) || len(rest) > 210 {
		t.Errorf("RemoveCovered with the last of MaxProblem constraints = %d constraints, %v", len(rest), ok)
	}
	large := slices.Repeat([]impl.Constraint{overAllVars(impl.MaxCoef, 11999, true)}, impl.MaxProblem)
	large[0].Bound = 12000
	if rest, ok := impl.RemoveCovered(large); !ok || !sameProblem(rest, large[:1]) {
		t.Errorf("RemoveCovered of MaxProblem great constraints = %d constraints, %v", len(rest), ok)
	}
}

func TestRemovedConstraintsAreCovered(t *testing.T) {
	n := &numbers{state: 92}
	removed := 0
	for range 2500 {
		vars := n.between(1, 6)
		list := n.roughProblem(t, vars)
		rest, ok := impl.RemoveCovered(list)
		if !ok || !sameProblem(rest, removeSlowly(list)) {
			t.Fatalf("RemoveCovered(%q) = %q, %v", impl.FormatProblem(list), impl.FormatProblem(rest), ok)
		}
		removed += len(list) - len(rest)
		for bits := range 1 << vars {
			if values := valuesOf(bits); satisfied(list, values) != satisfied(rest, values) {
				t.Fatalf("RemoveCovered(%q) has other solutions: %v", impl.FormatProblem(list), values)
			}
		}
		for i, c := range rest {
			for j, other := range rest {
				if i != j && impl.CoversConstraint(other, c) {
					t.Fatalf("RemoveCovered(%q) leaves %v, which %v covers", impl.FormatProblem(list), c, other)
				}
			}
		}
	}
	if removed < 2000 {
		t.Errorf("only %d constraints are removed", removed)
	}
}

func TestPureLiterals(t *testing.T) {
	for _, x := range []struct {
		name string
		list []string
		want []int
	}{
		{"no constraints", nil, nil},
		{"no terms", []string{">= 0", ">= 3"}, nil},
		{"a variable", []string{"1 x5 >= 1"}, []int{5}},
		{"a negated variable", []string{"1 ~x5 >= 1"}, []int{-5}},
		{"several, ordered by their variables", []string{"1 ~x7 1 x12 >= 1", "1 x1 1 ~x7 >= 1", "3 ~x2 1 x3 >= 2"}, []int{1, -2, 3, -7, 12}},
		{"both literals occur", []string{"1 x1 1 x2 >= 1", "1 ~x1 1 x2 >= 1"}, []int{2}},
		{"both literals occur, the negated one first", []string{"1 ~x1 1 x2 >= 1", "1 x1 1 x2 >= 1"}, []int{2}},
		{"none is pure", []string{"1 x1 1 ~x2 >= 1", "1 ~x1 1 x2 >= 1"}, nil},
		{"a literal occurs often", []string{"1 x1 >= 1", "1 x1 1 x2 >= 1", "2 x1 >= 1", "1 ~x2 >= 1"}, []int{1}},
		{"a trivial constraint", []string{"1 x1 >= 0", "1 ~x2 >= 0"}, []int{1, -2}},
		{"a trivial constraint has the negation", []string{"1 x1 >= 1", "1 ~x1 >= 0"}, nil},
		{"a false constraint", []string{"1 x1 1 ~x2 >= 9"}, []int{1, -2}},
	} {
		if pure := impl.PureLiterals(readAll(t, x.list...)); !slices.Equal(pure, x.want) {
			t.Errorf("%s: PureLiterals = %v", x.name, pure)
		}
	}
	all := []impl.Constraint{overAllVars(1000, 20000, true)}
	if pure := impl.PureLiterals(all); !slices.Equal(pure, []int{-1, -2, -3, -4, -5, -6, -7, -8, -9, -10, -11, -12}) {
		t.Errorf("PureLiterals of all variables = %v", pure)
	}
	if pure := impl.PureLiterals(append(all, overAllVars(1, 0, false))); len(pure) != 0 {
		t.Errorf("PureLiterals of all literals = %v", pure)
	}
	full := fullProblem()
	full[0], full[impl.MaxProblem-2], full[impl.MaxProblem-1] = read(t, "1 x1 1 ~x2 >= 1"), read(t, "1 x12 >= 1"), read(t, "1 x2 >= 1")
	if pure := impl.PureLiterals(full); !slices.Equal(pure, []int{1, 12}) {
		t.Errorf("PureLiterals of MaxProblem constraints = %v", pure)
	}
}

func TestFailedLiterals(t *testing.T) {
	for _, x := range []struct {
		name string
		list []string
		want []int
	}{
		{"no constraints", nil, nil},
		{"trivial constraints", []string{">= 0", "1 x1 >= 0"}, nil},
		{"example", []string{"1 x1 1 x2 >= 1", "1 x1 1 ~x2 >= 1"}, []int{-1}},
		{"a variable", []string{"1 ~x5 >= 1"}, []int{5}},
		{"a variable and a negation", []string{"1 ~x5 >= 1", "1 x2 >= 1", "1 x12 >= 1"}, []int{-2, 5, -12}},
		{"none", []string{"1 x1 1 x2 >= 1", "1 ~x1 1 ~x2 >= 1"}, nil},
		{"both", []string{"1 x1 1 x2 >= 1", "1 x1 1 ~x2 >= 1", "1 ~x1 1 x2 >= 1", "1 ~x1 1 ~x2 >= 1"}, []int{1, -1, 2, -2}},
		{"not by one literal", []string{"1 x1 1 x2 1 x3 >= 1", "1 x1 1 x2 1 ~x3 >= 1"}, nil},
		{"through others", []string{"1 ~x1 1 x2 >= 1", "1 ~x2 1 x3 >= 1", "1 ~x1 1 ~x3 >= 1"}, []int{1}},
		{"through others, some of which fail too", []string{"1 ~x1 1 x2 >= 1", "1 ~x2 1 x3 >= 1", "1 ~x3 1 x4 >= 1", "1 ~x3 1 ~x4 >= 1"}, []int{1, 2, 3}},
		{"by coefficients", []string{"3 x1 2 x2 2 ~x3 >= 5"}, []int{-1}},
		{"a literal that does not occur", []string{"1 x1 >= 1", "1 ~x1 >= 1"}, literalsInOrder()},
		{"a false constraint", []string{"1 x1 >= 1", ">= 1"}, literalsInOrder()},
		{"no solution, but propagation does not find that out", pigeons(), []int{1, -1, 2, -2, 3, -3, 4, -4, 5, -5, 6, -6}},
	} {
		if failed := impl.FailedLiterals(readAll(t, x.list...)); !slices.Equal(failed, x.want) {
			t.Errorf("%s: FailedLiterals = %v", x.name, failed)
		}
	}
	full := fullProblem()
	full[0], full[impl.MaxProblem-1] = read(t, "1 x1 1 x2 >= 1"), read(t, "1 x1 1 ~x2 >= 1")
	if failed := impl.FailedLiterals(full); !slices.Equal(failed, []int{-1}) {
		t.Errorf("FailedLiterals of MaxProblem constraints = %v", failed)
	}
	if failed := impl.FailedLiterals(leaves()); len(failed) != 0 {
		t.Errorf("FailedLiterals of MaxProblem clauses = %v", failed)
	}
}

func TestLiteralsAreWhatTheDocumentSays(t *testing.T) {
	n := &numbers{state: 93}
	pureCount, failedCount := 0, 0
	for range 2500 {
		vars := n.between(1, 8)
		list := n.roughProblem(t, vars)
		pure, failed := impl.PureLiterals(list), impl.FailedLiterals(list)
		if !slices.Equal(pure, slowPure(list)) || !slices.Equal(failed, slowFailed(list)) {
			t.Fatalf("PureLiterals(%q) = %v, FailedLiterals = %v", impl.FormatProblem(list), pure, failed)
		}
		for bits := range 1 << vars {
			values := valuesOf(bits)
			if !satisfied(list, values) {
				continue
			}
			// Failed literals are false in all solutions, and pure ones can be made true in each.
			for _, lit := range failed {
				if max(lit, -lit) > vars || values[max(lit, -lit)-1] == (lit > 0) {
					t.Fatalf("the failed literal %d of %q is true in %v", lit, impl.FormatProblem(list), values)
				}
			}
			for _, lit := range pure {
				values[max(lit, -lit)-1] = lit > 0
			}
			if !satisfied(list, values) {
				t.Fatalf("the literals %v of %q cannot be made true", pure, impl.FormatProblem(list))
			}
		}
		pureCount += min(len(pure), 1)
		if len(failed) > 0 && len(failed) < 2*impl.MaxVars {
			failedCount++
		}
	}
	if pureCount < 500 || failedCount < 500 {
		t.Errorf("only %d problems have pure literals, and %d have failed ones", pureCount, failedCount)
	}
}

func TestSimplifyProblem(t *testing.T) {
	for _, x := range []struct {
		name string
		list []string
		want []string
		p    []int
	}{
		{"no constraints", nil, nil, nil},
		{"nothing to do", []string{"1 x1 1 x2 >= 1", "2 ~x1 1 x3 1 ~x12 >= 2"}, []string{"1 x1 1 x2 >= 1", "2 ~x1 1 x3 1 ~x12 >= 2"}, nil},
		{"trivial constraints", []string{">= 0", "1 x1 1 x2 >= 1", "1 x3 >= 0", ">= 0"}, []string{"1 x1 1 x2 >= 1"}, nil},
		{"only trivial constraints", []string{">= 0", "1 x1 >= 0"}, nil, nil},
		{"a constraint becomes trivial", []string{"1 x1 >= 1", "1 x1 1 x2 >= 1", "1 x3 1 x4 >= 1"}, []string{"1 x3 1 x4 >= 1"}, []int{1}},
		{"all constraints become trivial", []string{"1 ~x2 1 x3 >= 1", "1 ~x1 1 x2 >= 1", "2 x1 >= 1"}, nil, []int{1, 2, 3}},
		{"a bound becomes smaller", []string{"1 ~x12 >= 1", "2 x1 2 x2 2 x3 1 ~x12 >= 4"}, []string{"2 x1 2 x2 2 x3 >= 3"}, []int{-12}},
		{"a term is removed", []string{"1 x12 >= 1", "2 x1 2 x2 2 x3 1 ~x12 >= 4"}, []string{"2 x1 2 x2 2 x3 >= 4"}, []int{12}},
		{"a constraint implies a literal of its own", []string{"3 x1 1 x2 1 x3 >= 4"}, []string{"1 x2 1 x3 >= 1"}, []int{1}},
		{"coefficients are saturated", []string{"7 x1 2 ~x2 3 x3 >= 2"}, []string{"2 x1 2 ~x2 2 x3 >= 2"}, nil},
		{"coefficients are saturated by the smaller bound", []string{"1 x5 >= 1", "3 x1 2 x2 2 x5 >= 3"}, []string{"1 x1 1 x2 >= 1"}, []int{5}},
		{"two equal constraints, of which the last one remains", []string{"1 x1 1 x2 >= 1", "1 x3 1 x4 >= 1", "1 x1 1 x2 >= 1"}, []string{"1 x3 1 x4 >= 1", "1 x1 1 x2 >= 1"}, nil},
		{"constraints become equal by the values", []string{"1 x5 >= 1", "1 x1 1 x2 1 ~x5 >= 1", "1 x3 1 x4 >= 1", "1 x1 1 x2 1 x5 >= 2"}, []string{"1 x3 1 x4 >= 1", "1 x1 1 x2 >= 1"}, []int{5}},
		{"constraints become equal by saturation", []string{"5 x1 1 x2 >= 1", "1 x3 1 x4 >= 1", "1 x1 2 x2 >= 1"}, []string{"1 x3 1 x4 >= 1", "1 x1 1 x2 >= 1"}, nil},
		{"a constraint implies another one, but does not cover it", []string{"1 x1 1 x2 1 x3 >= 1", "9 x1 9 x2 >= 8"}, []string{"1 x1 1 x2 1 x3 >= 1", "8 x1 8 x2 >= 8"}, nil},
		{"a constraint covers another one only after saturation", []string{"9 x1 1 x2 1 x3 >= 2", "2 x1 1 x2 1 x3 1 x4 >= 2"}, []string{"2 x1 1 x2 1 x3 >= 2"}, nil},
		{"a constraint is covered only before saturation", []string{"3 x1 3 x2 >= 3", "9 x1 9 x2 >= 2"}, []string{"3 x1 3 x2 >= 3", "2 x1 2 x2 >= 2"}, nil},
		{"what is covered", []string{"1 x1 1 x2 1 x3 >= 1", "1 x1 1 x2 >= 1"}, []string{"1 x1 1 x2 >= 1"}, nil},
		{"no solution, but propagation does not find that out", pigeons(), pigeons(), nil},
	} {
		simple, p, ok := impl.SimplifyProblem(readAll(t, x.list...))
		checkProblem(t, x.name+": SimplifyProblem", simple, ok, x.want...)
		if !impl.PartialValid(p) || !slices.Equal(trueIn(p), x.p) {
			t.Errorf("%s: SimplifyProblem has the values %v", x.name, p)
		}
	}
}

func TestSimplifyProblemRefuses(t *testing.T) {
	for _, texts := range [][]string{
		{">= 1"}, {"1 x1 >= 2"}, {"1 x1 >= 1", "1 ~x1 >= 1"}, {">= 0", "1 x1 1 x2 >= 1", ">= 20000"},
		{"1 x1 1 x2 >= 2", "1 ~x1 1 x3 >= 1", "1 ~x2 1 ~x3 >= 1"}, {"1 ~x1 1 x2 >= 1", "1 ~x1 1 ~x2 >= 1", "3 x1 1 x4 1 x5 >= 3"},
	} {
		checkNotSimplified(t, "no solution, as propagation finds out", readAll(t, texts...))
	}
	full := leaves()
	full[impl.MaxProblem-1] = read(t, "1 x1 >= 2")
	checkNotSimplified(t, "the last of MaxProblem constraints is false", full)
}

func TestLimitsOfSimplifyProblem(t *testing.T) {
	for _, x := range []struct {
		name string
		list []impl.Constraint
		left int
		p    []int
	}{
		{"trivial constraints", fullProblem(), 0, nil},
		{"equal constraints", slices.Repeat(readAll(t, "7 x1 1 ~x12 >= 1"), impl.MaxProblem), 1, nil},
		{"nothing to do", leaves(), impl.MaxProblem, nil},
		{"a literal at the end", append(leaves()[:impl.MaxProblem-1], read(t, "1 ~x1 >= 1")), 200, []int{-1}},
		{"great numbers", append(leaves()[:impl.MaxProblem-1], overAllVars(impl.MaxCoef, impl.MaxCoef, true)), impl.MaxProblem, nil},
	} {
		simple, p, ok := impl.SimplifyProblem(x.list)
		want, _, _ := simplifySlowly(x.list)
		if !ok || len(x.list) != impl.MaxProblem || len(simple) != x.left || !sameProblem(simple, want) || !slices.Equal(trueIn(p), x.p) {
			t.Errorf("%s: SimplifyProblem of MaxProblem constraints = %d constraints, %v, %v", x.name, len(simple), p, ok)
		}
	}
}

// checkSimplified checks what the document promises for all values of the first variables.
func checkSimplified(t *testing.T, list []impl.Constraint, vars int) bool {
	t.Helper()
	want, wantP, wantOk := simplifySlowly(list)
	simple, p, ok := impl.SimplifyProblem(list)
	if ok != wantOk || !slices.Equal(p, wantP) || !sameProblem(simple, want) {
		t.Fatalf("SimplifyProblem(%q) = %q, %v, %v, not %q, %v", impl.FormatProblem(list), impl.FormatProblem(simple), p, ok, impl.FormatProblem(want), wantP)
	}
	if !ok {
		if solvable(list, vars) {
			t.Fatalf("SimplifyProblem refuses %q, which has a solution", impl.FormatProblem(list))
		}
		return false
	}
	for bits := range 1 << vars {
		values := valuesOf(bits)
		if satisfied(list, values) != (agrees(p[:vars], values) && satisfied(simple, values)) {
			t.Fatalf("SimplifyProblem(%q) = %q, %v, which is wrong for %v", impl.FormatProblem(list), impl.FormatProblem(simple), p, values)
		}
	}
	again, free, ok := impl.SimplifyProblem(simple)
	if !ok || !sameProblem(again, simple) || !slices.Equal(free, assign()) {
		t.Fatalf("SimplifyProblem(%q) is not the same: %q, %v, %v", impl.FormatProblem(simple), impl.FormatProblem(again), free, ok)
	}
	return len(simple) > 0
}

func TestSimplifiedProblemsHaveTheSameSolutions(t *testing.T) {
	n := &numbers{state: 94}
	left := 0
	for i := range 6000 {
		vars := n.between(1, 8)
		list := n.roughProblem(t, vars)
		for j := range list {
			list[j].Bound /= 1 + i%3
		}
		if checkSimplified(t, list, vars) {
			left++
		}
	}
	for range 100 {
		if checkSimplified(t, n.tightProblem(t, impl.MaxVars), impl.MaxVars) {
			left++
		}
	}
	if left < 1000 {
		t.Errorf("constraints are left in %d problems only", left)
	}
}

func TestClausesOf(t *testing.T) {
	for _, x := range []struct {
		name, text string
		want       []string
	}{
		{"example", "2 x1 1 x2 1 x3 >= 2", []string{"1 x1 1 x2 >= 1", "1 x1 1 x3 >= 1"}},
		{"without clauses", "2 x1 1 ~x2 >= 0", nil},
		{"without clauses and terms", ">= 0", nil},
		{"false", "2 x1 1 ~x2 >= 4", []string{">= 1"}},
		{"false without terms", ">= 1", []string{">= 1"}},
		{"false with the greatest bound", "1000 x1 >= 20000", []string{">= 1"}},
		{"a literal", "1 ~x12 >= 1", []string{"1 ~x12 >= 1"}},
		{"a literal with a coefficient", "7 ~x12 >= 3", []string{"1 ~x12 >= 1"}},
		{"a clause", "1 x1 1 ~x5 1 x12 >= 1", []string{"1 x1 1 ~x5 1 x12 >= 1"}},
		{"a clause with coefficients", "3 x1 4 ~x5 5 x12 >= 3", []string{"1 x1 1 ~x5 1 x12 >= 1"}},
		{"all literals", "1 x1 2 ~x5 3 x12 >= 6", []string{"1 x1 >= 1", "1 ~x5 >= 1", "1 x12 >= 1"}},
		{"two of three", "1 x2 1 ~x4 1 x6 >= 2", []string{"1 x2 1 ~x4 >= 1", "1 x2 1 x6 >= 1", "1 ~x4 1 x6 >= 1"}},
		{"two of four", "1 x1 1 x2 1 x3 1 x4 >= 2", []string{"1 x1 1 x2 1 x3 >= 1", "1 x1 1 x2 1 x4 >= 1", "1 x1 1 x3 1 x4 >= 1", "1 x2 1 x3 1 x4 >= 1"}},
		{"a longer clause before a shorter one", "1 x1 1 x2 1 x3 3 x4 >= 4", []string{"1 x1 1 x2 1 x3 >= 1", "1 x4 >= 1"}},
		{"a shorter clause before a longer one", "3 x1 1 x2 1 x3 1 x4 >= 4", []string{"1 x1 >= 1", "1 x2 1 x3 1 x4 >= 1"}},
		{"ordered by the terms, not by the variables", "1 ~x9 2 x10 3 ~x11 >= 4", []string{"1 ~x9 1 x10 >= 1", "1 ~x11 >= 1"}},
		{"literals that do not matter", "4 x1 4 x2 1 x3 >= 4", []string{"1 x1 1 x2 >= 1"}},
		{"a sum that equals the bound is no clause", "2 x1 2 x2 1 x3 >= 3", []string{"1 x1 1 x2 >= 1", "1 x1 1 x3 >= 1", "1 x2 1 x3 >= 1"}},
		{"the greatest coefficient", "1000 x1 1 x2 >= 1000", []string{"1 x1 >= 1"}},
	} {
		clauses, ok := impl.ClausesOf(read(t, x.text))
		checkProblem(t, x.name+": ClausesOf", clauses, ok, x.want...)
	}
	for _, c := range invalidConstraints() {
		clauses, ok := impl.ClausesOf(c)
		checkNoProblem(t, "ClausesOf", clauses, ok)
	}
}

func TestLimitOfClauses(t *testing.T) {
	for _, x := range []struct {
		c     impl.Constraint
		count int
	}{
		{weighted(19, 3, 4, 5, 2, 3, 5, 4, 3, 4, 3, 1, 2), impl.MaxProblem - 1},
		{weighted(18, 3, 3, 5, 4, 4, 4, 2, 1, 2, 2, 4, 3), impl.MaxProblem},
		{weighted(17, 1, 1, 2, 4, 2, 3, 4, 3, 4, 3, 3, 2), impl.MaxProblem},
		{weighted(14, 2, 3, 1, 2, 3, 3, 1, 3, 2, 3, 1, 3), impl.MaxProblem + 1},
		{weighted(7, 2, 2, 1, 1, 1, 2, 1, 2, 1, 2, 1, 1), impl.MaxProblem + 2},
		{overAllVars(1, 1, true), 1},
		{overAllVars(1, 2, true), 12},
		{overAllVars(1, 4, false), 220},
		{overAllVars(1, 5, false), 495},
		{overAllVars(1, 6, true), 792},
		{overAllVars(7, 43, false), 924},
		{overAllVars(1, 9, false), 495},
		{overAllVars(1, 10, true), 220},
		{overAllVars(impl.MaxCoef, 12000, true), 12},
		{overAllVars(impl.MaxCoef, impl.MaxBound, true), 1},
	} {
		want := slowClauses(x.c)
		if len(want) != x.count {
			t.Fatalf("%v has %d clauses", x.c, len(want))
		}
		clauses, ok := impl.ClausesOf(x.c)
		if x.count > impl.MaxProblem {
			checkNoProblem(t, "ClausesOf with too many clauses", clauses, ok)
		} else if !ok || !sameProblem(clauses, want) {
			t.Errorf("ClausesOf(%v) = %d clauses, %v", x.c, len(clauses), ok)
		}
	}
}

func TestClausesAreEquivalent(t *testing.T) {
	n := &numbers{state: 95}
	count := 0
	for i := range 3000 {
		vars := n.between(1, 8)
		c := n.smallConstraint(t, vars)
		if i%2 == 0 {
			c.Bound = impl.TotalCoef(c) * n.between(1, 6) / 6
		}
		clauses, ok := impl.ClausesOf(c)
		if !ok || !sameProblem(clauses, slowClauses(c)) {
			t.Fatalf("ClausesOf(%v) = %q, %v", c, impl.FormatProblem(clauses), ok)
		}
		for bits := range 1 << vars {
			values := valuesOf(bits)
			if (trueSum(c.Terms, values) >= c.Bound) != satisfied(clauses, values) {
				t.Fatalf("ClausesOf(%v) = %q, which is wrong for %v", c, impl.FormatProblem(clauses), values)
			}
		}
		count += len(clauses)
		// No literal can be left out of a clause.
		for _, clause := range clauses {
			for _, term := range clause.Terms {
				shorter, _ := impl.WeakenConstraint(clause, max(term.Lit, -term.Lit))
				shorter.Bound = 1
				if follows(c, shorter) {
					t.Fatalf("%v follows from %v, too", shorter, c)
				}
			}
		}
	}
	if count < 3000 {
		t.Errorf("there are only %d clauses", count)
	}
}

// follows reports whether all values that satisfy a satisfy b.
func follows(a, b impl.Constraint) bool {
	for bits := range 1 << impl.MaxVars {
		if values := valuesOf(bits); trueSum(a.Terms, values) >= a.Bound && trueSum(b.Terms, values) < b.Bound {
			return false
		}
	}
	return true
}

func TestPresolvingKeepsItsArguments(t *testing.T) {
	texts := []string{"1 x1 >= 1", "3 x1 2 x2 4 x3 >= 5", "1 x2 1 x3 >= 1", "9 x2 9 x3 >= 1", ">= 0", "1 x9 >= 1", "1 x10 >= 1"}
	for count := range len(texts) {
		whole, given := readAll(t, texts...), append(assign(2, -9), 7, 8)
		terms := append(whole[1].Terms, impl.Term{Coef: 8, Lit: 8})
		whole[1].Terms = terms[:3]
		list, p := whole[:count], given[:impl.MaxVars]
		impl.FixLiteral(list, 1)
		impl.FixLiteral(list, -3)
		impl.FixPartial(list, p)
		impl.RemoveCovered(list)
		impl.PureLiterals(list)
		impl.FailedLiterals(list)
		impl.SimplifyProblem(list)
		for _, c := range list {
			impl.ClausesOf(c)
		}
		if !sameProblem(whole, readAll(t, texts...)) || !slices.Equal(given, append(assign(2, -9), 7, 8)) || terms[3] != (impl.Term{Coef: 8, Lit: 8}) {
			t.Errorf("a function of %d constraints changes an argument", count)
		}
	}
}

func TestPresolvedProblemsShareNoMemory(t *testing.T) {
	texts := []string{"1 x1 1 x2 >= 1", "1 x1 1 x2 2 x3 >= 2", "1 x1 1 x2 2 x3 5 x4 >= 3", "1 x12 >= 1", ">= 0"}
	terms := append(read(t, texts[2]).Terms, impl.Term{Coef: 7, Lit: 7})
	list := readAll(t, texts...)
	for i := range 3 {
		list[i].Terms = terms[:len(list[i].Terms)]
	}
	for _, x := range []struct {
		name string
		use  func() ([]impl.Constraint, bool)
	}{
		{"FixLiteral", func() ([]impl.Constraint, bool) { return impl.FixLiteral(list, 12) }},
		{"FixLiteral of a variable that does not occur", func() ([]impl.Constraint, bool) { return impl.FixLiteral(list, -8) }},
		{"FixPartial", func() ([]impl.Constraint, bool) { return impl.FixPartial(list, assign(4, -5)) }},
		{"FixPartial without values", func() ([]impl.Constraint, bool) { return impl.FixPartial(list, assign()) }},
		{"RemoveCovered", func() ([]impl.Constraint, bool) { return impl.RemoveCovered(list) }},
		{"SimplifyProblem", func() ([]impl.Constraint, bool) {
			simple, _, ok := impl.SimplifyProblem(list)
			return simple, ok
		}},
		{"ClausesOf", func() ([]impl.Constraint, bool) { return impl.ClausesOf(list[2]) }},
	} {
		result, ok := x.use()
		if !ok || len(result) < 2 {
			t.Errorf("%s = %v, %v", x.name, result, ok)
		}
		checkOwnMemory(t, x.name, func() []impl.Constraint {
			result, _ := x.use()
			return result
		})
		if !sameProblem(list, readAll(t, texts...)) || terms[4] != (impl.Term{Coef: 7, Lit: 7}) {
			t.Fatalf("%s shares memory with its argument", x.name)
		}
	}
}

func TestPresolvedLiteralsShareNoMemory(t *testing.T) {
	list := readAll(t, "1 x1 >= 1", "1 x2 1 ~x3 >= 1", "1 ~x2 1 ~x5 >= 2")
	for i, use := range []func() []int{
		func() []int { return impl.PureLiterals(list) },
		func() []int { return impl.FailedLiterals(list) },
		func() []int {
			_, p, _ := impl.SimplifyProblem(list)
			return p
		},
	} {
		first, second := use(), use()
		third := slices.Clone(second)
		for j := range first[:cap(first)] {
			first[:cap(first)][j] = 99
		}
		if len(second) < 3 || !slices.Equal(second, third) || !slices.Equal(use(), third) {
			t.Errorf("two results of function %d share memory: %v, %v", i, second, third)
		}
	}
}
