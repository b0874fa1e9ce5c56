package tests

import (
	"math"
	"slices"
	"strconv"
	"strings"
	"testing"

	"loop.example/cuttingplanes/impl"
)

// slowValue is for as many coefficients as cells.
func slowValue(coefs, cells []int) int {
	value := 0
	for cell, coef := range coefs {
		for range cells[cell] {
			value += coef
		}
	}
	return value
}

// slowOptimum returns the first of the best solutions, or nil if there is none.
func slowOptimum(m impl.Model, coefs []int) []int {
	var best []int
	for _, cells := range modelSolutions(m) {
		if best == nil || slowValue(coefs, cells) < slowValue(coefs, best) {
			best = cells
		}
	}
	return best
}

// slowAtMost returns the text of the constraint that the value of an objective is at most a number.
func slowAtMost(sizes, coefs []int, most int) string {
	var text string
	bound := -most
	for cell, size := range sizes {
		for value := 1; value <= size; value++ {
			coef, variable := coefs[cell]*value, strconv.Itoa(slowVariable(sizes, cell, value))
			if coef > 0 {
				text += strconv.Itoa(coef) + " ~x" + variable + " "
				bound += coef
			} else if coef < 0 {
				text += strconv.Itoa(-coef) + " x" + variable + " "
			}
		}
	}
	return text + ">= " + strconv.Itoa(max(bound, 0)) + "\n"
}

// slowDecode is for values that are a solution of an encoding.
func slowDecode(sizes []int, values []bool) []int {
	var cells []int
	for cell, size := range sizes {
		for value := range size + 1 {
			if values[slowVariable(sizes, cell, value)-1] {
				cells = append(cells, value)
			}
		}
	}
	return cells
}

// slowProof has the result of ProveOptimum, and the number of rounds.
type slowProof struct {
	code   int
	cells  []int
	steps  []impl.Step
	rounds int
}

func proveSlowly(t *testing.T, m impl.Model, coefs []int, fuel int) slowProof {
	t.Helper()
	text, found := slowModel(m), slowProof{}
	for {
		found.rounds++
		list, ok := impl.ParseProblem(text)
		if !ok {
			t.Fatalf("%q is no problem", text)
		}
		s := solveSlowly(list, fuel)
		switch {
		case s.code == impl.SolveSat:
			found.cells = slowDecode(m.Sizes, s.values)
			text = slowModel(m) + slowAtMost(m.Sizes, coefs, slowValue(coefs, found.cells)-1)
			continue
		case s.code == impl.SolveUnsat && found.cells != nil:
			found.code, found.steps = impl.SolveSat, s.steps
		case s.code == impl.SolveUnsat:
			found.code, found.steps = impl.SolveUnsat, s.steps
		}
		return found
	}
}

func coefText(coefs []int) string {
	var words []string
	for _, coef := range coefs {
		words = append(words, strconv.Itoa(coef))
	}
	return strings.Join(words, " ")
}

// objective returns coefficients that are often 0, often equal, and often as great as possible.
func (n *numbers) objective(cells int) []int {
	coefs := make([]int, cells)
	most := []int{0, 1, 2, impl.MaxWeight, impl.MaxWeight}[n.between(0, 4)]
	for i := range coefs {
		coefs[i] = n.between(-most, most)
	}
	return coefs
}

func TestObjectiveValue(t *testing.T) {
	for _, x := range []struct {
		lines        string
		coefs, cells []int
		want         int
	}{
		{"sizes 0", []int{9}, []int{0}, 0},
		{"sizes 3", []int{9}, []int{3}, 27},
		{"sizes 3", []int{-9}, []int{3}, -27},
		{"sizes 3", []int{0}, []int{3}, 0},
		{"sizes 22", []int{3, -2}, []int{1, 2}, -1},
		{"sizes 22", []int{-2, 3}, []int{1, 2}, 4},
		{"sizes 22", []int{3, -2}, []int{0, 0}, 0},
		{"sizes 22\nless 01", []int{3, -2}, []int{2, 0}, 6},
		{"sizes 0102", []int{9, 1, 9, -4}, []int{0, 1, 0, 2}, -7},
		{"sizes 333", []int{9, 9, 9}, []int{3, 3, 3}, 81},
		{"sizes 333", []int{-9, -9, -9}, []int{3, 3, 3}, -81},
		{"sizes 11122", []int{1, 2, 3, 4, 5}, []int{1, 0, 1, 2, 1}, 17},
		{"sizes 11122", []int{0, 0, 0, 0, 0}, []int{1, 1, 1, 2, 2}, 0},
	} {
		m := readModel(t, x.lines)
		if got, ok := impl.ObjectiveValue(m, x.coefs, x.cells); !ok || got != x.want {
			t.Errorf("ObjectiveValue(%q, %v, %v) = %d, %v, not %d", x.lines, x.coefs, x.cells, got, ok, x.want)
		}
	}
}

func TestObjectiveValueRefusesCells(t *testing.T) {
	m := readModel(t, "sizes 21")
	for _, cells := range [][]int{nil, {}, {0}, {0, 0, 0}, {3, 0}, {0, 2}, {-1, 0}, {0, -1}, {math.MaxInt, 0}, {0, math.MinInt}, make([]int, 3000), make([]int, 0, 2)} {
		if got, ok := impl.ObjectiveValue(m, []int{1, 1}, cells); ok || got != 0 {
			t.Errorf("ObjectiveValue(%.80v) = %d, %v", cells, got, ok)
		}
		if impl.CheckOptimum(m, []int{0, 0}, cells, nil) {
			t.Errorf("CheckOptimum accepts the cells %.80v", cells)
		}
	}
}

// checkNoObjective checks that all functions refuse a model and coefficients. The cells are an optimum if nothing else is
// wrong.
func checkNoObjective(t *testing.T, name string, m impl.Model, coefs, cells []int) {
	t.Helper()
	if value, ok := impl.ObjectiveValue(m, coefs, cells); ok || value != 0 {
		t.Errorf("%s: ObjectiveValue(%.80v) = %d, %v", name, coefs, value, ok)
	}
	if best, ok := impl.MinimizeModel(m, coefs); ok || len(best) != 0 {
		t.Errorf("%s: MinimizeModel(%.80v) = %v, %v", name, coefs, best, ok)
	}
	for _, most := range []int{-1000, -1, 0, 1000} {
		c, ok := impl.AtMostConstraint(m, coefs, most)
		checkRefused(t, name+": AtMostConstraint", c, ok)
	}
	for _, fuel := range []int{0, 100, impl.MaxFuel} {
		if code, best, steps := impl.ProveOptimum(m, coefs, fuel); code != impl.SolveInvalid || len(best) != 0 || len(steps) != 0 {
			t.Errorf("%s: ProveOptimum(%.80v, %d) = %d, %v, %v", name, coefs, fuel, code, best, steps)
		}
	}
	for _, steps := range [][]impl.Step{nil, readSteps(t, "rup >= 1")} {
		if impl.CheckOptimum(m, coefs, cells, steps) {
			t.Errorf("%s: CheckOptimum(%.80v) accepts %v", name, coefs, cells)
		}
	}
	for _, d := range [][][]bool{likelyDomains(m.Sizes), nil} {
		if bound, ok := impl.LowerBound(m, coefs, d); ok || bound != 0 {
			t.Errorf("%s: LowerBound(%.80v, %.80v) = %d, %v", name, coefs, d, bound, ok)
		}
	}
}

// likelyDomains returns the full domains if the sizes are valid, and something of their form if not.
func likelyDomains(sizes []int) [][]bool {
	likely := make([]int, len(sizes))
	for cell, size := range sizes {
		likely[cell] = max(0, min(size, 10))
	}
	return fullDomains(likely)
}

// checkObjective checks that all functions accept a model without rules and coefficients with these cells as the optimum.
func checkObjective(t *testing.T, m impl.Model, coefs, cells []int) {
	t.Helper()
	want := slowValue(coefs, cells)
	if value, ok := impl.ObjectiveValue(m, coefs, cells); !ok || value != want {
		t.Errorf("%v: ObjectiveValue(%v) = %d, %v", m.Sizes, coefs, value, ok)
	}
	if best, ok := impl.MinimizeModel(m, coefs); !ok || !slices.Equal(best, cells) {
		t.Errorf("%v: MinimizeModel(%v) = %v, %v", m.Sizes, coefs, best, ok)
	}
	if c, ok := impl.AtMostConstraint(m, coefs, want-1); !ok || impl.FormatConstraint(c)+"\n" != slowAtMost(m.Sizes, coefs, want-1) {
		t.Errorf("%v: AtMostConstraint(%v, %d) = %s, %v", m.Sizes, coefs, want-1, impl.FormatConstraint(c), ok)
	}
	code, best, steps := impl.ProveOptimum(m, coefs, impl.MaxFuel)
	if code != impl.SolveSat || !slices.Equal(best, cells) || !impl.CheckOptimum(m, coefs, cells, steps) {
		t.Errorf("%v: ProveOptimum(%v) = %d, %v, %v, or CheckOptimum disagrees", m.Sizes, coefs, code, best, steps)
	}
	if bound, ok := impl.LowerBound(m, coefs, fullDomains(m.Sizes)); !ok || bound != want {
		t.Errorf("%v: LowerBound(%v) = %d, %v", m.Sizes, coefs, bound, ok)
	}
}

func TestLimitsOfObjectives(t *testing.T) {
	// All cells have their best values, so that mostly no proof is needed, or a short one.
	for _, x := range []struct {
		sizes, coefs, cells []int
		ok                  bool
	}{
		{[]int{1, 1}, []int{9, 9}, []int{0, 0}, true},
		{[]int{1, 1}, []int{9, -9}, []int{0, 1}, true},
		{[]int{1, 1}, []int{-9, 9}, []int{1, 0}, true},
		{[]int{1, 1}, []int{-9, -9}, []int{1, 1}, true},
		{[]int{1, 1}, []int{10, 1}, []int{0, 0}, false},
		{[]int{1, 1}, []int{1, 10}, []int{0, 0}, false},
		{[]int{1, 1}, []int{-10, 1}, []int{1, 0}, false},
		{[]int{1, 1}, []int{1, -10}, []int{0, 1}, false},
		{[]int{1, 1}, []int{math.MaxInt, 1}, []int{0, 0}, false},
		{[]int{1, 1}, []int{1, math.MinInt}, []int{0, 1}, false},
		{[]int{1, 1}, nil, []int{0, 0}, false},
		{[]int{1, 1}, []int{}, []int{0, 0}, false},
		{[]int{1, 1}, make([]int, 0, 2), []int{0, 0}, false},
		{[]int{1, 1}, []int{1}, []int{0, 0}, false},
		{[]int{1, 1}, []int{1, 1, 1}, []int{0, 0}, false},
		{[]int{1, 1}, []int{1, 1, 0}, []int{0, 0}, false},
		{[]int{1, 1}, make([]int, 3000), []int{0, 0}, false},
		{[]int{0}, []int{9}, []int{0}, true},
		{[]int{0}, []int{10}, []int{0}, false},
		{[]int{0}, nil, []int{0}, false},
		{[]int{3}, []int{-9}, []int{3}, true},
		{[]int{3}, []int{-10}, []int{3}, false},
		{[]int{3, 3, 3}, []int{9, 9, 9}, []int{0, 0, 0}, true},
		{[]int{3, 3, 3}, []int{-9, -9, -9}, []int{3, 3, 3}, true},
		{[]int{3, 3, 3}, []int{-9, -9, -10}, []int{3, 3, 3}, false},
		{[]int{1, 1, 1, 2, 2}, []int{1, 2, 3, 4, 9}, []int{0, 0, 0, 0, 0}, true},
		{[]int{1, 1, 1, 2, 2}, []int{1, 2, 3, 4, 10}, []int{0, 0, 0, 0, 0}, false},
		{[]int{1, 1, 1, 2, 2}, []int{1, 2, 3, 4}, []int{0, 0, 0, 0, 0}, false},
	} {
		if x.ok {
			checkObjective(t, modelOf(x.sizes), x.coefs, x.cells)
		} else {
			checkNoObjective(t, "no objective", modelOf(x.sizes), x.coefs, x.cells)
		}
	}
}

func TestObjectivesOfInvalidModels(t *testing.T) {
	for _, x := range invalidModels() {
		cells := make([]int, len(x.m.Sizes))
		checkNoObjective(t, x.name, x.m, make([]int, len(x.m.Sizes)), cells)
		checkNoObjective(t, x.name, x.m, slices.Repeat([]int{1}, len(x.m.Sizes)), cells)
		checkNoObjective(t, x.name, x.m, []int{10}, cells)
	}
}

func TestMinimizeModel(t *testing.T) {
	for _, x := range []struct {
		lines string
		coefs []int
		want  string
	}{
		{"sizes 0", []int{0}, "0"},
		{"sizes 0", []int{-9}, "0"},
		{"sizes 3", []int{1}, "0"},
		{"sizes 3", []int{-1}, "3"},
		{"sizes 3\nlinear 1 0 >= 2", []int{1}, "2"},
		{"sizes 3\nlinear -1 0 >= -2", []int{-1}, "2"},
		{"sizes 3\ntable 0 2 1", []int{0}, "1"},
		{"sizes 22\nless 01", []int{1, 1}, "01"},
		{"sizes 22\nless 01", []int{1, -1}, "02"},
		{"sizes 22\nless 01", []int{-1, 1}, "01"},
		{"sizes 22\nless 01", []int{-2, 1}, "12"},
		{"sizes 22\nless 10", []int{-1, 1}, "20"},
		{"sizes 22\nless 10", []int{1, 1}, "10"},
		{"sizes 22\ndifferent 01", []int{1, 1}, "01"},
		{"sizes 22\ndifferent 01", []int{-1, -1}, "12"},
		{"sizes 22\ndifferent 01", []int{1, -2}, "02"},
		{"sizes 222\ndifferent 012", []int{-1, 2, -1}, "102"},
		{"sizes 222\ndifferent 012", []int{0, 2, 0}, "102"},
		{"sizes 222\ndifferent 012", []int{9, 8, 7}, "012"},
		{"sizes 222\ndifferent 012", []int{7, 8, 9}, "210"},
		{"sizes 11122\nlinear 1 0 1 1 1 2 1 3 1 4 >= 5", []int{1, 1, 1, 1, 1}, "00122"},
		{"sizes 11122\nlinear 1 0 1 1 1 2 1 3 1 4 >= 5", []int{1, 2, 3, 4, 5}, "11120"},
		// All solutions have the same value: the first one is the first optimum.
		{"sizes 22\nless 01", []int{0, 0}, "01"},
		{"sizes 333", []int{0, 0, 0}, "000"},
		{"sizes 33\nlinear 1 0 1 1 >= 3\nlinear -1 0 -1 1 >= -3", []int{5, 5}, "03"},
		{"sizes 33\nlinear 1 0 1 1 >= 3\nlinear -1 0 -1 1 >= -3", []int{-5, -5}, "03"},
		{"sizes 22\ntable 01 20 11 02", []int{1, 1}, "02"},
		{"sizes 22\ntable 01 20 11 02", []int{-1, -1}, "02"},
		// There are no solutions.
		{"sizes 00\nless 01", []int{1, 1}, ""},
		{"sizes 00\nless 01", []int{0, 0}, ""},
		{"sizes 22\nless 01\nless 10", []int{-1, 2}, ""},
		{"sizes 2222\ndifferent 0123", []int{1, 1, 1, 1}, ""},
		{"sizes 3\ntable 0", []int{-9}, ""},
		{"sizes 3\nlinear 1 0 >= 4", []int{1}, ""},
	} {
		best, ok := impl.MinimizeModel(readModel(t, x.lines), x.coefs)
		if ok != (x.want != "") || digitText(best) != x.want {
			t.Errorf("MinimizeModel(%q, %v) = %v, %v, not %q", x.lines, x.coefs, best, ok, x.want)
		}
	}
}

func TestMinimizeModelFindsTheFirstOptimum(t *testing.T) {
	n := &numbers{state: 29}
	several, tied := 0, 0
	for range 3000 {
		m := n.model(3)
		coefs := n.objective(len(m.Sizes))
		want := slowOptimum(m, coefs)
		if best, ok := impl.MinimizeModel(m, coefs); ok != (want != nil) || !slices.Equal(best, want) {
			t.Errorf("MinimizeModel(%q, %v) = %v, %v, not %v", impl.FormatModel(m), coefs, best, ok, want)
		}
		solutions := modelSolutions(m)
		for _, cells := range solutions {
			if value, ok := impl.ObjectiveValue(m, coefs, cells); !ok || value != slowValue(coefs, cells) {
				t.Errorf("ObjectiveValue(%q, %v, %v) = %d, %v", impl.FormatModel(m), coefs, cells, value, ok)
			}
		}
		if len(solutions) > 1 {
			several++
		}
		if optima := slices.DeleteFunc(solutions, func(cells []int) bool { return slowValue(coefs, cells) > slowValue(coefs, want) }); len(optima) > 1 {
			tied++
		}
	}
	if several < 1000 || tied < 500 || several-tied < 500 {
		t.Errorf("the cases are one-sided: %d, %d", several, tied)
	}
}

func TestAtMostConstraint(t *testing.T) {
	for _, x := range []struct {
		lines string
		coefs []int
		most  int
		want  string
	}{
		{"sizes 22\nless 01", []int{1, 1}, 2, "1 ~x2 2 ~x3 1 ~x5 2 ~x6 >= 4"},
		{"sizes 22", []int{1, 1}, 6, "1 ~x2 2 ~x3 1 ~x5 2 ~x6 >= 0"},
		{"sizes 22", []int{1, 1}, 7, "1 ~x2 2 ~x3 1 ~x5 2 ~x6 >= 0"},
		{"sizes 22", []int{1, 1}, 5, "1 ~x2 2 ~x3 1 ~x5 2 ~x6 >= 1"},
		{"sizes 22", []int{1, 1}, -1, "1 ~x2 2 ~x3 1 ~x5 2 ~x6 >= 7"},
		{"sizes 22", []int{1, -1}, 2, "1 ~x2 2 ~x3 1 x5 2 x6 >= 1"},
		{"sizes 22", []int{-3, 2}, -1, "3 x2 6 x3 2 ~x5 4 ~x6 >= 7"},
		{"sizes 22", []int{0, -2}, -1, "2 x5 4 x6 >= 1"},
		{"sizes 22", []int{2, 0}, -1, "2 ~x2 4 ~x3 >= 7"},
		{"sizes 22", []int{0, 0}, -1, ">= 1"},
		{"sizes 22", []int{0, 0}, 0, ">= 0"},
		{"sizes 22", []int{0, 0}, 1, ">= 0"},
		{"sizes 0", []int{9}, -3, ">= 3"},
		{"sizes 0102", []int{9, 1, -9, -4}, 0, "1 ~x3 4 x6 8 x7 >= 1"},
		{"sizes 11122", []int{1, -2, 3, -4, 5}, 6, "1 ~x2 2 x4 3 ~x6 4 x8 8 x9 5 ~x11 10 ~x12 >= 13"},
		{"sizes 333", []int{9, 9, 9}, 1000, "9 ~x2 18 ~x3 27 ~x4 9 ~x6 18 ~x7 27 ~x8 9 ~x10 18 ~x11 27 ~x12 >= 0"},
		{"sizes 333", []int{9, 9, 9}, -1000, "9 ~x2 18 ~x3 27 ~x4 9 ~x6 18 ~x7 27 ~x8 9 ~x10 18 ~x11 27 ~x12 >= 1162"},
		{"sizes 333", []int{-9, -9, -9}, -1000, "9 x2 18 x3 27 x4 9 x6 18 x7 27 x8 9 x10 18 x11 27 x12 >= 1000"},
		{"sizes 333", []int{-9, -9, -9}, 1000, "9 x2 18 x3 27 x4 9 x6 18 x7 27 x8 9 x10 18 x11 27 x12 >= 0"},
	} {
		c, ok := impl.AtMostConstraint(readModel(t, x.lines), x.coefs, x.most)
		checkResult(t, "AtMostConstraint("+x.lines+", "+coefText(x.coefs)+", "+strconv.Itoa(x.most)+")", c, ok, x.want)
	}
	for _, most := range []int{-1001, 1001, math.MinInt, math.MaxInt} {
		for _, coefs := range [][]int{{1, 1}, {-9, 9}, {0, 0}} {
			c, ok := impl.AtMostConstraint(readModel(t, "sizes 22"), coefs, most)
			checkRefused(t, "AtMostConstraint("+strconv.Itoa(most)+")", c, ok)
		}
	}
}

// TestAtMostConstraintHoldsUpToTheNumber compares it with the definition, with the normal form of its terms, and with the
// values of the objective.
func TestAtMostConstraintHoldsUpToTheNumber(t *testing.T) {
	n := &numbers{state: 30}
	for range 1000 {
		m := n.model(2)
		coefs := n.objective(len(m.Sizes))
		most := n.between(-30, 30)
		if n.between(0, 9) == 0 {
			most = n.between(-impl.MaxCoef, impl.MaxCoef)
		}
		c, ok := impl.AtMostConstraint(m, coefs, most)
		if want := slowAtMost(m.Sizes, coefs, most); !ok || impl.FormatConstraint(c)+"\n" != want {
			t.Errorf("AtMostConstraint(%q, %v, %d) = %s, %v, not %s", impl.FormatModel(m), coefs, most, impl.FormatConstraint(c), ok, want)
		}
		var terms []impl.Term
		for cell, size := range m.Sizes {
			for value := range size + 1 {
				terms = append(terms, impl.Term{Coef: -coefs[cell] * value, Lit: impl.BoolVar(m, cell, value)})
			}
		}
		if normal, ok := impl.NormalForm(terms, -most); !ok || !impl.ConstraintSame(c, normal) {
			t.Errorf("AtMostConstraint(%q, %v, %d) = %s is not the normal form", impl.FormatModel(m), coefs, most, impl.FormatConstraint(c))
		}
		for _, cells := range modelCells(m.Sizes) {
			values, _ := impl.EncodeCells(m, cells)
			if impl.EvalConstraint(c, values) != (slowValue(coefs, cells) <= most) {
				t.Errorf("AtMostConstraint(%q, %v, %d) = %s is wrong for %v", impl.FormatModel(m), coefs, most, impl.FormatConstraint(c), cells)
			}
		}
	}
}

func checkProved(t *testing.T, lines string, coefs []int, fuel int, code int, cells string, proof string) {
	t.Helper()
	m := readModel(t, lines)
	gotCode, gotCells, steps := impl.ProveOptimum(m, coefs, fuel)
	if gotCode != code || digitText(gotCells) != cells || impl.FormatProof(steps) != proof || (proof == "") != (len(steps) == 0) {
		t.Errorf("ProveOptimum(%q, %v, %d) = %d, %v, %q, not %d, %s, %q", lines, coefs, fuel, gotCode, gotCells, impl.FormatProof(steps), code, cells, proof)
	}
	if code == impl.SolveSat != impl.CheckOptimum(m, coefs, gotCells, steps) {
		t.Errorf("ProveOptimum(%q, %v, %d) = %d, %v, and CheckOptimum disagrees", lines, coefs, fuel, code, gotCells)
	}
}

func TestProveOptimumFindsOptima(t *testing.T) {
	const one, two = "rup >= 1\n", "rup 1 ~x1 >= 1\nrup 1 x1 1 ~x2 >= 1\nrup 1 x1 1 x2 >= 1\nrup 1 x1 >= 1\nrup >= 1\n"
	for _, x := range []struct {
		lines string
		coefs []int
		fuel  int
		cells string
		proof string
	}{
		{"sizes 0", []int{1}, 12, "0", one},
		{"sizes 3", []int{9}, 10, "0", one},
		{"sizes 3\nlinear 1 0 >= 2", []int{1}, 14, "2", one},
		{"sizes 22\nless 01", []int{1, 1}, 9, "01", one},
		// The best solution is not the first one that is found.
		{"sizes 3", []int{-1}, 14, "3", one},
		{"sizes 22\nless 01", []int{1, -1}, 9, "02", one},
		{"sizes 22\nless 01", []int{-3, 2}, 10, "12", two},
		{"sizes 222\ndifferent 012", []int{-1, 2, -1}, 7, "102", two},
		// All solutions are optima, and the first one that is found remains.
		{"sizes 0", []int{0}, 12, "0", one},
		{"sizes 3", []int{0}, 10, "0", one},
		{"sizes 22\nless 01", []int{0, 0}, 9, "01", one},
		{"sizes 22\nlinear -1 0 >= -1\nlinear 1 0 >= 1", []int{0, 0}, 8, "10", one},
	} {
		checkProved(t, x.lines, x.coefs, impl.MaxFuel, impl.SolveSat, x.cells, x.proof)
		checkProved(t, x.lines, x.coefs, x.fuel, impl.SolveSat, x.cells, x.proof)
		if code, _, steps := impl.ProveOptimum(readModel(t, x.lines), x.coefs, x.fuel-1); code != impl.SolveMuch || len(steps) != 0 {
			t.Errorf("ProveOptimum(%q, %v, %d) = %d, %v", x.lines, x.coefs, x.fuel-1, code, steps)
		}
	}
}

func TestProveOptimumOfModelsWithoutSolutions(t *testing.T) {
	for _, x := range []struct {
		lines string
		fuel  int
		proof string
	}{
		{"sizes 00\nless 01", 1, "rup >= 1\n"},
		{"sizes 3\nlinear 1 0 >= 4", 1, "rup >= 1\n"},
		{"sizes 2222\ndifferent 0123", 11, "rup 1 ~x1 1 ~x5 >= 1\nrup 1 ~x1 1 x5 >= 1\nrup 1 ~x1 >= 1\nrup 1 x1 1 ~x2 1 ~x4 >= 1\nrup 1 x1 1 ~x2 1 x4 >= 1\n" +
			"rup 1 x1 1 ~x2 >= 1\nrup 1 x1 1 x2 1 ~x4 >= 1\nrup 1 x1 1 x2 1 x4 >= 1\nrup 1 x1 1 x2 >= 1\nrup 1 x1 >= 1\nrup >= 1\n"},
		{"sizes 11\nless 01\nless 10", 3, "rup 1 ~x1 >= 1\nrup 1 x1 >= 1\nrup >= 1\n"},
		{"sizes 11\ntable 01", 3, "rup 1 ~x1 >= 1\nrup 1 x1 >= 1\nrup >= 1\n"},
	} {
		m := readModel(t, x.lines)
		list, _ := impl.EncodeModel(m)
		for _, coef := range []int{0, 1, -9} {
			coefs := slices.Repeat([]int{coef}, len(m.Sizes))
			code, cells, steps := impl.ProveOptimum(m, coefs, impl.MaxFuel)
			if code != impl.SolveUnsat || len(cells) != 0 || len(steps) == 0 || !impl.CheckRefutation(list, steps) {
				t.Errorf("ProveOptimum(%q, %v) = %d, %v, %q", x.lines, coefs, code, cells, impl.FormatProof(steps))
			}
			for _, cells := range modelCells(m.Sizes) {
				if impl.CheckOptimum(m, coefs, cells, steps) {
					t.Errorf("CheckOptimum(%q, %v) accepts %v", x.lines, coefs, cells)
				}
			}
			_, _, other := impl.SolveProblem(list, impl.MaxFuel)
			if !impl.ProofSame(steps, other) {
				t.Errorf("ProveOptimum(%q, %v) has another refutation than SolveProblem", x.lines, coefs)
			}
		}
		coefs := slices.Repeat([]int{1}, len(m.Sizes))
		checkProved(t, x.lines, coefs, x.fuel, impl.SolveUnsat, "", x.proof)
		checkProved(t, x.lines, coefs, x.fuel-1, impl.SolveMuch, "", "")
		checkProved(t, x.lines, coefs, 0, impl.SolveMuch, "", "")
	}
}

func TestProveOptimumWithLittleFuel(t *testing.T) {
	for _, x := range []struct {
		lines string
		coefs []int
		fuel  int
		cells string
	}{
		{"sizes 3", []int{-1}, 0, ""},
		{"sizes 3", []int{-1}, 9, ""},
		{"sizes 3", []int{-1}, 10, "0"},
		{"sizes 3", []int{-1}, 11, "0"},
		{"sizes 3", []int{-1}, 12, "1"},
		{"sizes 3", []int{-1}, 13, "1"},
		{"sizes 22\nless 01", []int{-3, 2}, 8, ""},
		{"sizes 22\nless 01", []int{-3, 2}, 9, "01"},
		{"sizes 333\nless 01\nless 12", []int{-1, 2, -1}, 3, ""},
		// The solution is an optimum, but that is not proved.
		{"sizes 333\nless 01\nless 12", []int{-1, 2, -1}, 4, "013"},
		{"sizes 333\nless 01\nless 12", []int{-1, 2, -1}, 8, "013"},
		{"sizes 222\ndifferent 012", []int{-1, 2, -1}, 5, ""},
		{"sizes 222\ndifferent 012", []int{-1, 2, -1}, 6, "012"},
	} {
		checkProved(t, x.lines, x.coefs, x.fuel, impl.SolveMuch, x.cells, "")
	}
	checkProved(t, "sizes 333\nless 01\nless 12", []int{-1, 2, -1}, 9, impl.SolveSat, "013",
		"rup 1 ~x1 1 ~x6 >= 1\nrup 1 ~x1 1 x6 >= 1\nrup 1 ~x1 >= 1\nrup 1 x1 1 ~x2 >= 1\nrup 1 x1 1 x2 1 ~x3 >= 1\nrup 1 x1 1 x2 1 x3 >= 1\n"+
			"rup 1 x1 1 x2 >= 1\nrup 1 x1 >= 1\nrup >= 1\n")
}

func TestLimitsOfFuelForOptima(t *testing.T) {
	for _, fuel := range notFuels() {
		for _, lines := range []string{"sizes 22\nless 01", "sizes 00\nless 01", "sizes 333", "sizes 2222\n" + wideRules + "\ntable 0123"} {
			m := readModel(t, lines)
			for _, coef := range []int{0, 1, -9, 10} {
				checkProved(t, lines, slices.Repeat([]int{coef}, len(m.Sizes)), fuel, impl.SolveInvalid, "", "")
			}
		}
	}
}

func TestLimitOfConstraintsForOptima(t *testing.T) {
	// The solutions are 0000, 0001 and 0002. The search finds them in this order, so that four rounds are needed.
	rules := "sizes 2222\n" + strings.Repeat("table 0123 0000 0001 0002\n", 4) + strings.Repeat("table 012 000\n", 3)
	for _, x := range []struct {
		last  string
		count int
	}{
		{"table 01 00 01 02 10 11 12 20 21", 399},
		{"table 01 00 01 02 10 11 12 20", 400},
		{"table 01 00 01 02 10 11 12", 401},
	} {
		m := readModel(t, rules+x.last)
		list, encoded := impl.EncodeModel(m)
		if encoded != (x.count <= impl.MaxProblem) || encoded && len(list) != x.count {
			t.Fatalf("%s: the model has %d constraints, %v", x.last, len(list), encoded)
		}
		coefs, cells := []int{1, -1, 2, -1}, []int{0, 0, 0, 2}
		few := x.count < impl.MaxProblem
		code, best, steps := impl.ProveOptimum(m, coefs, impl.MaxFuel)
		if few && (code != impl.SolveSat || !slices.Equal(best, cells) || len(steps) == 0) {
			t.Errorf("%d constraints: ProveOptimum = %d, %v, %v", x.count, code, best, steps)
		}
		if !few && (code != impl.SolveInvalid || len(best) != 0 || len(steps) != 0) {
			t.Errorf("%d constraints: ProveOptimum = %d, %v, %v", x.count, code, best, steps)
		}
		if !few {
			steps = readSteps(t, "rup >= 1")
		}
		if impl.CheckOptimum(m, coefs, cells, steps) != few || impl.CheckOptimum(m, []int{0, 0, 0, 0}, cells, nil) != few {
			t.Errorf("%d constraints: CheckOptimum is wrong", x.count)
		}
		// The limit is one of these two functions only.
		c, atMost := impl.AtMostConstraint(m, coefs, 0)
		value, valued := impl.ObjectiveValue(m, coefs, cells)
		bound, bounded := impl.LowerBound(m, coefs, fullDomains(m.Sizes))
		if best, ok := impl.MinimizeModel(m, coefs); !ok || !slices.Equal(best, cells) || !atMost || len(c.Terms) != 8 || !valued || value != -2 || !bounded || bound != -4 {
			t.Errorf("%d constraints: MinimizeModel = %v, %v, or another function fails", x.count, best, ok)
		}
	}
	for _, x := range []struct {
		last string
		code int
	}{
		{"table 01 00 11 22 02 21", impl.SolveUnsat},
		{"table 01 00 11 22 02", impl.SolveInvalid},
		{"table 01 00 11 22", impl.SolveInvalid},
	} {
		m := readModel(t, "sizes 2222", wideRules, x.last)
		if code, cells, steps := impl.ProveOptimum(m, []int{1, 1, 1, 1}, impl.MaxFuel); code != x.code || len(cells) != 0 || (len(steps) > 0) != (code == impl.SolveUnsat) {
			t.Errorf("%s: ProveOptimum = %d, %v, %v", x.last, code, cells, steps)
		}
	}
}

func checkAgainstSlowProof(t *testing.T, m impl.Model, coefs []int, fuel int) slowProof {
	t.Helper()
	want := proveSlowly(t, m, coefs, fuel)
	code, cells, steps := impl.ProveOptimum(m, coefs, fuel)
	if code != want.code || !slices.Equal(cells, want.cells) || !impl.ProofSame(steps, want.steps) {
		t.Errorf("ProveOptimum(%q, %v, %d) = %d, %v, %q, not %d, %v, %q", impl.FormatModel(m), coefs, fuel,
			code, cells, impl.FormatProof(steps), want.code, want.cells, impl.FormatProof(want.steps))
	}
	return want
}

func TestProofsOfOptimaAreWhatTheDocumentSays(t *testing.T) {
	n := &numbers{state: 31}
	var seen struct{ optimum, unsolved, early, earlyWithout, several int }
	for range 300 {
		m := n.model(3)
		coefs := n.objective(len(m.Sizes))
		for _, fuel := range []int{impl.MaxFuel, n.between(0, 15), n.between(8, 14), n.between(8, 20)} {
			switch found := checkAgainstSlowProof(t, m, coefs, fuel); {
			case found.code == impl.SolveSat && found.rounds > 2:
				seen.several++
			case found.code == impl.SolveSat:
				seen.optimum++
			case found.code == impl.SolveUnsat:
				seen.unsolved++
			case found.cells != nil:
				seen.early++
			default:
				seen.earlyWithout++
			}
		}
	}
	if min(seen.optimum, seen.unsolved, seen.early, seen.earlyWithout, seen.several) < 30 {
		t.Errorf("the cases are one-sided: %+v", seen)
	}
}

func TestCheckOptimum(t *testing.T) {
	full := idleSteps(impl.MaxSteps)
	for _, x := range []struct {
		lines        string
		coefs, cells []int
		steps        []impl.Step
		want         bool
	}{
		// No proof is needed where the constraint that the value is less is false by itself.
		{"sizes 3", []int{1}, []int{0}, nil, true},
		{"sizes 3", []int{1}, []int{1}, nil, false},
		{"sizes 3", []int{-1}, []int{3}, nil, false},
		{"sizes 3", []int{-1}, []int{3}, readSteps(t, "rup >= 1"), true},
		{"sizes 3", []int{-1}, []int{2}, readSteps(t, "rup >= 1"), false},
		{"sizes 1", []int{-1}, []int{1}, nil, true},
		{"sizes 1", []int{-1}, []int{0}, nil, false},
		{"sizes 3", []int{1}, []int{0}, full, true},
		{"sizes 3", []int{1}, []int{0}, append(full, full[0]), false},
		{"sizes 3", []int{1}, []int{0}, readSteps(t, "delete 0"), true},
		{"sizes 3", []int{1}, []int{0}, readSteps(t, "delete 2"), false},
		{"sizes 3", []int{1}, []int{0}, readSteps(t, "rup >= 1", "delete 2"), true},
		{"sizes 3", []int{1}, []int{0}, readSteps(t, "delete 3"), false},
		{"sizes 3", []int{1}, []int{0}, []impl.Step{{}}, false},
		// All solutions are optima.
		{"sizes 22\nless 01", []int{0, 0}, []int{0, 1}, nil, true},
		{"sizes 22\nless 01", []int{0, 0}, []int{0, 2}, nil, true},
		{"sizes 22\nless 01", []int{0, 0}, []int{1, 2}, readSteps(t, "rup >= 1"), true},
		{"sizes 22\nless 01", []int{0, 0}, []int{1, 1}, nil, false},
		{"sizes 22\nless 01", []int{0, 0}, []int{2, 1}, readSteps(t, "rup >= 1"), false},
		{"sizes 22\nless 01", []int{0, 0}, []int{0, 3}, nil, false},
		// A proof is needed.
		{"sizes 22\nless 01", []int{1, 1}, []int{0, 1}, nil, false},
		{"sizes 22\nless 01", []int{1, 1}, []int{0, 1}, readSteps(t, "rup >= 1"), true},
		{"sizes 22\nless 01", []int{1, 1}, []int{0, 1}, readSteps(t, "literal x1"), false},
		{"sizes 22\nless 01", []int{1, 1}, []int{0, 1}, readSteps(t, "rup >= 1", "rup >= 1", "literal x1"), true},
		{"sizes 22\nless 01", []int{1, 1}, []int{0, 1}, readSteps(t, "rup >= 1", "delete 11"), false},
		{"sizes 22\nless 01", []int{1, 1}, []int{0, 1}, readSteps(t, "delete 10", "rup >= 1"), false},
		{"sizes 22\nless 01", []int{1, 1}, []int{0, 1}, readSteps(t, "rup >= 1", "delete 10"), true},
		{"sizes 22\nless 01", []int{1, 1}, []int{0, 2}, readSteps(t, "rup >= 1"), false},
		{"sizes 22\nless 01", []int{1, 1}, []int{1, 2}, readSteps(t, "rup >= 1"), false},
		{"sizes 22\nless 01", []int{1, 1}, []int{0, 0}, readSteps(t, "rup >= 1"), false},
		{"sizes 22\nless 01", []int{1, 1}, []int{0, 0}, nil, false},
		{"sizes 22\nless 01", []int{1, 1}, nil, readSteps(t, "rup >= 1"), false},
		{"sizes 22\nless 01", []int{1, -1}, []int{0, 2}, readSteps(t, "rup >= 1"), true},
		{"sizes 22\nless 01", []int{1, -1}, []int{0, 1}, readSteps(t, "rup >= 1"), false},
		{"sizes 22\nless 01", []int{-3, 2}, []int{1, 2}, readSteps(t, "rup >= 1"), false},
		{"sizes 22\nless 01", []int{-3, 2}, []int{1, 2}, readSteps(t, "rup 1 ~x1 >= 1", "rup 1 ~x2 >= 1", "rup >= 1"), true},
		// Another optimum than the first one is accepted too.
		{"sizes 22\ndifferent 01", []int{1, 1}, []int{1, 0}, readSteps(t, "rup >= 1"), true},
		{"sizes 22\ndifferent 01", []int{1, 1}, []int{0, 1}, readSteps(t, "rup >= 1"), true},
		{"sizes 22\ndifferent 01", []int{1, 1}, []int{2, 0}, readSteps(t, "rup >= 1"), false},
		// There are no solutions.
		{"sizes 00\nless 01", []int{1, 1}, []int{0, 0}, readSteps(t, "rup >= 1"), false},
		{"sizes 00\nless 01", []int{0, 0}, []int{0, 0}, nil, false},
	} {
		if got := impl.CheckOptimum(readModel(t, x.lines), x.coefs, x.cells, x.steps); got != x.want {
			t.Errorf("CheckOptimum(%q, %v, %v, %.80q) = %v", x.lines, x.coefs, x.cells, impl.FormatProof(x.steps), got)
		}
	}
}

// TestCheckedOptimaAreNotBeaten checks promise 9, for the proofs of optima and for what is left of them when a step is taken
// out, deleted again or exchanged for a step of another proof.
func TestCheckedOptimaAreNotBeaten(t *testing.T) {
	n := &numbers{state: 32}
	var accepted, refused, weakened int
	other := readSteps(t, "rup >= 1")
	for range 400 {
		m := n.model(3)
		coefs := n.objective(len(m.Sizes))
		code, _, steps := impl.ProveOptimum(m, coefs, impl.MaxFuel)
		best := slowOptimum(m, coefs)
		if code != impl.SolveSat && code != impl.SolveUnsat || (code == impl.SolveSat) != (best != nil) || len(steps) == 0 {
			t.Errorf("ProveOptimum(%q, %v) = %d, but the optimum is %v", impl.FormatModel(m), coefs, code, best)
			continue
		}
		optimal := func(cells []int) bool {
			broken := func(r impl.Rule) bool { return !holdsSlowly(r, cells) }
			return best != nil && !slices.ContainsFunc(m.Rules, broken) && slowValue(coefs, cells) <= slowValue(coefs, best)
		}
		at := n.between(0, len(steps)-1)
		proofs := [][]impl.Step{steps, slices.Delete(slices.Clone(steps), at, at+1), slices.Concat(steps[:at], other), other, nil}
		for _, cells := range modelCells(m.Sizes) {
			if got := impl.CheckOptimum(m, coefs, cells, steps); got != optimal(cells) {
				t.Errorf("CheckOptimum(%q, %v, %v) = %v", impl.FormatModel(m), coefs, cells, got)
			}
			for i, proof := range proofs {
				switch {
				case !impl.CheckOptimum(m, coefs, cells, proof):
					refused++
				case !optimal(cells):
					t.Errorf("CheckOptimum(%q, %v, %v) accepts %q", impl.FormatModel(m), coefs, cells, impl.FormatProof(proof))
				case i > 0:
					weakened++
				default:
					accepted++
				}
			}
		}
		other = steps
	}
	if min(accepted, refused, weakened) < 200 {
		t.Errorf("the cases are one-sided: %d, %d, %d", accepted, refused, weakened)
	}
}

func TestLowerBound(t *testing.T) {
	for _, x := range []struct {
		lines string
		coefs []int
		d     string
		want  int
	}{
		{"sizes 22\nless 01", []int{3, -2}, "111 111", -4},
		{"sizes 22", []int{3, -2}, "011 110", 1},
		{"sizes 22", []int{3, -2}, "001 100", 6},
		{"sizes 22", []int{-3, 2}, "110 011", -1},
		{"sizes 22", []int{-3, -2}, "101 010", -8},
		{"sizes 22", []int{0, 0}, "001 001", 0},
		{"sizes 22", []int{0, 5}, "001 001", 10},
		{"sizes 0", []int{9}, "1", 0},
		{"sizes 3", []int{9}, "0001", 27},
		{"sizes 3", []int{9}, "0101", 9},
		{"sizes 3", []int{-9}, "0101", -27},
		{"sizes 3", []int{-9}, "0110", -18},
		{"sizes 3", []int{-9}, "1000", 0},
		{"sizes 333", []int{9, 9, 9}, "0001 0001 0001", 81},
		{"sizes 333", []int{-9, -9, -9}, "1111 1111 1111", -81},
		{"sizes 11122", []int{1, 2, 3, 4, 5}, "01 10 01 001 010", 17},
		// Rules do not matter.
		{"sizes 22\nless 01\nless 10", []int{1, 1}, "001 011", 3},
	} {
		if got, ok := impl.LowerBound(readModel(t, x.lines), x.coefs, domainsOf(x.d)); !ok || got != x.want {
			t.Errorf("LowerBound(%q, %v, %s) = %d, %v, not %d", x.lines, x.coefs, x.d, got, ok, x.want)
		}
	}
	for _, d := range []string{"000 111", "111 000", "000 000"} {
		for _, coefs := range [][]int{{1, 1}, {-1, -1}, {0, 0}} {
			if got, ok := impl.LowerBound(readModel(t, "sizes 22"), coefs, domainsOf(d)); ok || got != 0 {
				t.Errorf("LowerBound(%v, %s) = %d, %v", coefs, d, got, ok)
			}
		}
	}
	for _, x := range validModels() {
		coefs := slices.Repeat([]int{1}, len(x.m.Sizes))
		for _, d := range append(notDomains(x.m.Sizes), emptyDomains(x.m.Sizes)) {
			if got, ok := impl.LowerBound(x.m, coefs, d); ok || got != 0 {
				t.Errorf("%s: LowerBound(%.80v) = %d, %v", x.name, d, got, ok)
			}
		}
	}
}

// TestLowerBoundIsTheLeastValueInDomains uses that the least values of the cells together are the least value of all.
func TestLowerBoundIsTheLeastValueInDomains(t *testing.T) {
	n := &numbers{state: 33}
	bounded, filtered := 0, 0
	for range 2000 {
		m := n.model(3)
		coefs, d := n.objective(len(m.Sizes)), n.domains(m.Sizes)
		least := math.MaxInt
		for _, cells := range modelCells(m.Sizes) {
			if inDomains(d, cells) {
				least = min(least, slowValue(coefs, cells))
			}
		}
		got, ok := impl.LowerBound(m, coefs, d)
		if ok != !someEmpty(d) || ok && got != least || !ok && got != 0 {
			t.Errorf("LowerBound(%q, %v, %s) = %d, %v, not %d", impl.FormatModel(m), coefs, domainText(d), got, ok, least)
		}
		if ok {
			bounded++
		}
		left, _ := impl.FilterModel(m, fullDomains(m.Sizes))
		if best, ok := impl.MinimizeModel(m, coefs); ok {
			filtered++
			if bound, ok := impl.LowerBound(m, coefs, left); !ok || bound > slowValue(coefs, best) {
				t.Errorf("LowerBound(%q, %v, %s) = %d, %v, with the optimum %v", impl.FormatModel(m), coefs, domainText(left), bound, ok, best)
			}
		}
	}
	if min(bounded, filtered) < 500 {
		t.Errorf("the cases are one-sided: %d, %d", bounded, filtered)
	}
}

func TestOptimizationKeepsItsArguments(t *testing.T) {
	d := domainsOf("111 11 111 1")
	steps := readSteps(t, "literal x1", "rup >= 1", "delete 0")
	stepsBefore := slices.Clone(steps)
	coefs := [4]int{1, -2, 0, 7}
	checkModelKept(t, func(m impl.Model, cells []int) {
		solutions := modelSolutions(m)
		if len(solutions) == 0 {
			t.Fatal("the model has no solution")
		}
		for _, coefs := range [][]int{coefs[:3], coefs[:2]} {
			impl.ObjectiveValue(m, coefs, cells)
			impl.MinimizeModel(m, coefs)
			impl.AtMostConstraint(m, coefs, 3)
			impl.ProveOptimum(m, coefs, impl.MaxFuel)
			impl.LowerBound(m, coefs, d[:3])
			impl.CheckOptimum(m, coefs, cells, steps[:2])
			for _, cells := range solutions {
				impl.CheckOptimum(m, coefs, cells, steps[:2])
			}
		}
	})
	if coefs != [4]int{1, -2, 0, 7} || domainText(d) != "111 11 111 1" || !impl.ProofSame(steps, stepsBefore) {
		t.Error("a function of objectives changes an argument")
	}
}

func TestOptimizationResultsShareNoMemory(t *testing.T) {
	lines := []string{"sizes 222", "different 012", "linear 1 0 1 1 >= 1"}
	m, coefs := readModel(t, lines...), []int{-1, 2, -1}
	best, _ := impl.MinimizeModel(m, coefs)
	otherBest, _ := impl.MinimizeModel(m, coefs)
	_, cells, steps := impl.ProveOptimum(m, coefs, impl.MaxFuel)
	_, otherCells, otherSteps := impl.ProveOptimum(m, coefs, impl.MaxFuel)
	c, _ := impl.AtMostConstraint(m, coefs, 1)
	otherC, _ := impl.AtMostConstraint(m, coefs, 1)
	text := impl.FormatConstraint(c)
	if len(steps) < 2 || len(cells) != 3 || len(best) != 3 {
		t.Fatalf("ProveOptimum = %v, %v; MinimizeModel = %v", cells, steps, best)
	}
	for i := range steps {
		spoil(steps[i].Given)
		if !impl.ProofSame(steps[i+1:], otherSteps[i+1:]) {
			t.Errorf("step %d shares memory with a later one", i)
		}
	}
	spoil(c)
	for _, part := range [][]int{best[:cap(best)], cells[:cap(cells)]} {
		for i := range part {
			part[i] = 99
		}
	}
	if _, third, thirdSteps := impl.ProveOptimum(m, coefs, impl.MaxFuel); !slices.Equal(third, otherCells) || !impl.ProofSame(thirdSteps, otherSteps) || slices.Contains(third, 99) {
		t.Error("the results of ProveOptimum share memory")
	}
	if slices.Contains(otherBest, 99) || slices.Contains(otherCells, 99) || impl.FormatConstraint(otherC) != text {
		t.Error("two results share memory")
	}
	if !impl.ModelSame(m, readModel(t, lines...)) || !slices.Equal(coefs, []int{-1, 2, -1}) {
		t.Error("a result shares memory with an argument")
	}
}
