package tests

import (
	"math"
	"slices"
	"strconv"
	"strings"
	"testing"

	"loop.example/cuttingplanes/impl"
)

func readModel(t *testing.T, lines ...string) impl.Model {
	t.Helper()
	text := strings.Join(lines, "\n") + "\n"
	m, ok := impl.ParseModel(text)
	if !ok {
		t.Fatalf("ParseModel refuses %q", text)
	}
	return m
}

func linear(bound int, vars []int, coefs ...int) impl.Rule {
	return impl.Rule{Kind: impl.RuleLinear, Vars: vars, Coefs: coefs, Bound: bound}
}

func different(vars ...int) impl.Rule { return impl.Rule{Kind: impl.RuleDifferent, Vars: vars} }

func less(vars ...int) impl.Rule { return impl.Rule{Kind: impl.RuleLess, Vars: vars} }

func table(vars []int, rows ...[]int) impl.Rule {
	return impl.Rule{Kind: impl.RuleTable, Vars: vars, Rows: rows}
}

func modelOf(sizes []int, rules ...impl.Rule) impl.Model {
	return impl.Model{Sizes: sizes, Rules: rules}
}

// oneCell returns a model with the cell 0 and its values from 0 to 3.
func oneCell(rules ...impl.Rule) impl.Model { return modelOf([]int{impl.MaxSize}, rules...) }

type modelCase struct {
	name string
	m    impl.Model
	// text is empty if the model is not valid.
	text string
}

func validModels() []modelCase {
	pair := []int{0, 1}
	return []modelCase{
		{"one value", modelOf([]int{0}), "sizes 0\n"},
		{"the greatest size", modelOf([]int{3}), "sizes 3\n"},
		{"MaxCells cells", modelOf([]int{0, 1, 0, 1, 0}), "sizes 01010\n"},
		{"MaxVars values of three cells", modelOf([]int{3, 3, 3}), "sizes 333\n"},
		{"MaxVars values of MaxCells cells", modelOf([]int{1, 1, 1, 2, 2}), "sizes 11122\n"},
		{"empty slices", impl.Model{Sizes: []int{2}, Rules: []impl.Rule{}}, "sizes 2\n"},
		{"a linear rule", modelOf([]int{3, 1, 2}, linear(-1, []int{0, 2}, 2, -1)), "sizes 312\nlinear 2 0 -1 2 >= -1\n"},
		{"cells in any order", modelOf([]int{1, 1, 1}, linear(0, []int{2, 0, 1}, 1, 2, 3), different(2, 0), less(1, 0), table([]int{2, 1}, []int{3, 0})),
			"sizes 111\nlinear 1 2 2 0 3 1 >= 0\ndifferent 20\nless 10\ntable 21 30\n"},
		{"the greatest weights", modelOf([]int{2, 2}, linear(5, pair, 9, -9)), "sizes 22\nlinear 9 0 -9 1 >= 5\n"},
		{"the greatest bound", oneCell(linear(1000, []int{0}, 1)), "sizes 3\nlinear 1 0 >= 1000\n"},
		{"the least bound", oneCell(linear(-1000, []int{0}, 1)), "sizes 3\nlinear 1 0 >= -1000\n"},
		{"different cells", modelOf([]int{1, 2, 3}, different(0, 1, 2)), "sizes 123\ndifferent 012\n"},
		{"one different cell", oneCell(different(0)), "sizes 3\ndifferent 0\n"},
		{"all cells different", modelOf([]int{0, 0, 0, 0, 0}, different(4, 3, 2, 1, 0)), "sizes 00000\ndifferent 43210\n"},
		{"a table without rows", modelOf([]int{1, 1}, table(pair)), "sizes 11\ntable 01\n"},
		{"an empty slice of rows", oneCell(table([]int{0}, [][]int{}...)), "sizes 3\ntable 0\n"},
		{"a table with values that the cells do not have", modelOf([]int{0, 1}, table([]int{1, 0}, []int{3, 3}, []int{1, 0})), "sizes 01\ntable 10 33 10\n"},
		{"a table with the same row twice", oneCell(table([]int{0}, []int{2}, []int{0}, []int{2})), "sizes 3\ntable 0 2 0 2\n"},
		{"MaxRows rows", oneCell(table([]int{0}, slices.Repeat([][]int{{1}}, 8)...)), "sizes 3\ntable 0 1 1 1 1 1 1 1 1\n"},
		{"a table of all cells", modelOf([]int{1, 1, 1, 1, 1}, table([]int{4, 0, 3, 1, 2}, []int{0, 1, 2, 3, 0})), "sizes 11111\ntable 40312 01230\n"},
		{"an order", modelOf([]int{2, 2}, less(0, 1)), "sizes 22\nless 01\n"},
		{"MaxRules rules", oneCell(slices.Repeat([]impl.Rule{different(0)}, 8)...), "sizes 3\n" + strings.Repeat("different 0\n", 8)},
		{"empty slices of rules", oneCell(impl.Rule{Kind: impl.RuleDifferent, Vars: []int{0}, Coefs: []int{}, Rows: [][]int{}},
			impl.Rule{Kind: impl.RuleLinear, Vars: []int{0}, Coefs: []int{1}, Rows: [][]int{}},
			impl.Rule{Kind: impl.RuleTable, Vars: []int{0}, Coefs: []int{}}), "sizes 3\ndifferent 0\nlinear 1 0 >= 0\ntable 0\n"},
	}
}

// invalidRules has rules that are not valid in a model with two cells.
func invalidRules() []modelCase {
	var cases []modelCase
	add := func(name string, r impl.Rule) {
		cases = append(cases, modelCase{name: name, m: modelOf([]int{1, 1}, r)})
	}
	one, pair := []int{0}, []int{0, 1}
	for _, kind := range []int{-1, 0, 5, 6, math.MinInt, math.MaxInt} {
		add("no such kind", impl.Rule{Kind: kind, Vars: pair})
		add("no such kind", impl.Rule{Kind: kind, Vars: pair, Coefs: []int{1, 1}})
	}
	for _, vars := range [][]int{nil, {}, {2, 0}, {0, 2}, {-1, 0}, {0, -1}, {0, 0}, {1, 1}, {0, 1, 0}, {0, math.MaxInt}, {math.MinInt, 0}, make([]int, 3000)} {
		add("vars of a linear rule", linear(0, vars, slices.Repeat([]int{1}, len(vars))...))
		add("vars of different cells", different(vars...))
		add("vars of a table", table(vars))
		add("vars of a table", table(vars, make([]int, len(vars))))
		add("vars of an order", less(vars...))
	}
	for _, coefs := range [][]int{nil, {1}, {1, 1, 1}, {0, 1}, {1, 0}, {10, 1}, {1, -10}, {math.MaxInt, 1}, {1, math.MinInt}} {
		add("coefficients", linear(0, pair, coefs...))
	}
	for _, bound := range []int{-1001, 1001, math.MinInt, math.MaxInt} {
		add("bound", linear(bound, pair, 1, 1))
	}
	for _, row := range [][]int{nil, {0}, {0, 0, 0}, {0, 4}, {4, 0}, {-1, 0}, {0, math.MinInt}, {math.MaxInt, 0}} {
		add("the only row", table(pair, row))
		add("the last row", table(pair, []int{0, 0}, row))
		add("the first row", table(pair, row, []int{0, 0}))
	}
	add("more than MaxRows rows", table(one, slices.Repeat([][]int{{1}}, 9)...))
	add("one cell of an order", less(0))
	add("rows of a linear rule", impl.Rule{Kind: impl.RuleLinear, Vars: one, Coefs: []int{1}, Rows: [][]int{{0}}})
	add("an empty row of a linear rule", impl.Rule{Kind: impl.RuleLinear, Vars: one, Coefs: []int{1}, Rows: [][]int{{}}})
	for _, kind := range []int{impl.RuleDifferent, impl.RuleTable, impl.RuleLess} {
		add("coefficients of another kind", impl.Rule{Kind: kind, Vars: pair, Coefs: []int{1, 1}})
		add("a coefficient 0 of another kind", impl.Rule{Kind: kind, Vars: pair, Coefs: []int{0}})
		add("a bound of another kind", impl.Rule{Kind: kind, Vars: pair, Bound: 1})
		add("a negative bound of another kind", impl.Rule{Kind: kind, Vars: pair, Bound: -1})
	}
	for _, kind := range []int{impl.RuleDifferent, impl.RuleLess} {
		add("rows of another kind", impl.Rule{Kind: kind, Vars: pair, Rows: [][]int{{0, 1}}})
		add("an empty row of another kind", impl.Rule{Kind: kind, Vars: pair, Rows: [][]int{nil}})
	}
	return cases
}

func invalidModels() []modelCase {
	cases := invalidRules()
	for _, sizes := range [][]int{nil, {}, {-1}, {4}, {1, -1}, {4, 1}, {0, 0, 0, 0, 0, 0}, {3, 3, 3, 0}, {2, 1, 2, 1, 2}, {3, 3, 3, 3, 3},
		{math.MaxInt}, {math.MinInt}, {math.MaxInt, math.MaxInt}, make([]int, 3000)} {
		cases = append(cases, modelCase{name: "sizes", m: modelOf(sizes)})
	}
	return append(cases,
		modelCase{name: "more than MaxRules rules", m: oneCell(slices.Repeat([]impl.Rule{different(0)}, 9)...)},
		modelCase{name: "three cells of an order", m: modelOf([]int{1, 1, 1}, less(0, 1, 2))},
		modelCase{name: "a rule without cells", m: modelOf(nil, different(0))},
		modelCase{name: "an invalid rule after a valid one", m: oneCell(different(0), less(0, 1))},
		modelCase{name: "an invalid rule before a valid one", m: oneCell(less(0, 1), different(0))})
}

func TestModelConstants(t *testing.T) {
	kinds := []int{impl.RuleLinear, impl.RuleDifferent, impl.RuleTable, impl.RuleLess}
	limits := []int{impl.MaxCells, impl.MaxSize, impl.MaxRules, impl.MaxWeight, impl.MaxRows}
	if !slices.Equal(kinds, []int{1, 2, 3, 4}) || !slices.Equal(limits, []int{5, 3, 8, 9, 8}) {
		t.Error("the kinds of rules or the limits of models are not those of the document")
	}
}

func TestValidModels(t *testing.T) {
	for _, x := range validModels() {
		if !impl.ModelValid(x.m) {
			t.Errorf("%s: ModelValid refuses %v", x.name, x.m)
		}
		if text := impl.FormatModel(x.m); text != x.text {
			t.Errorf("%s: FormatModel = %q, not %q", x.name, text, x.text)
		}
		if m, ok := impl.ParseModel(x.text); !ok || !impl.ModelSame(m, x.m) {
			t.Errorf("%s: ParseModel(%q) = %v, %v", x.name, x.text, m, ok)
		}
		if !impl.CellsValid(x.m, make([]int, len(x.m.Sizes))) {
			t.Errorf("%s: CellsValid refuses the first cells", x.name)
		}
	}
}

func TestInvalidModels(t *testing.T) {
	for _, x := range invalidModels() {
		cells := make([]int, len(x.m.Sizes))
		if impl.ModelValid(x.m) {
			t.Errorf("%s: ModelValid accepts %.80v", x.name, x.m)
		}
		if text := impl.FormatModel(x.m); text != "" {
			t.Errorf("%s: FormatModel(%.80v) = %q", x.name, x.m, text)
		}
		if impl.CellsValid(x.m, cells) || impl.SolvesModel(x.m, cells) || impl.RuleHolds(x.m, 0, cells) {
			t.Errorf("%s: cells of %.80v are accepted", x.name, x.m)
		}
		if n := impl.CountModel(x.m); n != 0 {
			t.Errorf("%s: CountModel(%.80v) = %d", x.name, x.m, n)
		}
		if next, ok := impl.NextModel(x.m, cells); ok || len(next) != 0 {
			t.Errorf("%s: NextModel(%.80v) = %v, %v", x.name, x.m, next, ok)
		}
		if !impl.ModelSame(x.m, copyModel(x.m)) {
			t.Errorf("%s: ModelSame tells the copy of a model from it", x.name)
		}
	}
}

func copyModel(m impl.Model) impl.Model {
	again := impl.Model{Sizes: slices.Clone(m.Sizes)}
	for _, r := range m.Rules {
		r.Vars, r.Coefs, r.Rows = slices.Clone(r.Vars), slices.Clone(r.Coefs), slices.Clone(r.Rows)
		for i := range r.Rows {
			r.Rows[i] = slices.Clone(r.Rows[i])
		}
		again.Rules = append(again.Rules, r)
	}
	return again
}

func TestModelSame(t *testing.T) {
	whole := func() impl.Model {
		return modelOf([]int{2, 1, 0}, linear(-3, []int{0, 2}, 2, -1), table([]int{1, 0}, []int{1, 2}, []int{0, 1}), less(1, 0))
	}
	if !impl.ModelSame(whole(), whole()) || !impl.ModelSame(impl.Model{}, impl.Model{}) {
		t.Error("ModelSame tells equal models apart")
	}
	changes := []func(m *impl.Model){
		func(m *impl.Model) { m.Sizes[1] = 2 },
		func(m *impl.Model) { m.Sizes = m.Sizes[:2] },
		func(m *impl.Model) { m.Sizes = append(m.Sizes, 0) },
		func(m *impl.Model) { m.Sizes = nil },
		func(m *impl.Model) { m.Rules = m.Rules[:2] },
		func(m *impl.Model) { m.Rules = append(m.Rules, impl.Rule{}) },
		func(m *impl.Model) { m.Rules = nil },
		func(m *impl.Model) { m.Rules[0], m.Rules[1] = m.Rules[1], m.Rules[0] },
		func(m *impl.Model) { m.Rules[2].Kind = impl.RuleDifferent },
		func(m *impl.Model) { m.Rules[2].Vars[0] = 2 },
		func(m *impl.Model) { m.Rules[2].Vars = nil },
		func(m *impl.Model) { m.Rules[2].Vars = []int{0, 1} },
		func(m *impl.Model) { m.Rules[0].Coefs[1] = 1 },
		func(m *impl.Model) { m.Rules[0].Coefs = m.Rules[0].Coefs[:1] },
		func(m *impl.Model) { m.Rules[2].Coefs = []int{0} },
		func(m *impl.Model) { m.Rules[0].Bound = 3 },
		func(m *impl.Model) { m.Rules[2].Bound = 1 },
		func(m *impl.Model) { m.Rules[1].Rows[1][0] = 1 },
		func(m *impl.Model) { m.Rules[1].Rows[1] = nil },
		func(m *impl.Model) { m.Rules[1].Rows = m.Rules[1].Rows[:1] },
		func(m *impl.Model) { m.Rules[2].Rows = [][]int{nil} },
	}
	for i, change := range changes {
		m := whole()
		change(&m)
		if impl.ModelSame(whole(), m) || impl.ModelSame(m, whole()) {
			t.Errorf("ModelSame does not see change %d", i)
		}
		if !impl.ModelSame(m, copyModel(m)) {
			t.Errorf("ModelSame tells the copy after change %d from it", i)
		}
	}
	empty := impl.Model{Sizes: []int{}, Rules: []impl.Rule{{Vars: []int{}, Coefs: []int{}, Rows: [][]int{{}}}}}
	if !impl.ModelSame(empty, impl.Model{Rules: []impl.Rule{{Rows: [][]int{nil}}}}) || !impl.ModelSame(impl.Model{}, impl.Model{Sizes: []int{}, Rules: []impl.Rule{}}) {
		t.Error("ModelSame tells nil slices from empty ones")
	}
}

func checkNoModel(t *testing.T, text string) {
	t.Helper()
	if m, ok := impl.ParseModel(text); ok || !impl.ModelSame(m, impl.Model{}) {
		t.Errorf("ParseModel(%.80q) = %v, %v", text, m, ok)
	}
}

func TestParseModelRefusesTexts(t *testing.T) {
	for _, text := range []string{
		"", "\n", "\n\n", " ", "sizes", "sizes\n", "sizes \n", "sizes 2", "sizes 2\n\n", "\nsizes 2\n", "sizes 2\r\n", " sizes 2\n", "sizes 2 \n", "sizes  2\n",
		"sizes 2 2\n", "sizes -1\n", "sizes 4\n", "sizes x\n", "sizes +2\n", "sizes 02x\n", "sizes ²\n", "sizes 3330\n", "sizes 000000\n", "size 2\n", "Sizes 2\n",
		"sizes 2\nsizes 2\n", "sizes 2\nsizes 22\nless 01\n", "less 01\nsizes 22\n", "different 0\n", "sizes 22\nless 01\nsizes 22\n", "sizes 2\x00\n",
		"sizes " + strings.Repeat("2", 100000) + "\n", strings.Repeat("sizes 2\n", 1000), strings.Repeat("\n", 100000), strings.Repeat(" ", 100000),
		"sizes 2\n" + strings.Repeat("different 0\n", 9), "sizes 2\n" + strings.Repeat("different 0\n", 10000),
	} {
		checkNoModel(t, text)
	}
}

func TestParseModelRefusesRules(t *testing.T) {
	for _, line := range []string{
		"", " ", "differ 0", "Different 0", "different0", " less 01", "0", "-1", "different", "different ", "different  01", "different 01 ", "different 0 1", "different 00",
		"different 02", "different 0x", "different -1", "different 01 01", "different 0,1", "less", "less ", "less 0", "less 00", "less 02", "less 010", "less 0 1", "less 01 ", "less 01 01",
		"linear", "linear ", "linear >= 0", "linear 1 >= 0", "linear 1 0", "linear 1 0 >=", "linear 1 0 >= ", "linear 1 0 >= x", "linear 1 0 >=0", "linear 1 0 > 0", "linear 1 0 >= 0 ",
		"linear 1 0 >= 0 1", "linear 1 0 >= 0 >= 0", "linear 1 0 >= 0 1 1", "linear >= 0 1 0", "linear 1 0  >= 0", "linear  1 0 >= 0", "linear 0 0 >= 1", "linear 10 0 >= 1",
		"linear -10 0 >= 1", "linear +1 0 >= 1", "linear 01 0 >= 1", "linear 1 00 >= 1", "linear 1 2 >= 1", "linear 1 -0 >= 1", "linear -0 0 >= 1", "linear 1 0 >= -0",
		"linear 1 0 >= 00", "linear 1 0 >= 01", "linear 1 0 >= +1", "linear 1 0 >= 1001", "linear 1 0 >= -1001", "linear 1 0 >= 99999999999999999999", "linear 1 0 1 0 >= 1",
		"linear x 0 >= 1", "linear 1 x >= 1", "linear 1 0 1 1 1 0 >= 1", "linear 1 0 1 1 1 2 1 3 1 4 1 5 >= 1", "linear " + strings.Repeat("1 0 ", 10000) + ">= 1",
		"table", "table ", "table  ", "table 00", "table 02", "table 01 ", "table 01  00", "table 01 0", "table 01 000", "table 01 04", "table 01 40", "table 01 0x", "table 01 00 1",
		"table 01 -10", "table 0 0 0 0 0 0 0 0 0 0", "table x", "table 0,1", "table 0" + strings.Repeat(" 0", 10000), "table 0 " + strings.Repeat("0", 10000),
	} {
		checkNoModel(t, "sizes 11\n"+line+"\n")
		checkNoModel(t, "sizes 11\nless 01\n"+line+"\n")
		checkNoModel(t, "sizes 11\n"+line+"\nless 01\n")
		if line != "" {
			checkNoModel(t, "sizes 11\nless 01\n"+line)
		}
	}
}

// TestChangedTextsOfModels checks that whatever text is accepted is the text of the model that it gives.
func TestChangedTextsOfModels(t *testing.T) {
	accepted := 0
	check := func(text string) {
		m, ok := impl.ParseModel(text)
		if !ok {
			checkNoModel(t, text)
			return
		}
		accepted++
		if !impl.ModelValid(m) || impl.FormatModel(m) != text {
			t.Errorf("ParseModel(%q) = %v", text, m)
		}
	}
	for _, x := range validModels() {
		for i := range len(x.text) + 1 {
			for _, other := range []string{"0", "1", "3", "4", "9", "-", " ", "\n", "x", "\x00", "\xff"} {
				check(x.text[:i] + other + x.text[i:])
				if i < len(x.text) {
					check(x.text[:i] + other + x.text[i+1:])
				}
			}
			if i < len(x.text) {
				check(x.text[:i])
				check(x.text[:i] + x.text[i+1:])
			}
		}
	}
	if accepted < 500 {
		t.Errorf("only %d changed texts are texts of models", accepted)
	}
}

// modelCells returns all cells of a model, in order.
func modelCells(sizes []int) [][]int {
	if len(sizes) == 0 {
		return [][]int{nil}
	}
	var all [][]int
	for value := range sizes[0] + 1 {
		for _, rest := range modelCells(sizes[1:]) {
			all = append(all, slices.Concat([]int{value}, rest))
		}
	}
	return all
}

func holdsSlowly(r impl.Rule, cells []int) bool {
	var values []int
	for _, cell := range r.Vars {
		values = append(values, cells[cell])
	}
	switch r.Kind {
	case impl.RuleLinear:
		rest := -r.Bound
		for i, value := range values {
			for range value {
				rest += r.Coefs[i]
			}
		}
		return rest >= 0
	case impl.RuleDifferent:
		for i := range values {
			if slices.Contains(values[:i], values[i]) {
				return false
			}
		}
		return true
	case impl.RuleTable:
		for _, row := range r.Rows {
			if slices.Equal(row, values) {
				return true
			}
		}
		return false
	default:
		return values[1]-values[0] >= 1
	}
}

func modelSolutions(m impl.Model) [][]int {
	var found [][]int
	for _, cells := range modelCells(m.Sizes) {
		broken := func(r impl.Rule) bool { return !holdsSlowly(r, cells) }
		if !slices.ContainsFunc(m.Rules, broken) {
			found = append(found, cells)
		}
	}
	return found
}

func TestCellsValid(t *testing.T) {
	for _, x := range []struct {
		sizes string
		cells []int
		want  bool
	}{
		{"0", []int{0}, true},
		{"0", []int{1}, false},
		{"0", []int{-1}, false},
		{"0", nil, false},
		{"0", []int{}, false},
		{"0", []int{0, 0}, false},
		{"3", []int{3}, true},
		{"3", []int{4}, false},
		{"312", []int{3, 1, 2}, true},
		{"312", []int{0, 0, 0}, true},
		{"312", []int{4, 0, 0}, false},
		{"312", []int{0, 2, 0}, false},
		{"312", []int{0, 0, 3}, false},
		{"312", []int{0, 0, -1}, false},
		{"312", []int{0, math.MinInt, 0}, false},
		{"312", []int{0, math.MaxInt, 0}, false},
		{"312", []int{3, 1}, false},
		{"312", []int{3, 1, 2, 0}, false},
		{"312", make([]int, 0, 3), false},
		{"312", make([]int, 3000), false},
		{"11111", []int{1, 0, 1, 0, 1}, true},
		{"11111", []int{1, 0, 1, 0, 2}, false},
	} {
		m := readModel(t, "sizes "+x.sizes)
		if got := impl.CellsValid(m, x.cells); got != x.want {
			t.Errorf("CellsValid(%s, %.80v) = %v", x.sizes, x.cells, got)
		}
		next, ok := impl.NextModel(m, x.cells)
		if impl.SolvesModel(m, x.cells) != x.want || ok != x.want || x.want != slices.Equal(next, x.cells) && len(x.cells) > 0 {
			t.Errorf("%s, %.80v: SolvesModel or NextModel is wrong without rules", x.sizes, x.cells)
		}
		if impl.RuleHolds(m, 0, x.cells) {
			t.Errorf("RuleHolds(%s, 0, %.80v) holds without a rule", x.sizes, x.cells)
		}
	}
}

func TestRuleHolds(t *testing.T) {
	for _, x := range []struct {
		sizes, rule string
		want        string
	}{
		{"2", "linear 3 0 >= 6", "2"},
		{"2", "linear 3 0 >= 7", ""},
		{"3", "linear -1 0 >= -1", "0 1"},
		{"3", "linear -9 0 >= -27", "0 1 2 3"},
		{"3", "linear -9 0 >= -26", "0 1 2"},
		{"3", "linear 1 0 >= -1000", "0 1 2 3"},
		{"3", "linear 9 0 >= 1000", ""},
		{"22", "linear -1 0 2 1 >= 0", "00 01 02 11 12 21 22"},
		{"22", "linear 2 1 -1 0 >= 0", "00 01 02 11 12 21 22"},
		{"22", "linear -1 0 -1 1 >= -1", "00 01 10"},
		{"212", "linear 1 2 -1 0 >= 1", "001 002 011 012 102 112"},
		{"0", "linear 5 0 >= 0", "0"},
		{"0", "linear 5 0 >= 1", ""},
		{"3", "different 0", "0 1 2 3"},
		{"12", "different 01", "01 02 10 12"},
		{"111", "different 20", "001 011 100 110"},
		{"111", "different 012", ""},
		{"00", "different 01", ""},
		{"0210", "different 012", "0210"},
		{"00", "table 01 00", "00"},
		{"21", "table 01", ""},
		{"21", "table 01 20 11 20", "11 20"},
		{"21", "table 10 02 11", "11 20"},
		{"21", "table 1 1", "01 11 21"},
		{"21", "table 01 02 30 33", ""},
		{"22", "less 01", "01 02 12"},
		{"22", "less 10", "10 20 21"},
		{"03", "less 01", "01 02 03"},
		{"03", "less 10", ""},
		{"111", "less 20", "100 110"},
		{"00", "less 01", ""},
	} {
		m := readModel(t, "sizes "+x.sizes, x.rule)
		var held []string
		for _, cells := range modelCells(m.Sizes) {
			holds := impl.RuleHolds(m, 0, cells)
			if holds {
				held = append(held, digitText(cells))
			}
			if holds != impl.SolvesModel(m, cells) {
				t.Errorf("%s, %s: RuleHolds and SolvesModel differ for %v", x.sizes, x.rule, cells)
			}
			for _, rule := range []int{-1, 1, 2, math.MinInt, math.MaxInt} {
				if impl.RuleHolds(m, rule, cells) {
					t.Errorf("%s, %s: RuleHolds(%d, %v) without such a rule", x.sizes, x.rule, rule, cells)
				}
			}
		}
		if got := strings.Join(held, " "); got != x.want {
			t.Errorf("%s, %s: the rule holds for %q, not %q", x.sizes, x.rule, got, x.want)
		}
		if n := impl.CountModel(m); n != len(held) {
			t.Errorf("%s, %s: CountModel = %d, not %d", x.sizes, x.rule, n, len(held))
		}
	}
}

func digitText(numbers []int) string {
	var text string
	for _, n := range numbers {
		text += strconv.Itoa(n)
	}
	return text
}

func TestRuleHoldsLooksAtTheWholeModel(t *testing.T) {
	m := readModel(t, "sizes 22", "less 01", "less 10", "different 01")
	cells := []int{0, 1}
	if !impl.RuleHolds(m, 0, cells) || impl.RuleHolds(m, 1, cells) || !impl.RuleHolds(m, 2, cells) || impl.SolvesModel(m, cells) {
		t.Error("RuleHolds confuses the rules of a model")
	}
	for _, cells := range [][]int{nil, {0}, {0, 3}, {-1, 1}, {0, 1, 0}} {
		for rule := range m.Rules {
			if impl.RuleHolds(m, rule, cells) {
				t.Errorf("RuleHolds(%d, %v) holds", rule, cells)
			}
		}
	}
	m.Rules = append(m.Rules, less(0, 2))
	if impl.RuleHolds(m, 0, cells) {
		t.Error("a rule of a model holds that is not valid because of another rule")
	}
}

func TestCountModel(t *testing.T) {
	for _, x := range []struct {
		lines string
		want  int
	}{
		{"sizes 0", 1},
		{"sizes 3", 4},
		{"sizes 00000", 1},
		{"sizes 333", 64},
		{"sizes 2222", 81},
		{"sizes 11122", 72},
		{"sizes 22\ndifferent 01\nless 01", 3},
		{"sizes 2222\ndifferent 0123", 0},
		{"sizes 333\ndifferent 012", 24},
		{"sizes 333\nless 01\nless 12", 4},
		{"sizes 333\nless 01\nless 12\nless 20", 0},
		{"sizes 333\ntable 01", 0},
		{"sizes 333\ntable 01\ndifferent 0", 0},
		{"sizes 333\ntable 01 30 03 33 30", 12},
		{"sizes 03\nless 01\nlinear -1 1 >= -2", 2},
		{"sizes 22\nlinear -1 0 -1 1 >= -1", 3},
	} {
		if n := impl.CountModel(readModel(t, x.lines)); n != x.want {
			t.Errorf("CountModel(%q) = %d, not %d", x.lines, n, x.want)
		}
	}
}

func TestNextModel(t *testing.T) {
	for _, x := range []struct {
		lines      string
		from, want []int
	}{
		{"sizes 0", []int{0}, []int{0}},
		{"sizes 0\nlinear 1 0 >= 1", []int{0}, nil},
		{"sizes 3\nlinear 1 0 >= 2", []int{0}, []int{2}},
		{"sizes 3\nlinear 1 0 >= 2", []int{3}, []int{3}},
		{"sizes 3\nlinear -1 0 >= -2", []int{2}, []int{2}},
		{"sizes 3\nlinear -1 0 >= -2", []int{3}, nil},
		{"sizes 22\nless 01", []int{0, 0}, []int{0, 1}},
		{"sizes 22\nless 01", []int{0, 2}, []int{0, 2}},
		{"sizes 22\nless 01", []int{1, 0}, []int{1, 2}},
		{"sizes 22\nless 01", []int{1, 2}, []int{1, 2}},
		{"sizes 22\nless 01", []int{2, 0}, nil},
		{"sizes 22\nless 10", []int{0, 0}, []int{1, 0}},
		{"sizes 22\nless 10", []int{1, 1}, []int{2, 0}},
		{"sizes 22\nless 10", []int{2, 2}, nil},
		{"sizes 303\ntable 012 103 001", []int{0, 0, 2}, []int{1, 0, 3}},
		{"sizes 303\ntable 012 103 001", []int{0, 0, 0}, []int{0, 0, 1}},
		{"sizes 11\ntable 01", []int{0, 0}, nil},
		{"sizes 11111\ntable 04 11", []int{0, 1, 1, 1, 1}, []int{1, 0, 0, 0, 1}},
		{"sizes 11111\ntable 04 11", []int{1, 1, 1, 1, 0}, []int{1, 1, 1, 1, 1}},
	} {
		m := readModel(t, x.lines)
		if got, ok := impl.NextModel(m, x.from); ok != (x.want != nil) || !slices.Equal(got, x.want) {
			t.Errorf("NextModel(%q, %v) = %v, %v, not %v", x.lines, x.from, got, ok, x.want)
		}
	}
	m := readModel(t, "sizes 22", "less 01")
	for _, cells := range [][]int{nil, {}, {0}, {0, 1, 0}, {-1, 0}, {0, -1}, {3, 0}, {0, 3}, {math.MinInt, math.MaxInt}, make([]int, 3000)} {
		if got, ok := impl.NextModel(m, cells); ok || len(got) != 0 {
			t.Errorf("NextModel(%.80v) = %v, %v", cells, got, ok)
		}
	}
}

func (n *numbers) sizes() []int {
	for {
		var sizes []int
		values := 0
		for range n.between(1, impl.MaxCells) {
			sizes = append(sizes, n.between(0, impl.MaxSize))
			values += sizes[len(sizes)-1] + 1
		}
		if values <= impl.MaxVars {
			return sizes
		}
	}
}

// someCells returns different cells, in any order.
func (n *numbers) someCells(count int) []int {
	cells := make([]int, count)
	for i := range cells {
		other := n.between(0, i)
		cells[i] = cells[other]
		cells[other] = i
	}
	return cells
}

func (n *numbers) rule(cells int) impl.Rule {
	all := n.someCells(cells)
	vars := all[:n.between(1, cells)]
	kind := n.between(impl.RuleLinear, impl.RuleLess)
	switch {
	case kind == impl.RuleLess && cells > 1:
		return less(all[:2]...)
	case kind == impl.RuleDifferent:
		return different(vars...)
	case kind == impl.RuleTable:
		rows := make([][]int, n.between(0, impl.MaxRows))
		for i := range rows {
			for range vars {
				rows[i] = append(rows[i], n.between(0, impl.MaxSize))
			}
		}
		return table(vars, rows...)
	}
	coefs := make([]int, len(vars))
	for i := range coefs {
		coefs[i] = n.between(1, impl.MaxWeight) * (1 - 2*n.between(0, 1))
	}
	return linear(n.between(-20, 10), vars, coefs...)
}

func (n *numbers) model(rules int) impl.Model {
	m := impl.Model{Sizes: n.sizes()}
	for range n.between(0, rules) {
		m.Rules = append(m.Rules, n.rule(len(m.Sizes)))
	}
	return m
}

func TestModelsAreReadBackFromTheirTexts(t *testing.T) {
	n := &numbers{state: 20}
	var kinds [impl.RuleLess + 1]int
	for range 2000 {
		m := n.model(impl.MaxRules)
		text := impl.FormatModel(m)
		again, ok := impl.ParseModel(text)
		if !impl.ModelValid(m) || !ok || !impl.ModelSame(m, again) {
			t.Errorf("%v is read back from %q as %v, %v", m, text, again, ok)
		}
		if !strings.HasSuffix(text, "\n") || strings.Count(text, "\n") != len(m.Rules)+1 {
			t.Errorf("FormatModel(%v) = %q", m, text)
		}
		for _, r := range m.Rules {
			kinds[r.Kind]++
		}
	}
	if slices.Min(kinds[1:]) < 1000 {
		t.Errorf("the kinds occurred %v times", kinds)
	}
}

func TestModelSolutionsAreEnumeratedInOrder(t *testing.T) {
	n := &numbers{state: 21}
	several := 0
	for range 600 {
		m := n.model(3)
		want := modelSolutions(m)
		if got := impl.CountModel(m); got != len(want) {
			t.Errorf("CountModel(%q) = %d, not %d", impl.FormatModel(m), got, len(want))
		}
		if len(want) > 1 {
			several++
		}
		at := 0
		for _, cells := range modelCells(m.Sizes) {
			solves := at < len(want) && slices.Equal(cells, want[at])
			if impl.SolvesModel(m, cells) != solves {
				t.Errorf("SolvesModel(%q, %v) = %v", impl.FormatModel(m), cells, !solves)
			}
			next, ok := impl.NextModel(m, cells)
			if ok != (at < len(want)) || ok && !slices.Equal(next, want[at]) {
				t.Errorf("NextModel(%q, %v) = %v, %v", impl.FormatModel(m), cells, next, ok)
			}
			for i, r := range m.Rules {
				if impl.RuleHolds(m, i, cells) != holdsSlowly(r, cells) {
					t.Errorf("RuleHolds(%q, %d, %v) is wrong", impl.FormatModel(m), i, cells)
				}
			}
			if solves {
				at++
			}
		}
	}
	if several < 200 {
		t.Errorf("only %d models have several solutions", several)
	}
}

// roomyModel returns a model whose slices have elements after their ends, and all of these slices.
func roomyModel() (impl.Model, [][]int) {
	memory := [][]int{{2, 1, 2, 7}, {2, 0, 1, 7}, {1, -2, 1, 7}, {1, 0, 7}, {1, 2, 7}, {0, 0, 7}, {2, 1, 7}}
	part := func(i int) []int { return memory[i][:len(memory[i])-1] }
	rows := [][]int{part(4), part(5), {7}}
	rules := []impl.Rule{linear(-3, part(1), part(2)...), table(part(3), rows[:2]...), different(part(6)...), {Kind: 7}}
	return modelOf(part(0), rules[:3]...), memory
}

// checkModelKept calls use with a model and cells of it, and looks for changes of their memory.
func checkModelKept(t *testing.T, use func(m impl.Model, cells []int)) {
	t.Helper()
	m, memory := roomyModel()
	before := copyModel(m)
	var memoryBefore [][]int
	for _, numbers := range memory {
		memoryBefore = append(memoryBefore, slices.Clone(numbers))
	}
	if !impl.ModelValid(m) {
		t.Fatalf("%v is not valid", m)
	}
	cells := [4]int{0, 0, 0, 7}
	use(m, cells[:3])
	rules, rows := m.Rules[:4], m.Rules[1].Rows[:3]
	if !impl.ModelSame(m, before) || !slices.EqualFunc(memory, memoryBefore, slices.Equal) || cells != [4]int{0, 0, 0, 7} {
		t.Error("a function of models changes an argument")
	}
	if rules[3].Kind != 7 || !slices.Equal(rows[2], []int{7}) {
		t.Error("a function of models changes memory beyond the length of an argument")
	}
}

func TestModelsAreNotChanged(t *testing.T) {
	checkModelKept(t, func(m impl.Model, cells []int) {
		for _, cells := range [][]int{cells, nil} {
			impl.ModelValid(m)
			impl.ModelSame(m, m)
			impl.FormatModel(m)
			impl.CellsValid(m, cells)
			impl.RuleHolds(m, 1, cells)
			impl.SolvesModel(m, cells)
			impl.CountModel(m)
			impl.NextModel(m, cells)
		}
	})
}

// parts returns all slices of numbers in a model.
func parts(m impl.Model) [][]int {
	list := [][]int{m.Sizes}
	for _, r := range m.Rules {
		list = append(append(list, r.Vars, r.Coefs), r.Rows...)
	}
	return list
}

func TestModelResultsShareNoMemory(t *testing.T) {
	text := "sizes 212\nlinear 1 2 -2 0 >= -3\ntable 10 12 00 11\ndifferent 21\ntable 0\nless 02\n"
	count := len(parts(readModel(t, strings.TrimSuffix(text, "\n"))))
	for spoiled := range count {
		m, _ := impl.ParseModel(text)
		want := parts(copyModel(m))
		whole := parts(m)[spoiled]
		whole = whole[:cap(whole)]
		for i := range whole {
			whole[i] = 99
		}
		for i, part := range parts(m) {
			if i != spoiled && !slices.Equal(part, want[i]) {
				t.Errorf("part %d of a model shares memory with part %d", spoiled, i)
			}
		}
		if again, ok := impl.ParseModel(text); !ok || !slices.EqualFunc(parts(again), want, slices.Equal) {
			t.Error("two results of ParseModel share memory")
		}
	}
	m := readModel(t, "sizes 22", "less 01")
	from := []int{0, 1}
	next, _ := impl.NextModel(m, from)
	other, _ := impl.NextModel(m, from)
	next = next[:cap(next)]
	for i := range next {
		next[i] = 99
	}
	if !slices.Equal(from, []int{0, 1}) || !slices.Equal(other, []int{0, 1}) || !slices.Equal(m.Sizes, []int{2, 2}) {
		t.Error("the cells of NextModel share memory")
	}
}
