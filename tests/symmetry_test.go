package tests

import (
	"math"
	"slices"
	"strings"
	"testing"

	"loop.example/cuttingplanes/impl"
)

// digits reads a number for each byte.
func digits(text string) []int {
	var list []int
	for i := range len(text) {
		list = append(list, int(text[i]-'0'))
	}
	return list
}

// unmoved returns the permutation in which each cell is its own image.
func unmoved(count int) []int {
	perm := make([]int, count)
	for cell := range perm {
		perm[cell] = cell
	}
	return perm
}

// allPerms returns all orders of the numbers from 0 to count - 1.
func allPerms(count int) [][]int {
	if count == 0 {
		return [][]int{nil}
	}
	var perms [][]int
	for _, shorter := range allPerms(count - 1) {
		for at := range count {
			perms = append(perms, slices.Insert(slices.Clone(shorter), at, count-1))
		}
	}
	return perms
}

// sizedPerms returns the permutations of cells with some sizes.
func sizedPerms(sizes []int) [][]int {
	return slices.DeleteFunc(allPerms(len(sizes)), func(perm []int) bool {
		return !slices.Equal(valuesAt(sizes, perm), sizes)
	})
}

func valuesAt(values, places []int) []int {
	var chosen []int
	for _, place := range places {
		chosen = append(chosen, values[place])
	}
	return chosen
}

// moveSlowly looks for each cell for the one whose image it is.
func moveSlowly(perm, cells []int) []int {
	var moved []int
	for cell := range cells {
		moved = append(moved, cells[slices.Index(perm, cell)])
	}
	return moved
}

func renameSlowly(r impl.Rule, perm []int) impl.Rule {
	r.Vars = valuesAt(perm, r.Vars)
	return r
}

// slowStandard returns the text of a rule in standard order.
func slowStandard(sizes []int, r impl.Rule) string {
	if r.Kind != impl.RuleLess {
		var places []int
		for cell := range sizes {
			if place := slices.Index(r.Vars, cell); place >= 0 {
				places = append(places, place)
			}
		}
		var texts []string
		for _, row := range r.Rows {
			texts = append(texts, digitText(valuesAt(row, places)))
		}
		slices.Sort(texts)
		r.Vars, r.Rows = valuesAt(r.Vars, places), nil
		for _, text := range slices.Compact(texts) {
			r.Rows = append(r.Rows, digits(text))
		}
		if r.Kind == impl.RuleLinear {
			r.Coefs = valuesAt(r.Coefs, places)
		}
	}
	_, text, _ := strings.Cut(impl.FormatModel(modelOf(sizes, r)), "\n")
	return text
}

// slowSymmetry is for a permutation of the cells.
func slowSymmetry(m impl.Model, perm []int) bool {
	var before, after []string
	for _, r := range m.Rules {
		before = append(before, slowStandard(m.Sizes, r))
		after = append(after, slowStandard(m.Sizes, renameSlowly(r, perm)))
	}
	lost := func(text string) bool { return !slices.Contains(after, text) }
	gained := func(text string) bool { return !slices.Contains(before, text) }
	return !slices.ContainsFunc(before, lost) && !slices.ContainsFunc(after, gained)
}

func slowSwaps(m impl.Model) [][]int {
	var swaps [][]int
	for _, perm := range sizedPerms(m.Sizes) {
		var moved []int
		for cell, image := range perm {
			if image != cell {
				moved = append(moved, cell)
			}
		}
		if len(moved) == 2 && slowSymmetry(m, perm) {
			swaps = append(swaps, moved)
		}
	}
	slices.SortFunc(swaps, slices.Compare)
	return swaps
}

// slowBreak returns the text of a model with rules that break exchanges.
func slowBreak(m impl.Model, swaps [][]int) string {
	text := impl.FormatModel(m)
	for _, swap := range swaps {
		text += "linear -1 " + digitText(swap[:1]) + " 1 " + digitText(swap[1:]) + " >= 0\n"
	}
	return text
}

func swapText(swaps [][]int) string {
	var words []string
	for _, swap := range swaps {
		words = append(words, digitText(swap))
	}
	return strings.Join(words, " ")
}

// mixed returns a rule that differs only in the order of its cells and rows and in duplicates of rows.
func (n *numbers) mixed(r impl.Rule) impl.Rule {
	if r.Kind == impl.RuleLess {
		return r
	}
	places := n.someCells(len(r.Vars))
	mixed := impl.Rule{Kind: r.Kind, Vars: valuesAt(r.Vars, places), Bound: r.Bound}
	if r.Kind == impl.RuleLinear {
		mixed.Coefs = valuesAt(r.Coefs, places)
	}
	for _, row := range n.someCells(len(r.Rows)) {
		mixed.Rows = append(mixed.Rows, valuesAt(r.Rows[row], places))
	}
	if len(mixed.Rows) > 0 && len(mixed.Rows) < impl.MaxRows {
		mixed.Rows = append(mixed.Rows, mixed.Rows[0])
	}
	return mixed
}

// evenModel returns a model that often has symmetries: each of its rules is renamed by a permutation again and again.
func (n *numbers) evenModel() impl.Model {
	all := []string{"11", "22", "111", "212", "221", "333", "2222", "1212", "0033", "11111", "11122", "01010", "10001"}
	m := impl.Model{Sizes: digits(all[n.between(0, len(all)-1)])}
	perms := sizedPerms(m.Sizes)
	perm := perms[n.between(0, len(perms)-1)]
	for range n.between(0, 2) {
		r := n.rule(len(m.Sizes))
		r.Bound = n.between(min(r.Bound, 0), 0)
		for range n.between(1, 6) {
			m.Rules = append(m.Rules, n.mixed(r))
			r = renameSlowly(r, perm)
		}
	}
	m.Rules = m.Rules[:min(len(m.Rules), n.between(2, impl.MaxRules))]
	return m
}

// notPerms returns what is almost a permutation of a number of cells.
func notPerms(count int) [][]int {
	identity := unmoved(count)
	list := [][]int{nil, {}, identity[1:], identity[:count-1], append(slices.Clone(identity), count), append([]int{count}, identity...),
		append(slices.Clone(identity), 0), make([]int, 3000), make([]int, 0, count)}
	for cell := range count {
		for _, image := range []int{-1, count, impl.MaxCells, cell + 1, cell - 1, math.MinInt, math.MaxInt, -cell - 1} {
			perm := slices.Clone(identity)
			perm[cell] = image
			list = append(list, perm)
		}
	}
	return list
}

// checkNoPerm checks that all functions refuse a permutation of a model.
func checkNoPerm(t *testing.T, name string, m impl.Model, perm []int) {
	t.Helper()
	if impl.PermValid(m, perm) {
		t.Errorf("%s: PermValid accepts %.80v", name, perm)
	}
	if impl.SymmetryValid(m, perm) {
		t.Errorf("%s: SymmetryValid accepts %.80v", name, perm)
	}
	for _, cells := range [][]int{make([]int, len(m.Sizes)), nil} {
		if moved, ok := impl.PermuteCells(m, perm, cells); ok || len(moved) != 0 {
			t.Errorf("%s: PermuteCells(%.80v, %.80v) = %v, %v", name, perm, cells, moved, ok)
		}
	}
	if renamed, ok := impl.PermuteModel(m, perm); ok || !impl.ModelSame(renamed, impl.Model{}) {
		t.Errorf("%s: PermuteModel(%.80v) = %v, %v", name, perm, renamed, ok)
	}
}

func checkNoRule(t *testing.T, name string, m impl.Model, rule int) {
	t.Helper()
	r, ok := impl.CanonicalRule(m, rule)
	if ok || !impl.ModelSame(modelOf(nil, r), modelOf(nil, impl.Rule{})) {
		t.Errorf("%s: CanonicalRule(%d) = %v, %v", name, rule, r, ok)
	}
}

func TestPermValid(t *testing.T) {
	for _, x := range []struct {
		sizes, perm string
		want        bool
	}{
		{"0", "0", true},
		{"3", "0", true},
		{"3", "1", false},
		{"11", "01", true},
		{"11", "10", true},
		{"11", "00", false},
		{"11", "11", false},
		{"11", "02", false},
		{"11", "20", false},
		{"12", "01", true},
		{"12", "10", false},
		{"212", "012", true},
		{"212", "210", true},
		{"212", "102", false},
		{"212", "120", false},
		{"212", "201", false},
		{"212", "212", false},
		{"221", "102", true},
		{"221", "210", false},
		{"222", "120", true},
		{"222", "201", true},
		{"222", "121", false},
		{"0303", "2301", true},
		{"0303", "2103", true},
		{"0303", "1032", false},
		{"11111", "43210", true},
		{"11111", "12340", true},
		{"11111", "12345", false},
		{"11111", "12344", false},
		{"11122", "12043", true},
		{"11122", "12340", false},
	} {
		m := readModel(t, "sizes "+x.sizes)
		if got := impl.PermValid(m, digits(x.perm)); got != x.want {
			t.Errorf("PermValid(%s, %s) = %v", x.sizes, x.perm, got)
		}
		// Without rules, each permutation is a symmetry.
		if got := impl.SymmetryValid(m, digits(x.perm)); got != x.want {
			t.Errorf("SymmetryValid(%s, %s) = %v", x.sizes, x.perm, got)
		}
		if !x.want {
			checkNoPerm(t, x.sizes, m, digits(x.perm))
		}
	}
}

func TestInvalidPermutations(t *testing.T) {
	for _, x := range validModels() {
		identity := unmoved(len(x.m.Sizes))
		if !impl.PermValid(x.m, identity) || !impl.SymmetryValid(x.m, identity) {
			t.Errorf("%s: the identity is no symmetry", x.name)
		}
		if same, ok := impl.PermuteModel(x.m, identity); !ok || !impl.ModelSame(same, x.m) {
			t.Errorf("%s: PermuteModel by the identity = %v, %v", x.name, same, ok)
		}
		for _, perm := range notPerms(len(x.m.Sizes)) {
			checkNoPerm(t, x.name, x.m, perm)
		}
	}
}

func TestSymmetriesOfInvalidModels(t *testing.T) {
	for _, x := range invalidModels() {
		for _, perm := range [][]int{unmoved(len(x.m.Sizes)), nil, {0}, {0, 1}, {1, 0}} {
			checkNoPerm(t, x.name, x.m, perm)
		}
		for rule := -1; rule <= len(x.m.Rules); rule++ {
			checkNoRule(t, x.name, x.m, rule)
		}
		if swaps := impl.FindSwaps(x.m); len(swaps) != 0 {
			t.Errorf("%s: FindSwaps(%.80v) = %v", x.name, x.m, swaps)
		}
		if broken, ok := impl.BreakSwaps(x.m); ok || !impl.ModelSame(broken, impl.Model{}) {
			t.Errorf("%s: BreakSwaps(%.80v) = %v, %v", x.name, x.m, broken, ok)
		}
	}
}

func TestPermuteCells(t *testing.T) {
	for _, x := range []struct{ sizes, perm, cells, want string }{
		{"0", "0", "0", "0"},
		{"3", "0", "2", "2"},
		{"22", "01", "12", "12"},
		{"22", "10", "12", "21"},
		{"222", "120", "012", "201"},
		{"222", "201", "012", "120"},
		{"222", "210", "012", "210"},
		{"212", "210", "012", "210"},
		{"3031", "2103", "1021", "2011"},
		{"11111", "12340", "10000", "01000"},
		{"11111", "12340", "00001", "10000"},
		{"11122", "20143", "01012", "10021"},
		{"11122", "20143", "11002", "10120"},
	} {
		m := readModel(t, "sizes "+x.sizes)
		if got, ok := impl.PermuteCells(m, digits(x.perm), digits(x.cells)); !ok || digitText(got) != x.want {
			t.Errorf("PermuteCells(%s, %s, %s) = %v, %v, not %s", x.sizes, x.perm, x.cells, got, ok, x.want)
		}
	}
	m := readModel(t, "sizes 121")
	for _, cells := range [][]int{nil, {}, {0}, {0, 0}, {0, 0, 0, 0}, {2, 0, 0}, {0, 3, 0}, {0, 0, 2}, {-1, 0, 0}, {0, 0, math.MinInt}, {math.MaxInt, 0, 0},
		make([]int, 3000), make([]int, 0, 3)} {
		for _, perm := range []string{"012", "210"} {
			if got, ok := impl.PermuteCells(m, digits(perm), cells); ok || len(got) != 0 {
				t.Errorf("PermuteCells(%s, %.80v) = %v, %v", perm, cells, got, ok)
			}
		}
	}
}

func TestPermuteModel(t *testing.T) {
	for _, x := range []struct{ lines, perm, want string }{
		{"sizes 3", "0", "sizes 3"},
		{"sizes 22\nless 01", "01", "sizes 22\nless 01"},
		{"sizes 22\nless 01", "10", "sizes 22\nless 10"},
		{"sizes 222\nless 01", "120", "sizes 222\nless 12"},
		{"sizes 222\nless 01", "201", "sizes 222\nless 20"},
		// The rules keep their order, and the cells and rows keep theirs.
		{"sizes 222\ndifferent 012\nless 20", "120", "sizes 222\ndifferent 120\nless 01"},
		{"sizes 221\nlinear 1 0 1 1 2 2 >= 1", "102", "sizes 221\nlinear 1 1 1 0 2 2 >= 1"},
		{"sizes 221\nlinear -2 2 3 0 >= -1\nless 01", "102", "sizes 221\nlinear -2 2 3 1 >= -1\nless 10"},
		{"sizes 212\ntable 02 12 01 12\ntable 1", "210", "sizes 212\ntable 20 12 01 12\ntable 1"},
		{"sizes 212\ntable 021 330 100", "210", "sizes 212\ntable 201 330 100"},
		{"sizes 11122\nless 43\ndifferent 30\nlinear 5 1 >= 1\ntable 24 10", "12043", "sizes 11122\nless 34\ndifferent 41\nlinear 5 2 >= 1\ntable 03 10"},
		{"sizes 11\n" + strings.Repeat("different 0\n", 7) + "different 1", "10", "sizes 11\n" + strings.Repeat("different 1\n", 7) + "different 0"},
	} {
		got, ok := impl.PermuteModel(readModel(t, x.lines), digits(x.perm))
		if !ok || impl.FormatModel(got) != x.want+"\n" {
			t.Errorf("PermuteModel(%q, %s) = %q, %v, not %q", x.lines, x.perm, impl.FormatModel(got), ok, x.want)
		}
	}
}

func TestCanonicalRule(t *testing.T) {
	for _, x := range []struct{ sizes, rule, want string }{
		{"3", "linear 5 0 >= -3", "linear 5 0 >= -3"},
		{"222", "linear 1 0 2 1 3 2 >= 4", "linear 1 0 2 1 3 2 >= 4"},
		{"222", "linear 1 2 2 1 3 0 >= 4", "linear 3 0 2 1 1 2 >= 4"},
		{"222", "linear 1 1 2 2 3 0 >= 4", "linear 3 0 1 1 2 2 >= 4"},
		{"222", "linear 1 2 2 0 3 1 >= -4", "linear 2 0 3 1 1 2 >= -4"},
		{"222", "linear -9 2 9 1 >= 0", "linear 9 1 -9 2 >= 0"},
		{"11122", "linear 1 4 2 2 3 0 4 3 5 1 >= 9", "linear 3 0 5 1 2 2 4 3 1 4 >= 9"},
		{"3", "different 0", "different 0"},
		{"222", "different 012", "different 012"},
		{"222", "different 210", "different 012"},
		{"222", "different 20", "different 02"},
		{"11122", "different 42031", "different 01234"},
		{"222", "less 01", "less 01"},
		{"222", "less 10", "less 10"},
		{"222", "less 20", "less 20"},
		{"222", "table 01", "table 01"},
		{"222", "table 20", "table 02"},
		{"222", "table 01 20 11 02", "table 01 02 11 20"},
		{"222", "table 10 20 11 02", "table 01 02 11 20"},
		{"222", "table 10 01 12 00", "table 01 00 10 21"},
		{"222", "table 01 12 12", "table 01 12"},
		{"222", "table 01 12 02 12", "table 01 02 12"},
		{"222", "table 10 12 02 12 02", "table 01 20 21"},
		{"222", "table 012 210 201 200 120", "table 012 120 200 201 210"},
		{"222", "table 120 210 201 200 120", "table 012 012 020 021 120"},
		{"222", "table 201 210 201 200 120", "table 012 002 012 102 201"},
		{"3", "table 0 3 1 2 0 1 3 3 1", "table 0 0 1 2 3"},
		{"3", "table 0 1 1 1 1 1 1 1 1", "table 0 1"},
		// The cells do not have the value 3.
		{"11", "table 10 31 03 31", "table 01 13 30"},
		{"11122", "table 40312 01230 10320 01230", "table 01234 02031 13020"},
	} {
		// Other rules change nothing.
		m := readModel(t, "sizes "+x.sizes, "different 0", x.rule, "table 0 1 0")
		r, ok := impl.CanonicalRule(m, 1)
		if want := readModel(t, "sizes "+x.sizes, x.want); !ok || !impl.ModelSame(modelOf(m.Sizes, r), want) {
			t.Errorf("CanonicalRule(%q) = %v, %v, not %q", x.rule, r, ok, x.want)
		}
	}
	for _, x := range validModels() {
		for _, rule := range []int{-1, len(x.m.Rules), len(x.m.Rules) + 1, impl.MaxRules, math.MinInt, math.MaxInt} {
			checkNoRule(t, x.name, x.m, rule)
		}
		for rule := range x.m.Rules {
			if r, ok := impl.CanonicalRule(x.m, rule); !ok || r.Kind != x.m.Rules[rule].Kind {
				t.Errorf("%s: CanonicalRule(%d) = %v, %v", x.name, rule, r, ok)
			}
		}
	}
}

// TestCanonicalRulesAreEquivalent also checks that rules that differ only in their order and in duplicates have the same
// standard order.
func TestCanonicalRulesAreEquivalent(t *testing.T) {
	n := &numbers{state: 34}
	changed := 0
	for range 1500 {
		sizes := n.sizes()
		r := n.rule(len(sizes))
		m := modelOf(sizes, r, n.mixed(r))
		one, ok := impl.CanonicalRule(m, 0)
		other, otherOk := impl.CanonicalRule(m, 1)
		both := modelOf(sizes, one, other)
		text := slowStandard(sizes, r)
		if !ok || !otherOk || impl.FormatModel(both) != "sizes "+digitText(sizes)+"\n"+text+text {
			t.Errorf("CanonicalRule(%q) = %v, %v and %v, %v, not %q", impl.FormatModel(m), one, ok, other, otherOk, text)
			continue
		}
		if !impl.ModelSame(both, m) {
			changed++
		}
		if again, ok := impl.CanonicalRule(both, 0); !ok || !impl.ModelSame(modelOf(sizes, again, again), both) {
			t.Errorf("CanonicalRule(%q) = %v, %v changes again", impl.FormatModel(both), again, ok)
		}
		for _, cells := range modelCells(sizes) {
			if impl.RuleHolds(both, 0, cells) != holdsSlowly(r, cells) {
				t.Errorf("the standard order %q of %v is not equivalent for %v", text, r, cells)
			}
		}
	}
	if changed < 500 || changed > 1400 {
		t.Errorf("the cases are one-sided: %d", changed)
	}
}

func TestSymmetryValid(t *testing.T) {
	for _, x := range []struct {
		lines, perm string
		want        bool
	}{
		{"sizes 22\ndifferent 01", "10", true},
		{"sizes 22\ndifferent 01", "00", false},
		{"sizes 22\nless 01", "10", false},
		{"sizes 22\nless 01\nless 10", "10", true},
		{"sizes 222\nless 01\nless 12\nless 20", "120", true},
		{"sizes 222\nless 01\nless 12\nless 20", "201", true},
		{"sizes 222\nless 01\nless 12\nless 20", "102", false},
		{"sizes 222\nless 02\nless 12", "102", true},
		{"sizes 222\nless 02\nless 12", "210", false},
		// Rules differ only in the order of their cells.
		{"sizes 222\ndifferent 01\ndifferent 12", "210", true},
		{"sizes 222\ndifferent 10\ndifferent 12", "210", true},
		{"sizes 222\ndifferent 01\ndifferent 12", "120", false},
		{"sizes 222\ndifferent 01\ndifferent 12\ndifferent 20", "120", true},
		{"sizes 222\ndifferent 01\ndifferent 12\ndifferent 02", "120", true},
		{"sizes 22\nlinear 1 0 1 1 >= 2", "10", true},
		{"sizes 22\nlinear 1 1 1 0 >= 2", "10", true},
		{"sizes 22\nlinear 1 0 2 1 >= 2", "10", false},
		{"sizes 22\nlinear 1 0 -1 1 >= 0", "10", false},
		{"sizes 22\nlinear 1 0 2 1 >= 2\nlinear 1 1 2 0 >= 2", "10", true},
		{"sizes 22\nlinear 1 0 2 1 >= 2\nlinear 2 0 1 1 >= 2", "10", true},
		{"sizes 22\nlinear 1 0 2 1 >= 2\nlinear 2 0 1 1 >= 3", "10", false},
		{"sizes 22\nlinear 1 0 >= 1\nlinear 1 1 >= 1", "10", true},
		{"sizes 22\nlinear 1 0 >= 1\nlinear 2 1 >= 1", "10", false},
		{"sizes 22\ntable 01 01 10", "10", true},
		{"sizes 22\ntable 10 01 10", "10", true},
		{"sizes 22\ntable 01 01", "10", false},
		{"sizes 22\ntable 01 00 11", "10", true},
		{"sizes 22\ntable 01", "10", true},
		{"sizes 22\ntable 01 01\ntable 10 01", "10", true},
		{"sizes 22\ntable 01 01\ntable 01 10", "10", true},
		{"sizes 22\ntable 01 01\ntable 10 10", "10", false},
		// Rows occur twice, on one side only.
		{"sizes 22\ntable 01 01 10 01", "10", true},
		{"sizes 22\ntable 0 1 2 1\ntable 1 2 1", "10", true},
		{"sizes 22\ntable 0 1 2 1\ntable 1 2", "10", false},
		// Rules occur twice, on one side only.
		{"sizes 22\nlinear 1 0 >= 1\nlinear 1 1 >= 1\nlinear 1 0 >= 1", "10", true},
		{"sizes 22\nlinear 1 0 >= 1\nlinear 1 0 >= 1", "10", false},
		{"sizes 222\ndifferent 01\ndifferent 12\ndifferent 10", "210", true},
		// A rule of which the other ones say less is no symmetry, and rules of different kinds are not the same.
		{"sizes 22\nlinear 1 0 1 1 >= 1\nlinear 1 0 >= 1", "10", false},
		{"sizes 22\nlinear 1 0 >= 1\nlinear 1 0 1 1 >= 1", "10", false},
		{"sizes 11\ntable 0 0 1\ndifferent 1", "10", false},
		{"sizes 11\nless 01\ntable 10 10", "10", false},
		{"sizes 11\ntable 0 0 1", "10", false},
		{"sizes 11\ntable 0 0 1", "01", true},
		{"sizes 11\nlinear 1 0 >= -5\nlinear 1 1 >= -6", "10", false},
		// Only cells of the same size have images.
		{"sizes 212\ndifferent 012", "210", true},
		{"sizes 212\ndifferent 012", "102", false},
		{"sizes 212\ndifferent 01", "210", false},
		{"sizes 1122\nless 02\nless 13", "1032", true},
		{"sizes 1122\nless 02\nless 13", "1023", false},
		{"sizes 11111\ndifferent 01\ndifferent 12\ndifferent 23\ndifferent 34\ndifferent 40", "12340", true},
		{"sizes 11111\ndifferent 01\ndifferent 12\ndifferent 23\ndifferent 34\ndifferent 40", "43210", true},
		{"sizes 11111\ndifferent 01\ndifferent 12\ndifferent 23\ndifferent 34\ndifferent 40", "10234", false},
	} {
		if got := impl.SymmetryValid(readModel(t, x.lines), digits(x.perm)); got != x.want {
			t.Errorf("SymmetryValid(%q, %s) = %v", x.lines, x.perm, got)
		}
	}
}

func TestSwaps(t *testing.T) {
	for _, x := range []struct {
		lines, swaps string
		// many tells that there would be more than MaxRules rules.
		many bool
	}{
		{"sizes 0", "", false},
		{"sizes 3", "", false},
		{"sizes 22", "01", false},
		{"sizes 22\ndifferent 01", "01", false},
		{"sizes 22\nless 01", "", false},
		{"sizes 22\nless 01\nless 10", "01", false},
		{"sizes 00\nless 01\nless 10", "01", false},
		// Cells have different sizes.
		{"sizes 21", "", false},
		{"sizes 212", "02", false},
		{"sizes 122", "12", false},
		{"sizes 123", "", false},
		{"sizes 212\ndifferent 01\ndifferent 12", "02", false},
		{"sizes 212\ndifferent 01\ndifferent 02", "", false},
		{"sizes 1212", "02 13", false},
		{"sizes 0220\ndifferent 0123", "03 12", false},
		{"sizes 11122", "01 02 12 34", false},
		{"sizes 11122\nless 03\nless 13\nless 23", "01 02 12", false},
		{"sizes 11122\nless 03\nless 13\nless 24", "01", false},
		{"sizes 11122\nless 03\nless 04", "12 34", false},
		// Rules differ only in the order of their cells.
		{"sizes 222\ndifferent 210", "01 02 12", false},
		{"sizes 222\nlinear 1 2 1 0 2 1 >= 3", "02", false},
		{"sizes 222\nlinear 1 0 1 1 >= 2\nlinear 1 2 1 1 >= 2", "02", false},
		{"sizes 222\nlinear 1 0 1 1 >= 2\nlinear 1 2 1 1 >= 2\nlinear 1 2 1 0 >= 2", "01 02 12", false},
		{"sizes 222\ntable 01 01 12\ntable 12 10 21", "02", false},
		{"sizes 222\ntable 01 01 12\ntable 12 01 12", "", false},
		{"sizes 111\nlinear 2 2 1 0 1 1 >= 2\ntable 10 01 10 01", "01", false},
		// Exchanges are a chain, or no chain.
		{"sizes 1111\ndifferent 01\ndifferent 23", "01 23", false},
		{"sizes 1111\ndifferent 01\ndifferent 12\ndifferent 23", "", false},
		{"sizes 1111\ndifferent 03\ndifferent 31\ndifferent 23", "01 02 12", false},
		{"sizes 1111\nless 10\nless 12\nless 13", "02 03 23", false},
		{"sizes 11111\nless 20\nless 23\nless 24\nlinear 1 1 >= 1", "03 04 34", false},
		{"sizes 222\nless 01\nless 12\nless 20", "", false},
		{"sizes 222\nless 01\nless 12", "", false},
		{"sizes 2222\ndifferent 01\ndifferent 12\ndifferent 23\ndifferent 30", "02 13", false},
		{"sizes 2222\ndifferent 0123\ndifferent 0", "12 13 23", false},
		// There are as many rules as there may be, or more.
		{"sizes 1111", "01 02 03 12 13 23", false},
		{"sizes 1111\ndifferent 0123\ndifferent 1230", "01 02 03 12 13 23", false},
		{"sizes 1111\ndifferent 0123\ndifferent 1230\ndifferent 2301", "01 02 03 12 13 23", true},
		{"sizes 11111", "01 02 03 04 12 13 14 23 24 34", true},
		{"sizes 00000\ndifferent 01234", "01 02 03 04 12 13 14 23 24 34", true},
		{"sizes 22" + strings.Repeat("\ndifferent 01", 7), "01", false},
		{"sizes 22" + strings.Repeat("\ndifferent 01", 8), "01", true},
		{"sizes 22" + strings.Repeat("\nless 01", 8), "", false},
		{"sizes 222" + strings.Repeat("\ndifferent 021", 5), "01 02 12", false},
		{"sizes 222" + strings.Repeat("\ndifferent 021", 6), "01 02 12", true},
	} {
		m := readModel(t, x.lines)
		var swaps [][]int
		for pair := range strings.FieldsSeq(x.swaps) {
			swaps = append(swaps, digits(pair))
		}
		checkSwaps(t, m, swaps)
		if many := len(m.Rules)+len(swaps) > impl.MaxRules; many != x.many {
			t.Errorf("%q has %d rules", x.lines, len(m.Rules))
		}
	}
}

// checkSwaps checks the results of FindSwaps and BreakSwaps.
func checkSwaps(t *testing.T, m impl.Model, swaps [][]int) {
	t.Helper()
	if got := impl.FindSwaps(m); !slices.EqualFunc(got, swaps, slices.Equal) {
		t.Errorf("FindSwaps(%q) = %v, not %v", impl.FormatModel(m), got, swaps)
	}
	broken, ok := impl.BreakSwaps(m)
	if len(m.Rules)+len(swaps) > impl.MaxRules {
		if ok || !impl.ModelSame(broken, impl.Model{}) {
			t.Errorf("BreakSwaps(%q) = %v, %v, with too many rules", impl.FormatModel(m), broken, ok)
		}
		return
	}
	if want := slowBreak(m, swaps); !ok || impl.FormatModel(broken) != want {
		t.Errorf("BreakSwaps(%q) = %q, %v, not %q", impl.FormatModel(m), impl.FormatModel(broken), ok, want)
	}
}

// TestBreakingAChainSortsItsCells checks that solutions remain exactly where the cells that can be exchanged are in order.
func TestBreakingAChainSortsItsCells(t *testing.T) {
	for _, x := range []struct{ lines, want string }{
		{"sizes 22\ndifferent 01", "01 02 12"},
		{"sizes 222\ndifferent 012", "012"},
		{"sizes 111", "000 001 011 111"},
		{"sizes 1111\nlinear 1 0 1 1 1 2 1 3 >= 3", "0111 1111"},
		{"sizes 212\nlinear 1 0 1 1 1 2 >= 4", "112 202 212"},
		{"sizes 1111\nless 10\nless 13", "1001 1011"},
		{"sizes 1212\ndifferent 02\ndifferent 13", "0011 0012 0112"},
		{"sizes 11\nless 01\nless 10", ""},
		{"sizes 111\ndifferent 012", ""},
	} {
		broken, ok := impl.BreakSwaps(readModel(t, x.lines))
		var found []string
		for _, cells := range modelSolutions(broken) {
			found = append(found, digitText(cells))
		}
		if got := strings.Join(found, " "); !ok || got != x.want {
			t.Errorf("after BreakSwaps, %q has the solutions %s, not %s", x.lines, got, x.want)
		}
	}
}

func TestSymmetriesAreWhatTheDocumentSays(t *testing.T) {
	n := &numbers{state: 35}
	var seen struct{ symmetries, others, swaps, chains, many int }
	for range 1200 {
		m := n.evenModel()
		if n.between(0, 5) == 0 {
			m = n.model(2)
		}
		for _, perm := range allPerms(len(m.Sizes)) {
			valid := slices.Equal(valuesAt(m.Sizes, perm), m.Sizes)
			if impl.PermValid(m, perm) != valid {
				t.Errorf("PermValid(%v, %v) = %v", m.Sizes, perm, !valid)
			}
			if !valid {
				checkNoPerm(t, "cells of different sizes", m, perm)
				continue
			}
			want := slowSymmetry(m, perm)
			if impl.SymmetryValid(m, perm) != want {
				t.Errorf("SymmetryValid(%q, %v) = %v", impl.FormatModel(m), perm, !want)
			}
			if want && len(m.Rules) > 0 {
				seen.symmetries++
			} else {
				seen.others++
			}
		}
		swaps := slowSwaps(m)
		checkSwaps(t, m, swaps)
		switch {
		case len(m.Rules)+len(swaps) > impl.MaxRules:
			seen.many++
		case len(m.Rules) > 0 && len(swaps) > 1:
			seen.chains++
		case len(m.Rules) > 0 && len(swaps) > 0:
			seen.swaps++
		}
	}
	if min(seen.symmetries, seen.others, seen.swaps, seen.chains, seen.many) < 50 {
		t.Errorf("the cases are one-sided: %+v", seen)
	}
}

// TestPermutedModelsHaveThePermutedSolutions checks promise 10 for symmetries, and the like for all permutations.
func TestPermutedModelsHaveThePermutedSolutions(t *testing.T) {
	n := &numbers{state: 36}
	symmetries, solutions := 0, 0
	for range 1500 {
		m := n.evenModel()
		perms := sizedPerms(m.Sizes)
		perm := perms[n.between(0, len(perms)-1)]
		renamed, ok := impl.PermuteModel(m, perm)
		want := impl.Model{Sizes: m.Sizes}
		for _, r := range m.Rules {
			want.Rules = append(want.Rules, renameSlowly(r, perm))
		}
		if !ok || !impl.ModelSame(renamed, want) {
			t.Errorf("PermuteModel(%q, %v) = %v, %v", impl.FormatModel(m), perm, renamed, ok)
		}
		symmetry := impl.SymmetryValid(m, perm)
		if symmetry && len(m.Rules) > 0 && !slices.Equal(perm, unmoved(len(perm))) {
			symmetries++
		}
		for _, cells := range modelCells(m.Sizes) {
			moved, ok := impl.PermuteCells(m, perm, cells)
			if !ok || !slices.Equal(moved, moveSlowly(perm, cells)) {
				t.Errorf("PermuteCells(%v, %v) = %v, %v", perm, cells, moved, ok)
			}
			solves := impl.SolvesModel(m, cells)
			if impl.SolvesModel(renamed, moved) != solves || symmetry && impl.SolvesModel(m, moved) != solves {
				t.Errorf("%q, %v: the permutation maps %v to %v", impl.FormatModel(m), perm, cells, moved)
			}
			if symmetry && solves {
				solutions++
			}
		}
	}
	if symmetries < 150 || solutions < 1000 {
		t.Errorf("the cases are one-sided: %d, %d", symmetries, solutions)
	}
}

// TestSymmetriesAreAGroup checks that permutations that are done one after the other are one permutation.
func TestSymmetriesAreAGroup(t *testing.T) {
	n := &numbers{state: 37}
	for range 100 {
		m := n.evenModel()
		perms := slices.DeleteFunc(sizedPerms(m.Sizes), func(perm []int) bool { return !impl.SymmetryValid(m, perm) })
		for _, first := range perms {
			second := perms[n.between(0, len(perms)-1)]
			both := valuesAt(second, first)
			if !impl.SymmetryValid(m, both) {
				t.Errorf("%v and then %v is no symmetry of %q", first, second, impl.FormatModel(m))
			}
			once, _ := impl.PermuteModel(m, first)
			twice, _ := impl.PermuteModel(once, second)
			if direct, ok := impl.PermuteModel(m, both); !ok || !impl.ModelSame(twice, direct) {
				t.Errorf("PermuteModel(%q, %v) = %v, %v, not %v", impl.FormatModel(m), both, direct, ok, twice)
			}
			cells := slices.Clone(m.Sizes)
			for cell, size := range cells {
				cells[cell] = n.between(0, size)
			}
			moved, _ := impl.PermuteCells(m, first, cells)
			moved, _ = impl.PermuteCells(m, second, moved)
			if direct, ok := impl.PermuteCells(m, both, cells); !ok || !slices.Equal(moved, direct) {
				t.Errorf("PermuteCells(%v, %v) = %v, %v, not %v", both, cells, direct, ok, moved)
			}
		}
	}
}

// TestBreakingExchangesKeepsASolution checks promise 10: each solution can be sorted by exchanges to one that remains.
func TestBreakingExchangesKeepsASolution(t *testing.T) {
	n := &numbers{state: 38}
	fewer, unsolved := 0, 0
	for range 1500 {
		m := n.evenModel()
		broken, ok := impl.BreakSwaps(m)
		if !ok {
			continue
		}
		before, after := modelSolutions(m), modelSolutions(broken)
		if (len(before) > 0) != (len(after) > 0) || impl.CountModel(broken) != len(after) {
			t.Errorf("%q has %d solutions, and %d after BreakSwaps", impl.FormatModel(m), len(before), len(after))
		}
		swaps := impl.FindSwaps(m)
		for _, cells := range before {
			sorted := slices.Clone(cells)
			for range len(swaps) {
				for _, swap := range swaps {
					a, b := swap[0], swap[1]
					sorted[a], sorted[b] = min(sorted[a], sorted[b]), max(sorted[a], sorted[b])
				}
			}
			if !impl.SolvesModel(broken, sorted) || impl.SolvesModel(broken, cells) != slices.Equal(cells, sorted) {
				t.Errorf("%q: the solution %v, sorted %v, is wrong after BreakSwaps", impl.FormatModel(m), cells, sorted)
			}
		}
		switch {
		case len(before) == 0:
			unsolved++
		case len(after) < len(before):
			fewer++
		}
	}
	if fewer < 300 || unsolved < 100 {
		t.Errorf("the cases are one-sided: %d, %d", fewer, unsolved)
	}
}

func TestSymmetriesKeepTheirArguments(t *testing.T) {
	perm := [5]int{2, 1, 0, 7, 7}
	checkModelKept(t, func(m impl.Model, cells []int) {
		for _, perm := range [][]int{perm[:3], perm[:2], perm[:4]} {
			impl.PermValid(m, perm)
			impl.PermuteCells(m, perm, cells)
			impl.PermuteModel(m, perm)
			impl.SymmetryValid(m, perm)
		}
		for rule := range m.Rules {
			if _, ok := impl.CanonicalRule(m, rule); !ok {
				t.Errorf("CanonicalRule refuses rule %d", rule)
			}
		}
		impl.FindSwaps(m)
		if _, ok := impl.BreakSwaps(m); !ok {
			t.Error("BreakSwaps refuses the model")
		}
	})
	if perm != [5]int{2, 1, 0, 7, 7} {
		t.Error("a function of symmetries changes a permutation")
	}
}

// checkOwnParts overwrites each slice of numbers of a result in turn, with its unused capacity, and looks for changes
// elsewhere.
func checkOwnParts(t *testing.T, name string, m impl.Model, use func(m impl.Model) impl.Model) {
	t.Helper()
	before := copyModel(m)
	want := parts(copyModel(use(m)))
	for spoiled := range want {
		result, other := use(m), use(m)
		lists := parts(result)
		whole := lists[spoiled][:cap(lists[spoiled])]
		for i := range whole {
			whole[i] = 99
		}
		for i, list := range lists {
			if i != spoiled && !slices.Equal(list, want[i]) {
				t.Errorf("%s: part %d shares memory with part %d", name, i, spoiled)
			}
		}
		for _, r := range result.Rules {
			clear(r.Rows[:cap(r.Rows)])
		}
		clear(result.Rules[:cap(result.Rules)])
		if !impl.ModelSame(m, before) || !slices.EqualFunc(parts(other), want, slices.Equal) || !slices.EqualFunc(parts(use(m)), want, slices.Equal) {
			t.Errorf("%s: a result shares memory with an argument or another result", name)
		}
	}
}

func TestSymmetriesShareNoMemory(t *testing.T) {
	m := readModel(t, "sizes 212", "linear 1 2 -2 0 >= -3", "different 210", "table 21 00 10 00 01", "less 02", "table 0")
	checkOwnParts(t, "PermuteModel", m, func(m impl.Model) impl.Model {
		renamed, _ := impl.PermuteModel(m, []int{2, 1, 0})
		return renamed
	})
	for rule := range m.Rules {
		checkOwnParts(t, "CanonicalRule", m, func(m impl.Model) impl.Model {
			r, _ := impl.CanonicalRule(m, rule)
			return modelOf(nil, r)
		})
	}
	even := readModel(t, "sizes 2222", "table 23 00 11 00", "linear 1 2 1 3 >= 1")
	for _, m := range []impl.Model{m, even} {
		checkOwnParts(t, "BreakSwaps", m, func(m impl.Model) impl.Model {
			broken, ok := impl.BreakSwaps(m)
			if !ok {
				t.Errorf("BreakSwaps refuses %q", impl.FormatModel(m))
			}
			return broken
		})
	}
	checkOwnParts(t, "FindSwaps", even, func(m impl.Model) impl.Model {
		return modelOf(nil, table(nil, impl.FindSwaps(m)...))
	})
	perm, cells := []int{2, 1, 0}, []int{0, 1, 2}
	checkOwnParts(t, "PermuteCells", m, func(m impl.Model) impl.Model {
		moved, _ := impl.PermuteCells(m, perm, cells)
		return modelOf(moved)
	})
	if !slices.Equal(perm, []int{2, 1, 0}) || !slices.Equal(cells, []int{0, 1, 2}) {
		t.Error("the cells of PermuteCells share memory with an argument")
	}
}
