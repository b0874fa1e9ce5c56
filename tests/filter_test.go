package tests

import (
	"math"
	"slices"
	"strings"
	"testing"

	"loop.example/cuttingplanes/impl"
)

// domainsOf reads domains as a word for each cell, with 1 for each value that it may have.
func domainsOf(text string) [][]bool {
	var d [][]bool
	for word := range strings.FieldsSeq(text) {
		domain := make([]bool, len(word))
		for value := range domain {
			domain[value] = word[value] == '1'
		}
		d = append(d, domain)
	}
	return d
}

func domainText(d [][]bool) string {
	var words []string
	for _, domain := range d {
		word := ""
		for _, included := range domain {
			if included {
				word += "1"
			} else {
				word += "0"
			}
		}
		words = append(words, word)
	}
	return strings.Join(words, " ")
}

func copyDomains(d [][]bool) [][]bool {
	var again [][]bool
	for _, domain := range d {
		again = append(again, slices.Clone(domain))
	}
	return again
}

func sameDomains(a, b [][]bool) bool { return slices.EqualFunc(a, b, slices.Equal) }

func fullDomains(sizes []int) [][]bool {
	var d [][]bool
	for _, size := range sizes {
		d = append(d, slices.Repeat([]bool{true}, size+1))
	}
	return d
}

func emptyDomains(sizes []int) [][]bool {
	var d [][]bool
	for _, size := range sizes {
		d = append(d, make([]bool, size+1))
	}
	return d
}

func someEmpty(d [][]bool) bool {
	empty := func(domain []bool) bool { return !slices.Contains(domain, true) }
	return slices.ContainsFunc(d, empty)
}

func inDomains(d [][]bool, cells []int) bool {
	for cell, value := range cells {
		if !d[cell][value] {
			return false
		}
	}
	return true
}

// filterCase has the lines of a model, of whose rules the first one is used, and domains before and after that.
type filterCase struct {
	lines, before, after string
}

type filter func(m impl.Model, d [][]bool) ([][]bool, bool)

func filterFirst(m impl.Model, d [][]bool) ([][]bool, bool) { return impl.FilterRule(m, 0, d) }

func boundFirst(m impl.Model, d [][]bool) ([][]bool, bool) { return impl.BoundsRule(m, 0, d) }

func checkFilter(t *testing.T, name string, use filter, cases []filterCase) {
	t.Helper()
	for _, x := range cases {
		d, ok := use(readModel(t, x.lines), domainsOf(x.before))
		if !ok || domainText(d) != x.after {
			t.Errorf("%s(%q, %s) = %s, %v, not %s", name, x.lines, x.before, domainText(d), ok, x.after)
		}
	}
}

func TestFilterRule(t *testing.T) {
	checkFilter(t, "FilterRule", filterFirst, []filterCase{
		{"sizes 22\nless 01", "111 111", "110 011"},
		{"sizes 22\nless 10", "111 111", "011 110"},
		{"sizes 22\nless 01", "101 111", "100 011"},
		{"sizes 22\nless 01", "011 111", "010 001"},
		{"sizes 22\nless 01", "001 111", "000 000"},
		{"sizes 22\nless 01", "111 100", "000 000"},
		{"sizes 03\nless 01", "1 1111", "1 0111"},
		{"sizes 222\nless 20", "111 101 111", "011 101 110"},
		{"sizes 222\nless 20", "100 101 111", "000 000 000"},
		{"sizes 22\ndifferent 01", "111 111", "111 111"},
		{"sizes 33\ndifferent 01", "0100 1111", "0100 1011"},
		{"sizes 33\ndifferent 10", "0100 0100", "0000 0000"},
		{"sizes 222\ndifferent 012", "110 110 111", "110 110 001"},
		{"sizes 222\ndifferent 012", "110 110 110", "000 000 000"},
		{"sizes 0123\ndifferent 3210", "1 11 111 1111", "1 01 001 0001"},
		{"sizes 00000\ndifferent 43210", "1 1 1 1 1", "0 0 0 0 0"},
		{"sizes 22\ntable 01", "111 111", "000 000"},
		{"sizes 22\ntable 01 20 11 20", "111 111", "011 110"},
		{"sizes 22\ntable 01 20 11 20", "101 111", "001 100"},
		{"sizes 22\ntable 01 20 11 02", "111 111", "111 111"},
		{"sizes 12\ntable 10 20 11 00", "11 111", "11 111"},
		{"sizes 12\ntable 10 20 11 00", "10 111", "10 101"},
		{"sizes 01\ntable 01 02 01 33", "1 11", "1 01"},
		{"sizes 01\ntable 01 02 30 33", "1 11", "0 00"},
		{"sizes 22\nlinear 1 0 1 1 >= 4", "111 111", "001 001"},
		{"sizes 22\nlinear 1 0 1 1 >= 3", "111 111", "011 011"},
		{"sizes 22\nlinear 1 0 1 1 >= 3", "101 110", "001 010"},
		{"sizes 22\nlinear 1 0 1 1 >= 5", "111 111", "000 000"},
		{"sizes 22\nlinear 1 0 1 1 >= -1000", "101 010", "101 010"},
		{"sizes 11122\nlinear 1 0 1 1 1 2 1 3 1 4 >= 6", "11 11 11 111 111", "11 11 11 011 011"},
		{"sizes 11122\nlinear 1 4 1 3 1 2 1 1 1 0 >= 7", "11 11 11 111 111", "01 01 01 001 001"},
		{"sizes 0\nlinear 5 0 >= 0", "1", "1"},
		{"sizes 0\nlinear 5 0 >= 1", "1", "0"},
	})
}

func TestFilterRuleWithAnEmptyDomain(t *testing.T) {
	checkFilter(t, "FilterRule", filterFirst, []filterCase{
		{"sizes 22\nless 01", "111 000", "000 000"},
		{"sizes 22\nless 01", "000 111", "000 000"},
		{"sizes 22\nless 01", "000 000", "000 000"},
		{"sizes 222\ndifferent 01", "111 111 000", "000 000 000"},
		{"sizes 222\ndifferent 2", "111 000 101", "000 000 000"},
		{"sizes 222\ntable 1 2", "000 111 111", "000 000 000"},
		{"sizes 20\nlinear 1 0 >= -1000", "111 0", "000 0"},
		{"sizes 02\nlinear 1 1 >= 0", "0 111", "0 000"},
		{"sizes 3\ndifferent 0", "0000", "0000"},
		{"sizes 0\ntable 0 0", "0", "0"},
		{"sizes 11122\nless 01", "11 11 11 111 000", "00 00 00 000 000"},
		{"sizes 11122\nless 43", "00 11 11 111 111", "00 00 00 000 000"},
	})
}

func TestFilterRuleWithASingleCell(t *testing.T) {
	checkFilter(t, "FilterRule", filterFirst, []filterCase{
		{"sizes 3\nlinear 1 0 >= 2", "1111", "0011"},
		{"sizes 3\nlinear 1 0 >= 2", "1101", "0001"},
		{"sizes 3\nlinear 1 0 >= 2", "1100", "0000"},
		{"sizes 3\nlinear 2 0 >= 3", "1111", "0011"},
		{"sizes 3\nlinear -1 0 >= -1", "1111", "1100"},
		{"sizes 3\nlinear -2 0 >= -5", "0111", "0110"},
		{"sizes 3\nlinear -9 0 >= 0", "1111", "1000"},
		{"sizes 3\nlinear -9 0 >= 1", "1111", "0000"},
		{"sizes 3\ndifferent 0", "1111", "1111"},
		{"sizes 3\ndifferent 0", "1010", "1010"},
		{"sizes 3\ntable 0 2 3 2", "1111", "0011"},
		{"sizes 3\ntable 0 2 3 2", "1110", "0010"},
		{"sizes 3\ntable 0", "1111", "0000"},
		{"sizes 202\nlinear 1 2 >= 1", "101 1 111", "101 1 011"},
		{"sizes 202\nlinear -1 2 >= 1", "101 1 111", "000 0 000"},
	})
}

func TestFilterRuleWithNegativeCoefficients(t *testing.T) {
	checkFilter(t, "FilterRule", filterFirst, []filterCase{
		{"sizes 33\nlinear -2 0 1 1 >= 0", "1111 1111", "1100 1111"},
		{"sizes 33\nlinear 2 0 -1 1 >= 3", "1111 1111", "0011 1111"},
		{"sizes 33\nlinear 2 0 -1 1 >= 3", "1110 1111", "0010 1100"},
		{"sizes 33\nlinear -1 1 2 0 >= 3", "1110 0110", "0010 0100"},
		{"sizes 33\nlinear -1 0 -1 1 >= -1", "1111 1111", "1100 1100"},
		{"sizes 33\nlinear -1 0 -1 1 >= -1", "0111 1111", "0100 1000"},
		{"sizes 33\nlinear -1 0 -1 1 >= -1", "0111 0111", "0000 0000"},
		{"sizes 333\nlinear 9 0 -9 1 9 2 >= 54", "1111 1111 1111", "0001 1000 0001"},
		{"sizes 333\nlinear 9 0 -9 1 9 2 >= 45", "1111 1111 1111", "0011 1100 0011"},
	})
}

func TestBoundsRule(t *testing.T) {
	checkFilter(t, "BoundsRule", boundFirst, []filterCase{
		{"sizes 33\nlinear 2 0 -1 1 >= 3", "1111 1111", "0011 1111"},
		{"sizes 33\nlinear 2 0 -1 1 >= 3", "1110 1111", "0010 1100"},
		{"sizes 33\nlinear -1 1 2 0 >= 3", "1110 0110", "0010 0100"},
		{"sizes 33\nlinear -2 0 1 1 >= 0", "1111 1111", "1100 1111"},
		{"sizes 33\nlinear -2 0 1 1 >= 0", "1111 1010", "1100 1010"},
		{"sizes 33\nlinear -1 0 -1 1 >= -1", "1111 1111", "1100 1100"},
		{"sizes 33\nlinear -1 0 -1 1 >= -3", "0101 1011", "0101 1010"},
		{"sizes 3\nlinear 1 0 >= 2", "1111", "0011"},
		{"sizes 3\nlinear 1 0 >= 3", "1110", "0000"},
		{"sizes 3\nlinear -9 0 >= -9", "0110", "0100"},
		{"sizes 3\nlinear -9 0 >= -8", "0110", "0000"},
		{"sizes 3\nlinear 1 0 >= -1000", "0110", "0110"},
		{"sizes 3\nlinear 9 0 >= 1000", "0110", "0000"},
		{"sizes 0\nlinear -5 0 >= 0", "1", "1"},
		{"sizes 0\nlinear -5 0 >= 1", "1", "0"},
		{"sizes 222\nlinear 1 0 1 1 >= 3", "111 111 101", "011 011 101"},
		{"sizes 222\nlinear 1 0 1 1 >= 4", "111 111 101", "001 001 101"},
		{"sizes 222\nlinear 1 0 1 1 >= 5", "111 111 101", "000 000 101"},
		{"sizes 222\nlinear 1 2 -1 0 >= 3", "110 010 101", "000 010 000"},
		{"sizes 11122\nlinear 1 4 1 3 1 2 1 1 1 0 >= 6", "11 11 11 111 111", "11 11 11 011 011"},
		{"sizes 11122\nlinear 1 4 1 3 1 2 1 1 1 0 >= 6", "10 11 11 111 111", "10 01 01 001 001"},
		{"sizes 333\nlinear 9 0 -9 1 9 2 >= 45", "1111 1111 1111", "0011 1100 0011"},
	})
}

func TestBoundsRuleRefusesRules(t *testing.T) {
	lines := []string{"sizes 221", "different 01", "table 01 00 11", "less 01", "linear 1 0 1 1 >= 1"}
	m := readModel(t, lines...)
	for _, x := range []struct {
		rule   int
		before string
		want   bool
	}{
		{3, "111 111 11", true},
		{3, "100 100 10", true},
		{3, "111 111 00", false},
		{3, "000 111 11", false},
		{3, "111 000 11", false},
		{3, "000 000 00", false},
		{0, "111 111 11", false},
		{1, "111 111 11", false},
		{2, "111 111 11", false},
		{-1, "111 111 11", false},
		{4, "111 111 11", false},
		{math.MinInt, "111 111 11", false},
		{math.MaxInt, "111 111 11", false},
	} {
		d, ok := impl.BoundsRule(m, x.rule, domainsOf(x.before))
		if ok != x.want || ok != (len(d) > 0) {
			t.Errorf("BoundsRule(%d, %s) = %s, %v", x.rule, x.before, domainText(d), ok)
		}
	}
}

func TestFilterModel(t *testing.T) {
	checkFilter(t, "FilterModel", impl.FilterModel, []filterCase{
		{"sizes 22", "111 111", "111 111"},
		{"sizes 22", "000 101", "000 101"},
		{"sizes 0", "0", "0"},
		{"sizes 22\nless 01", "111 111", "110 011"},
		{"sizes 22\nless 01\nless 10", "111 111", "000 000"},
		{"sizes 222\nless 01", "111 111 000", "000 000 000"},
		{"sizes 222\ndifferent 0", "111 111 000", "000 000 000"},
		{"sizes 222\nless 01\nless 12", "111 111 111", "100 010 001"},
		{"sizes 222\nless 12\nless 01", "111 111 111", "100 010 001"},
		{"sizes 222\nless 12\nless 01", "111 101 111", "000 000 000"},
		{"sizes 2222\nless 23\nless 12\nless 01", "111 111 111 111", "000 000 000 000"},
		{"sizes 111\ndifferent 012\ndifferent 20", "11 11 11", "00 00 00"},
		{"sizes 111\ndifferent 01\ndifferent 12\ndifferent 20", "11 11 11", "11 11 11"},
		{"sizes 111\ndifferent 01\ndifferent 12\ndifferent 20", "10 11 11", "00 00 00"},
		{"sizes 333\nlinear 1 0 -1 1 >= 1\nlinear 1 1 -1 2 >= 1", "1111 1111 1111", "0011 0110 1100"},
		{"sizes 33\nlinear 1 0 -1 1 >= 0\nlinear 1 1 -1 0 >= 0", "1101 0111", "0101 0111"},
		{"sizes 33\nlinear 1 0 -1 1 >= 0\nlinear 1 1 -1 0 >= 0", "1101 0110", "0100 0100"},
		{"sizes 33\nless 01\nlinear -1 0 >= 0\ntable 1 0 2", "1111 1111", "1000 0010"},
		{"sizes 1112\ntable 01 00 11\ntable 12 00 11\ntable 23 00 12", "11 11 11 101", "11 11 11 101"},
		{"sizes 1112\ntable 23 00 12\ntable 12 00 11\ntable 01 00 11", "11 11 10 111", "10 10 10 100"},
		{"sizes 1112\ntable 01 00 11\ntable 12 00 11\ntable 23 00 12", "11 11 11 001", "01 01 01 001"},
	})
}

func TestDomainsEmpty(t *testing.T) {
	for _, x := range []struct {
		sizes, d string
		want     bool
	}{
		{"0", "1", false},
		{"0", "0", true},
		{"3", "0001", false},
		{"3", "0000", true},
		{"22", "100 001", false},
		{"22", "100 000", true},
		{"22", "000 001", true},
		{"22", "000 000", true},
		{"11122", "11 10 01 100 000", true},
		{"11122", "11 10 01 100 001", false},
		{"00000", "1 1 1 1 1", false},
		{"00000", "1 1 0 1 1", true},
	} {
		if got := impl.DomainsEmpty(readModel(t, "sizes "+x.sizes), domainsOf(x.d)); got != x.want {
			t.Errorf("DomainsEmpty(%s, %s) = %v", x.sizes, x.d, got)
		}
	}
}

func TestCellsIn(t *testing.T) {
	for _, x := range []struct {
		sizes, d string
		cells    []int
		want     bool
	}{
		{"0", "1", []int{0}, true},
		{"0", "0", []int{0}, false},
		{"0", "1", []int{1}, false},
		{"3", "0101", []int{3}, true},
		{"3", "0101", []int{2}, false},
		{"3", "1111", []int{4}, false},
		{"3", "1111", []int{-1}, false},
		{"3", "1111", []int{math.MinInt}, false},
		{"3", "1111", []int{math.MaxInt}, false},
		{"22", "101 010", []int{0, 1}, true},
		{"22", "101 010", []int{2, 1}, true},
		{"22", "101 010", []int{1, 1}, false},
		{"22", "101 010", []int{2, 0}, false},
		{"22", "101 010", []int{1, 0}, false},
		{"22", "111 000", []int{1, 0}, false},
		{"22", "111 111", nil, false},
		{"22", "111 111", []int{0}, false},
		{"22", "111 111", []int{0, 0, 0}, false},
		{"22", "111 111", make([]int, 3000), false},
		{"22", "111 111", make([]int, 0, 2), false},
		{"22", "111 11", []int{0, 0}, false},
		{"22", "111", []int{0}, false},
		{"11122", "01 10 01 100 001", []int{1, 0, 1, 0, 2}, true},
		{"11122", "01 10 01 100 001", []int{1, 0, 1, 0, 1}, false},
	} {
		if got := impl.CellsIn(readModel(t, "sizes "+x.sizes), domainsOf(x.d), x.cells); got != x.want {
			t.Errorf("CellsIn(%s, %s, %.80v) = %v", x.sizes, x.d, x.cells, got)
		}
	}
	// Rules do not matter.
	if !impl.CellsIn(readModel(t, "sizes 22", "less 01"), domainsOf("111 111"), []int{2, 0}) {
		t.Error("CellsIn refuses cells that are no solution")
	}
}

func TestMatchRule(t *testing.T) {
	for _, x := range []struct {
		lines, d, want string
	}{
		{"sizes 111\ndifferent 20", "11 11 11", "01"},
		{"sizes 111\ndifferent 012", "11 11 11", ""},
		{"sizes 22\ndifferent 01", "111 111", "01"},
		{"sizes 22\nless 10", "111 111", "01"},
		{"sizes 22\nless 01", "110 100", "10"},
		{"sizes 22\nless 10", "110 100", "01"},
		{"sizes 22\nless 01", "010 100", "10"},
		{"sizes 22\nless 01", "010 010", ""},
		{"sizes 22\nlinear 1 0 1 1 >= 1000", "001 011", "21"},
		{"sizes 22\nlinear -3 1 1 0 >= 0", "001 011", "12"},
		{"sizes 22\ntable 01", "011 011", "12"},
		{"sizes 22\ntable 10 33", "001 111", "02"},
		{"sizes 3\nlinear 1 0 >= 3", "0011", "2"},
		{"sizes 3\ndifferent 0", "0000", ""},
		{"sizes 3\ntable 0", "0001", "3"},
		{"sizes 0\ndifferent 0", "1", "0"},
		{"sizes 222\ndifferent 01", "111 111 000", "01"},
		{"sizes 222\ndifferent 01", "111 000 111", ""},
		{"sizes 222\ndifferent 01", "000 111 111", ""},
		{"sizes 222\ndifferent 012", "111 110 100", "210"},
		{"sizes 222\ndifferent 012", "111 110 110", "201"},
		{"sizes 222\ndifferent 210", "111 110 110", "012"},
		{"sizes 222\ndifferent 012", "110 110 110", ""},
		{"sizes 222\ndifferent 102", "111 111 011", "012"},
		{"sizes 222\ndifferent 102", "011 011 111", "120"},
		{"sizes 0123\ndifferent 3210", "1 11 111 1111", "3210"},
		{"sizes 0123\ndifferent 0123", "1 11 111 1111", "0123"},
		{"sizes 0123\ndifferent 31", "1 11 111 1111", "01"},
		{"sizes 2220\ndifferent 3120", "111 111 111 1", ""},
		{"sizes 11122\ndifferent 01234", "11 11 11 111 111", ""},
		{"sizes 00000\ntable 43210", "1 1 1 1 1", ""},
	} {
		values, ok := impl.MatchRule(readModel(t, x.lines), 0, domainsOf(x.d))
		if ok != (x.want != "") || digitText(values) != x.want {
			t.Errorf("MatchRule(%q, %s) = %v, %v, not %q", x.lines, x.d, values, ok, x.want)
		}
	}
}

func TestDomainsPartial(t *testing.T) {
	for _, x := range []struct {
		sizes, d, want string
	}{
		{"0", "1", "+00000000000"},
		{"0", "0", "-00000000000"},
		{"3", "1111", "000000000000"},
		{"3", "0111", "-00000000000"},
		{"3", "0110", "-00-00000000"},
		{"3", "0010", "--+-00000000"},
		{"3", "0000", "----00000000"},
		{"22", "110 001", "00---+000000"},
		{"22", "100 000", "+-----000000"},
		{"222", "100 010 001", "+---+---+000"},
		{"0102", "1 01 0 110", "+-+-00-00000"},
		{"333", "1000 0001 1111", "+------+0000"},
		{"333", "1111 1111 0111", "00000000-000"},
		{"333", "1111 1111 0001", "00000000---+"},
		{"11122", "11 01 10 101 010", "00-++-0-0-+-"},
	} {
		p, ok := impl.DomainsPartial(readModel(t, "sizes "+x.sizes), domainsOf(x.d))
		if !ok || partialText(p) != x.want {
			t.Errorf("DomainsPartial(%s, %s) = %v, %v, not %s", x.sizes, x.d, p, ok, x.want)
		}
	}
}

func partialText(p []int) string {
	text := ""
	for _, value := range p {
		switch value {
		case -1:
			text += "-"
		case 0:
			text += "0"
		case 1:
			text += "+"
		default:
			text += "?"
		}
	}
	return text
}

func TestFullDomains(t *testing.T) {
	for _, x := range []struct{ lines, want string }{
		{"sizes 0", "1"},
		{"sizes 3", "1111"},
		{"sizes 0102", "1 11 1 111"},
		{"sizes 333", "1111 1111 1111"},
		{"sizes 11122\nless 01\ntable 3", "11 11 11 111 111"},
		{"sizes 00000", "1 1 1 1 1"},
	} {
		m := readModel(t, x.lines)
		d := impl.FullDomains(m)
		if domainText(d) != x.want || !impl.DomainsValid(m, d) || impl.DomainsEmpty(m, d) {
			t.Errorf("FullDomains(%q) = %s, not %s", x.lines, domainText(d), x.want)
		}
	}
}

func TestDomainsValid(t *testing.T) {
	for _, x := range validModels() {
		for _, d := range [][][]bool{fullDomains(x.m.Sizes), emptyDomains(x.m.Sizes)} {
			if !impl.DomainsValid(x.m, d) {
				t.Errorf("%s: DomainsValid refuses %s", x.name, domainText(d))
			}
		}
		for _, d := range notDomains(x.m.Sizes) {
			checkDomainsRefused(t, x.name, x.m, d)
		}
	}
	for _, x := range invalidModels() {
		if d := impl.FullDomains(x.m); len(d) != 0 {
			t.Errorf("%s: FullDomains(%.80v) = %s", x.name, x.m, domainText(d))
		}
		checkDomainsRefused(t, x.name, x.m, nil)
		d := make([][]bool, len(x.m.Sizes))
		checkDomainsRefused(t, x.name, x.m, d)
		for cell, size := range x.m.Sizes {
			d[cell] = slices.Repeat([]bool{true}, max(0, min(size, 10)+1))
		}
		checkDomainsRefused(t, x.name, x.m, d)
	}
}

// notDomains returns what is almost domains of cells with some sizes.
func notDomains(sizes []int) [][][]bool {
	full := fullDomains(sizes)
	last := len(full) - 1
	list := [][][]bool{nil, {}, full[:last], full[1:], append(fullDomains(sizes), []bool{}), append(fullDomains(sizes), nil),
		append(fullDomains(sizes), []bool{true}), make([][]bool, 3000), make([][]bool, 0, 10), {{}}, {nil}}
	for cell := range full {
		for _, other := range [][]bool{nil, {}, full[cell][1:], append([]bool{true}, full[cell]...), make([]bool, 3000), make([]bool, 0, 4)} {
			d := fullDomains(sizes)
			d[cell] = other
			list = append(list, d)
		}
	}
	return list
}

func checkDomainsRefused(t *testing.T, name string, m impl.Model, d [][]bool) {
	t.Helper()
	if impl.DomainsValid(m, d) || impl.DomainsEmpty(m, d) || impl.CellsIn(m, d, make([]int, len(m.Sizes))) {
		t.Errorf("%s: domains %.80v are accepted", name, d)
	}
	if p, ok := impl.DomainsPartial(m, d); ok || len(p) != 0 {
		t.Errorf("%s: DomainsPartial(%.80v) = %v, %v", name, d, p, ok)
	}
	if result, ok := impl.FilterModel(m, d); ok || len(result) != 0 {
		t.Errorf("%s: FilterModel(%.80v) = %v, %v", name, d, result, ok)
	}
	for rule := range m.Rules {
		checkRuleRefused(t, name, m, rule, d)
	}
}

func checkRuleRefused(t *testing.T, name string, m impl.Model, rule int, d [][]bool) {
	t.Helper()
	if result, ok := impl.FilterRule(m, rule, d); ok || len(result) != 0 {
		t.Errorf("%s: FilterRule(%d, %.80v) = %v, %v", name, rule, d, result, ok)
	}
	if result, ok := impl.BoundsRule(m, rule, d); ok || len(result) != 0 {
		t.Errorf("%s: BoundsRule(%d, %.80v) = %v, %v", name, rule, d, result, ok)
	}
	if values, ok := impl.MatchRule(m, rule, d); ok || len(values) != 0 {
		t.Errorf("%s: MatchRule(%d, %.80v) = %v, %v", name, rule, d, values, ok)
	}
}

func TestFilteringByOtherNumbers(t *testing.T) {
	for _, x := range validModels() {
		for _, rule := range []int{-1, len(x.m.Rules), len(x.m.Rules) + 1, math.MinInt, math.MaxInt} {
			checkRuleRefused(t, x.name, x.m, rule, fullDomains(x.m.Sizes))
			checkRuleRefused(t, x.name, x.m, rule, emptyDomains(x.m.Sizes))
		}
	}
}

// domains returns domains that are often full and rarely empty.
func (n *numbers) domains(sizes []int) [][]bool {
	d := fullDomains(sizes)
	rate := n.between(0, 5)
	for _, domain := range d {
		for value := range domain {
			domain[value] = n.between(0, 9) >= rate
		}
	}
	return d
}

// slowFilter keeps the values of the cells that have values of their domains and for which a condition holds.
func slowFilter(sizes []int, d [][]bool, holds func(cells []int) bool) [][]bool {
	kept := emptyDomains(sizes)
	for _, cells := range modelCells(sizes) {
		if !inDomains(d, cells) || !holds(cells) {
			continue
		}
		for cell, value := range cells {
			kept[cell][value] = true
		}
	}
	return kept
}

func slowFilterRule(m impl.Model, rule int, d [][]bool) [][]bool {
	return slowFilter(m.Sizes, d, func(cells []int) bool { return holdsSlowly(m.Rules[rule], cells) })
}

func slowFilterModel(m impl.Model, d [][]bool) [][]bool {
	for {
		before := d
		for rule := range m.Rules {
			d = slowFilterRule(m, rule, d)
		}
		if sameDomains(d, before) {
			return d
		}
	}
}

// slowBest is for a domain that is not empty.
func slowBest(coef int, domain []bool) int {
	best := math.MinInt
	for value, included := range domain {
		if included {
			best = max(best, coef*value)
		}
	}
	return best
}

func slowBounds(r impl.Rule, d [][]bool) [][]bool {
	kept := copyDomains(d)
	for i, cell := range r.Vars {
		for value := range d[cell] {
			sum := r.Coefs[i] * value
			for j, other := range r.Vars {
				if j != i {
					sum += slowBest(r.Coefs[j], d[other])
				}
			}
			kept[cell][value] = d[cell][value] && sum >= r.Bound
		}
	}
	return kept
}

// slowMatch goes through all values of some cells, in order.
func slowMatch(sizes []int, vars []int, d [][]bool) []int {
	var own []int
	for _, cell := range vars {
		own = append(own, sizes[cell])
	}
	for _, values := range modelCells(own) {
		unfit := false
		for i, value := range values {
			unfit = unfit || !d[vars[i]][value] || slices.Contains(values[:i], value)
		}
		if !unfit {
			return values
		}
	}
	return nil
}

func slowPartial(sizes []int, d [][]bool) []int {
	p := make([]int, impl.MaxVars)
	for cell, domain := range d {
		for value, included := range domain {
			variable := slowVariable(sizes, cell, value)
			without := slices.Clone(domain)
			without[value] = false
			if !included {
				p[variable-1] = -1
			} else if !slices.Contains(without, true) {
				p[variable-1] = 1
			}
		}
	}
	return p
}

func TestFilteringIsWhatTheDocumentSays(t *testing.T) {
	n := &numbers{state: 25}
	var seen struct{ filtered, emptied, bounds, matched, unmatched int }
	for range 3000 {
		m := n.model(4)
		d := n.domains(m.Sizes)
		text := impl.FormatModel(m)
		for rule, r := range m.Rules {
			want := slowFilterRule(m, rule, d)
			if got, ok := impl.FilterRule(m, rule, d); !ok || !sameDomains(got, want) {
				t.Errorf("FilterRule(%q, %d, %s) = %s, %v, not %s", text, rule, domainText(d), domainText(got), ok, domainText(want))
			}
			if someEmpty(want) {
				seen.emptied++
			} else if !sameDomains(want, d) {
				seen.filtered++
			}
			if r.Kind == impl.RuleLinear && !someEmpty(d) {
				seen.bounds++
				want := slowBounds(r, d)
				if got, ok := impl.BoundsRule(m, rule, d); !ok || !sameDomains(got, want) {
					t.Errorf("BoundsRule(%q, %d, %s) = %s, %v, not %s", text, rule, domainText(d), domainText(got), ok, domainText(want))
				}
			} else if got, ok := impl.BoundsRule(m, rule, d); ok || len(got) != 0 {
				t.Errorf("BoundsRule(%q, %d, %s) = %s, %v", text, rule, domainText(d), domainText(got), ok)
			}
			match := slowMatch(m.Sizes, r.Vars, d)
			if got, ok := impl.MatchRule(m, rule, d); ok != (match != nil) || !slices.Equal(got, match) {
				t.Errorf("MatchRule(%q, %d, %s) = %v, %v, not %v", text, rule, domainText(d), got, ok, match)
			}
			if match != nil {
				seen.matched++
			} else {
				seen.unmatched++
			}
		}
	}
	if min(seen.filtered, seen.emptied, seen.bounds, seen.matched, seen.unmatched) < 500 {
		t.Errorf("the cases are one-sided: %+v", seen)
	}
}

func TestFilterModelIsWhatTheDocumentSays(t *testing.T) {
	n := &numbers{state: 26}
	rounds := 0
	for range 3000 {
		m := n.model(impl.MaxRules)
		for i := range m.Rules {
			// Linear rules with small bounds remove some values, but rarely all.
			if m.Rules[i].Kind == impl.RuleTable && n.between(0, 2) > 0 {
				m.Rules[i] = linear(n.between(-3, 1), m.Rules[i].Vars, slices.Repeat([]int{1 - 2*n.between(0, 1)}, len(m.Rules[i].Vars))...)
			}
		}
		d := n.domains(m.Sizes)
		want := slowFilterModel(m, d)
		got, ok := impl.FilterModel(m, d)
		if !ok || !sameDomains(got, want) {
			t.Errorf("FilterModel(%q, %s) = %s, %v, not %s", impl.FormatModel(m), domainText(d), domainText(got), ok, domainText(want))
		}
		once := d
		for rule := range m.Rules {
			once = slowFilterRule(m, rule, once)
		}
		if !sameDomains(once, want) {
			rounds++
		}
		if again, ok := impl.FilterModel(m, got); !ok || !sameDomains(again, got) {
			t.Errorf("FilterModel(%q, %s) = %s, %v", impl.FormatModel(m), domainText(got), domainText(again), ok)
		}
	}
	if rounds < 20 {
		t.Errorf("only %d models need a second round", rounds)
	}
}

// TestFilteringLosesNoSolution checks promise 8.
func TestFilteringLosesNoSolution(t *testing.T) {
	n := &numbers{state: 27}
	kept := 0
	for range 1500 {
		m := n.model(3)
		d := n.domains(m.Sizes)
		results := [][][]bool{}
		whole, ok := impl.FilterModel(m, d)
		if !ok {
			t.Fatalf("FilterModel(%q, %s) fails", impl.FormatModel(m), domainText(d))
		}
		results = append(results, whole)
		for rule := range m.Rules {
			one, ok := impl.FilterRule(m, rule, d)
			if !ok {
				t.Fatalf("FilterRule(%q, %d, %s) fails", impl.FormatModel(m), rule, domainText(d))
			}
			results = append(results, one)
			if bounded, ok := impl.BoundsRule(m, rule, d); ok {
				results = append(results, bounded)
			}
			checkSupports(t, m, rule, d, one)
		}
		for _, cells := range modelSolutions(m) {
			if !impl.CellsIn(m, d, cells) {
				continue
			}
			kept++
			for _, result := range results {
				if !impl.CellsIn(m, result, cells) {
					t.Errorf("%q, %s: filtering to %s loses %v", impl.FormatModel(m), domainText(d), domainText(result), cells)
				}
			}
		}
	}
	if kept < 1000 {
		t.Errorf("only %d solutions were in their domains", kept)
	}
}

// checkSupports looks for each value that FilterRule keeps for a solution of the rule that has it, and the reverse.
func checkSupports(t *testing.T, m impl.Model, rule int, d, kept [][]bool) {
	t.Helper()
	for cell, domain := range kept {
		for value, included := range domain {
			supports := func(cells []int) bool {
				return cells[cell] == value && impl.CellsIn(m, d, cells) && impl.RuleHolds(m, rule, cells)
			}
			if slices.ContainsFunc(modelCells(m.Sizes), supports) != included {
				t.Errorf("%q, rule %d, %s: the value %d of cell %d is wrong in %s", impl.FormatModel(m), rule, domainText(d), value, cell, domainText(kept))
			}
		}
	}
}

// TestPartialOfDomains checks that the encodings of cells agree with the partial assignment exactly if they are in the domains.
func TestPartialOfDomains(t *testing.T) {
	n := &numbers{state: 28}
	for range 1000 {
		m := n.model(2)
		d := n.domains(m.Sizes)
		p, ok := impl.DomainsPartial(m, d)
		if want := slowPartial(m.Sizes, d); !ok || !slices.Equal(p, want) {
			t.Errorf("DomainsPartial(%q, %s) = %v, %v, not %v", impl.FormatModel(m), domainText(d), p, ok, want)
		}
		if impl.DomainsEmpty(m, d) != someEmpty(d) || !impl.DomainsValid(m, d) {
			t.Errorf("%q: DomainsEmpty or DomainsValid is wrong for %s", impl.FormatModel(m), domainText(d))
		}
		for _, cells := range modelCells(m.Sizes) {
			values, _ := impl.EncodeCells(m, cells)
			in := impl.CellsIn(m, d, cells)
			if in != inDomains(d, cells) || in != impl.ExtendsPartial(p, values) {
				t.Errorf("%q, %s: CellsIn(%v) = %v", impl.FormatModel(m), domainText(d), cells, in)
			}
		}
	}
}

func TestFilteringKeepsItsArguments(t *testing.T) {
	memory := [][]bool{{true, true, true, true}, {true, true, true}, {false, true, true, true}, {true}}
	d := [][]bool{memory[0][:3], memory[1][:2], memory[2][:3], memory[3]}
	memoryBefore := copyDomains(memory)
	checkModelKept(t, func(m impl.Model, cells []int) {
		for _, d := range [][][]bool{d[:3], d[:2], d} {
			impl.DomainsValid(m, d)
			impl.FilterModel(m, d)
			impl.DomainsEmpty(m, d)
			impl.DomainsPartial(m, d)
			impl.CellsIn(m, d, cells)
			for rule := range m.Rules {
				impl.FilterRule(m, rule, d)
				impl.BoundsRule(m, rule, d)
				impl.MatchRule(m, rule, d)
			}
		}
		impl.FullDomains(m)
	})
	if !sameDomains(memory, memoryBefore) || &d[3][0] != &memory[3][0] {
		t.Error("a function of domains changes an argument")
	}
}

// checkOwnDomains overwrites each domain of a result in turn, with its unused capacity, and looks for changes elsewhere.
func checkOwnDomains(t *testing.T, name string, d [][]bool, use func(d [][]bool) [][]bool) {
	t.Helper()
	before := copyDomains(d)
	want := copyDomains(use(d))
	for spoiled := range want {
		result, other := use(d), use(d)
		whole := result[spoiled][:cap(result[spoiled])]
		for i := range whole {
			whole[i] = !whole[i]
		}
		for cell := range result {
			if cell != spoiled && !slices.Equal(result[cell], want[cell]) {
				t.Errorf("%s: domain %d shares memory with domain %d", name, cell, spoiled)
			}
		}
		clear(result[:cap(result)])
		if !sameDomains(d, before) || !sameDomains(other, want) || !sameDomains(use(d), want) {
			t.Errorf("%s: a result shares memory with an argument or another result", name)
		}
	}
}

func TestDomainsShareNoMemory(t *testing.T) {
	m := readModel(t, "sizes 212", "linear 1 2 -2 0 >= -3", "different 210", "less 02", "linear 1 1 >= -1")
	first := func(d [][]bool, _ bool) [][]bool { return d }
	for _, text := range []string{"111 11 111", "101 01 011"} {
		d := domainsOf(text)
		checkOwnDomains(t, "FullDomains", d, func([][]bool) [][]bool { return impl.FullDomains(m) })
		checkOwnDomains(t, "FilterModel", d, func(d [][]bool) [][]bool { return first(impl.FilterModel(m, d)) })
		checkOwnDomains(t, "FilterModel", d, func(d [][]bool) [][]bool { return first(impl.FilterModel(modelOf(m.Sizes), d)) })
		for rule := range m.Rules {
			checkOwnDomains(t, "FilterRule", d, func(d [][]bool) [][]bool { return first(impl.FilterRule(m, rule, d)) })
			checkOwnDomains(t, "BoundsRule", d, func(d [][]bool) [][]bool { return first(impl.BoundsRule(m, rule, d)) })
		}
	}
	d := fullDomains(m.Sizes)
	for rule := range m.Rules {
		before := copyModel(m)
		values, _ := impl.MatchRule(m, rule, d)
		other, _ := impl.MatchRule(m, rule, d)
		want := slices.Clone(values)
		clear(values[:cap(values)])
		if !slices.Equal(other, want) || !impl.ModelSame(m, before) {
			t.Errorf("the results of MatchRule(%d) share memory", rule)
		}
	}
	p, _ := impl.DomainsPartial(m, d)
	other, _ := impl.DomainsPartial(m, d)
	whole := p[:cap(p)]
	for i := range whole {
		whole[i] = 9
	}
	if slices.Contains(other, 9) {
		t.Error("the results of DomainsPartial share memory")
	}
}
