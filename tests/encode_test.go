package tests

import (
	"math"
	"slices"
	"strconv"
	"strings"
	"testing"

	"loop.example/cuttingplanes/impl"
)

func TestBoolVar(t *testing.T) {
	for _, x := range []struct {
		sizes       string
		cell, value int
		want        int
	}{
		{"0", 0, 0, 1},
		{"3", 0, 3, 4},
		{"11", 0, 1, 2},
		{"11", 1, 0, 3},
		{"11", 1, 1, 4},
		{"00000", 4, 0, 5},
		{"0102", 1, 1, 3},
		{"0102", 2, 0, 4},
		{"0102", 3, 0, 5},
		{"0102", 3, 2, 7},
		{"333", 2, 3, 12},
		{"11122", 3, 0, 7},
		{"11122", 4, 2, 12},
		{"0", 0, 1, 0},
		{"0", 1, 0, 0},
		{"0", 0, -1, 0},
		{"0", -1, 0, 0},
		{"0102", 0, 1, 0},
		{"0102", 1, 2, 0},
		{"0102", 1, -1, 0},
		{"0102", 2, 1, 0},
		{"0102", 3, 3, 0},
		{"0102", 4, 0, 0},
		{"0102", 5, 0, 0},
		{"0102", -1, 1, 0},
		{"0102", math.MinInt, 0, 0},
		{"0102", math.MaxInt, 0, 0},
		{"0102", 3, math.MinInt, 0},
		{"0102", 3, math.MaxInt, 0},
		{"333", 2, 4, 0},
		{"333", 3, 0, 0},
	} {
		if got := impl.BoolVar(readModel(t, "sizes "+x.sizes), x.cell, x.value); got != x.want {
			t.Errorf("BoolVar(%s, %d, %d) = %d, not %d", x.sizes, x.cell, x.value, got, x.want)
		}
	}
}

func TestFreeVars(t *testing.T) {
	for _, x := range []struct {
		lines string
		want  int
	}{
		{"sizes 0", 11},
		{"sizes 3", 8},
		{"sizes 11\nless 01", 8},
		{"sizes 11\ndifferent 0", 8},
		{"sizes 00000", 7},
		{"sizes 0102", 5},
		{"sizes 332", 1},
		{"sizes 11112", 1},
		{"sizes 333", 0},
		{"sizes 11122", 0},
	} {
		if got := impl.FreeVars(readModel(t, x.lines)); got != x.want {
			t.Errorf("FreeVars(%q) = %d, not %d", x.lines, got, x.want)
		}
	}
}

// TestVariablesAreNumberedInOrder checks that each variable belongs to one value of a cell or is free.
func TestVariablesAreNumberedInOrder(t *testing.T) {
	for _, x := range validModels() {
		last := 0
		for cell, size := range x.m.Sizes {
			for value := range size + 1 {
				last++
				if got := impl.BoolVar(x.m, cell, value); got != last {
					t.Errorf("%s: BoolVar(%d, %d) = %d, not %d", x.name, cell, value, got, last)
				}
			}
			for _, value := range []int{-1, size + 1} {
				if got := impl.BoolVar(x.m, cell, value); got != 0 {
					t.Errorf("%s: BoolVar(%d, %d) = %d", x.name, cell, value, got)
				}
			}
		}
		if got := impl.FreeVars(x.m); got != impl.MaxVars-last {
			t.Errorf("%s: FreeVars = %d, not %d", x.name, got, impl.MaxVars-last)
		}
	}
}

type encodedRule struct {
	sizes, rule string
	want        []string
}

func checkEncodedRules(t *testing.T, cases []encodedRule) {
	t.Helper()
	for _, x := range cases {
		m := readModel(t, "sizes "+x.sizes, x.rule)
		if list, ok := impl.EncodeRule(m, 0); !ok || !sameProblem(list, readAll(t, x.want...)) {
			t.Errorf("EncodeRule(%s, %s) = %q, %v, not %q", x.sizes, x.rule, impl.FormatProblem(list), ok, x.want)
		}
	}
}

func TestEncodeLinear(t *testing.T) {
	checkEncodedRules(t, []encodedRule{
		{"2", "linear 3 0 >= 6", []string{"3 x2 6 x3 >= 6"}},
		{"2", "linear 3 0 >= 0", []string{"3 x2 6 x3 >= 0"}},
		{"2", "linear 3 0 >= -1", []string{"3 x2 6 x3 >= 0"}},
		{"2", "linear 3 0 >= 7", []string{"3 x2 6 x3 >= 7"}},
		{"2", "linear -3 0 >= -4", []string{"3 ~x2 6 ~x3 >= 5"}},
		{"2", "linear -3 0 >= -9", []string{"3 ~x2 6 ~x3 >= 0"}},
		{"2", "linear -3 0 >= -1000", []string{"3 ~x2 6 ~x3 >= 0"}},
		{"0", "linear 5 0 >= 0", []string{">= 0"}},
		{"0", "linear 5 0 >= 1", []string{">= 1"}},
		{"0", "linear -5 0 >= -1", []string{">= 0"}},
		{"21", "linear -1 0 2 1 >= 1", []string{"1 ~x2 2 ~x3 2 x5 >= 4"}},
		{"21", "linear 2 1 -1 0 >= 1", []string{"1 ~x2 2 ~x3 2 x5 >= 4"}},
		{"01", "linear 4 0 7 1 >= 2", []string{"7 x3 >= 2"}},
		{"01", "linear 7 1 >= 2", []string{"7 x3 >= 2"}},
		{"1212", "linear 1 3 -2 1 >= 0", []string{"2 ~x4 4 ~x5 1 x9 2 x10 >= 6"}},
		{"333", "linear 9 0 9 1 9 2 >= 1000", []string{"9 x2 18 x3 27 x4 9 x6 18 x7 27 x8 9 x10 18 x11 27 x12 >= 1000"}},
		{"333", "linear -9 2 -9 1 -9 0 >= 1000", []string{"9 ~x2 18 ~x3 27 ~x4 9 ~x6 18 ~x7 27 ~x8 9 ~x10 18 ~x11 27 ~x12 >= 1162"}},
		{"333", "linear -9 2 -9 1 -9 0 >= -162", []string{"9 ~x2 18 ~x3 27 ~x4 9 ~x6 18 ~x7 27 ~x8 9 ~x10 18 ~x11 27 ~x12 >= 0"}},
		{"11122", "linear 5 4 4 3 3 2 2 1 1 0 >= 9", []string{"1 x2 2 x4 3 x6 4 x8 8 x9 5 x11 10 x12 >= 9"}},
	})
}

func TestEncodeDifferent(t *testing.T) {
	checkEncodedRules(t, []encodedRule{
		{"3", "different 0", nil},
		{"0", "different 0", nil},
		{"22", "different 1", nil},
		{"00", "different 01", []string{"1 ~x1 1 ~x2 >= 1"}},
		{"11", "different 01", []string{"1 ~x1 1 ~x3 >= 1", "1 ~x2 1 ~x4 >= 1"}},
		{"11", "different 10", []string{"1 ~x1 1 ~x3 >= 1", "1 ~x2 1 ~x4 >= 1"}},
		{"13", "different 01", []string{"1 ~x1 1 ~x3 >= 1", "1 ~x2 1 ~x4 >= 1"}},
		{"31", "different 01", []string{"1 ~x1 1 ~x5 >= 1", "1 ~x2 1 ~x6 >= 1"}},
		{"03", "different 01", []string{"1 ~x1 1 ~x2 >= 1"}},
		{"202", "different 20", []string{"1 ~x1 1 ~x5 >= 1", "1 ~x2 1 ~x6 >= 1", "1 ~x3 1 ~x7 >= 1"}},
		{"33", "different 01", []string{"1 ~x1 1 ~x5 >= 1", "1 ~x2 1 ~x6 >= 1", "1 ~x3 1 ~x7 >= 1", "1 ~x4 1 ~x8 >= 1"}},
		{"123", "different 201", []string{"1 ~x1 1 ~x3 1 ~x6 >= 2", "1 ~x2 1 ~x4 1 ~x7 >= 2", "1 ~x5 1 ~x8 >= 1"}},
		{"01010", "different 43210", []string{"1 ~x1 1 ~x2 1 ~x4 1 ~x5 1 ~x7 >= 4", "1 ~x3 1 ~x6 >= 1"}},
	})
}

func TestEncodeTable(t *testing.T) {
	checkEncodedRules(t, []encodedRule{
		{"0", "table 0 0", nil},
		{"0", "table 0", []string{"1 ~x1 >= 1"}},
		{"0", "table 0 1", []string{"1 ~x1 >= 1"}},
		{"3", "table 0 2 0", []string{"1 ~x2 >= 1", "1 ~x4 >= 1"}},
		{"3", "table 0 0 2 2", []string{"1 ~x2 >= 1", "1 ~x4 >= 1"}},
		{"12", "table 1 1", []string{"1 ~x3 >= 1", "1 ~x5 >= 1"}},
		{"11", "table 01", []string{"1 ~x1 1 ~x3 >= 1", "1 ~x1 1 ~x4 >= 1", "1 ~x2 1 ~x3 >= 1", "1 ~x2 1 ~x4 >= 1"}},
		{"11", "table 10", []string{"1 ~x1 1 ~x3 >= 1", "1 ~x2 1 ~x3 >= 1", "1 ~x1 1 ~x4 >= 1", "1 ~x2 1 ~x4 >= 1"}},
		{"11", "table 10 01", []string{"1 ~x1 1 ~x3 >= 1", "1 ~x1 1 ~x4 >= 1", "1 ~x2 1 ~x4 >= 1"}},
		{"11", "table 01 01 10 00 11", nil},
		{"01", "table 01 10 02 33", []string{"1 ~x1 1 ~x2 >= 1", "1 ~x1 1 ~x3 >= 1"}},
		{"12", "table 10 20 11 00", []string{"1 ~x2 1 ~x3 >= 1", "1 ~x1 1 ~x4 >= 1", "1 ~x2 1 ~x5 >= 1"}},
		{"111", "table 201 000 001 010 011 100 101 110", []string{"1 ~x2 1 ~x4 1 ~x6 >= 1"}},
		{"101", "table 201 000 100 001 101", []string{"1 ~x2 1 ~x3 1 ~x4 >= 1", "1 ~x2 1 ~x3 1 ~x5 >= 1"}},
		{"00000", "table 43210", []string{"1 ~x1 1 ~x2 1 ~x3 1 ~x4 1 ~x5 >= 1"}},
	})
}

func TestEncodeLess(t *testing.T) {
	checkEncodedRules(t, []encodedRule{
		{"11", "less 01", []string{"1 ~x1 1 ~x3 >= 1", "1 ~x2 1 ~x3 >= 1", "1 ~x2 1 ~x4 >= 1"}},
		{"11", "less 10", []string{"1 ~x1 1 ~x3 >= 1", "1 ~x1 1 ~x4 >= 1", "1 ~x2 1 ~x4 >= 1"}},
		{"00", "less 01", []string{"1 ~x1 1 ~x2 >= 1"}},
		{"03", "less 01", []string{"1 ~x1 1 ~x2 >= 1"}},
		{"03", "less 10", []string{"1 ~x1 1 ~x2 >= 1", "1 ~x1 1 ~x3 >= 1", "1 ~x1 1 ~x4 >= 1", "1 ~x1 1 ~x5 >= 1"}},
		{"102", "less 20", []string{"1 ~x1 1 ~x4 >= 1", "1 ~x1 1 ~x5 >= 1", "1 ~x2 1 ~x5 >= 1", "1 ~x1 1 ~x6 >= 1", "1 ~x2 1 ~x6 >= 1"}},
	})
}

func TestEncodeModel(t *testing.T) {
	for _, x := range []struct {
		lines string
		want  []string
	}{
		{"sizes 0", []string{"1 x1 >= 1", "1 ~x1 >= 0"}},
		{"sizes 3", []string{"1 x1 1 x2 1 x3 1 x4 >= 1", "1 ~x1 1 ~x2 1 ~x3 1 ~x4 >= 3"}},
		{"sizes 102", []string{"1 x1 1 x2 >= 1", "1 ~x1 1 ~x2 >= 1", "1 x3 >= 1", "1 ~x3 >= 0", "1 x4 1 x5 1 x6 >= 1", "1 ~x4 1 ~x5 1 ~x6 >= 2"}},
		{"sizes 11\nless 01", []string{"1 x1 1 x2 >= 1", "1 ~x1 1 ~x2 >= 1", "1 x3 1 x4 >= 1", "1 ~x3 1 ~x4 >= 1",
			"1 ~x1 1 ~x3 >= 1", "1 ~x2 1 ~x3 >= 1", "1 ~x2 1 ~x4 >= 1"}},
		{"sizes 1\ntable 0 1\nlinear 1 0 >= 1\ndifferent 0\nlinear -1 0 >= 0\ntable 0 1",
			[]string{"1 x1 1 x2 >= 1", "1 ~x1 1 ~x2 >= 1", "1 ~x1 >= 1", "1 x2 >= 1", "1 ~x2 >= 1", "1 ~x1 >= 1"}},
		{"sizes 01\nlinear 2 0 >= 1\ndifferent 10\nless 01", []string{"1 x1 >= 1", "1 ~x1 >= 0", "1 x2 1 x3 >= 1", "1 ~x2 1 ~x3 >= 1",
			">= 1", "1 ~x1 1 ~x2 >= 1", "1 ~x1 1 ~x2 >= 1"}},
	} {
		m := readModel(t, x.lines)
		if list, ok := impl.EncodeModel(m); !ok || !sameProblem(list, readAll(t, x.want...)) {
			t.Errorf("EncodeModel(%q) = %q, %v, not %q", x.lines, impl.FormatProblem(list), ok, x.want)
		}
	}
}

// wideRules are rules for the sizes 2222 that give 387 constraints. The cells give 8.
var wideRules = strings.Repeat("table 0123\n", 4) + strings.Repeat("table 012\n", 2) + "table 21"

func TestLimitOfEncodedConstraints(t *testing.T) {
	for _, x := range []struct {
		last  string
		count int
	}{
		{"table 01 00 11 22 02 21", 399},
		{"table 01 00 11 22 02", 400},
		{"table 01 00 11 22 02 22 03 30", 400},
		{"table 01 00 11 22", 401},
		{"table 01 00 11 22 03", 401},
		{"table 0123", 476},
	} {
		m := readModel(t, "sizes 2222", wideRules, x.last)
		list, ok := impl.EncodeModel(m)
		if ok != (x.count <= impl.MaxProblem) || ok && len(list) != x.count || !ok && len(list) != 0 {
			t.Errorf("%s: EncodeModel = %d constraints, %v, not %d", x.last, len(list), ok, x.count)
		}
		if !impl.ProblemValid(list) {
			t.Errorf("%s: EncodeModel returns a problem that is not valid", x.last)
		}
		count := 2 * len(m.Sizes)
		for rule := range m.Rules {
			part, ok := impl.EncodeRule(m, rule)
			if !ok {
				t.Errorf("%s: EncodeRule(%d) fails", x.last, rule)
			}
			count += len(part)
		}
		if count != x.count {
			t.Errorf("%s: EncodeRule gives %d constraints, not %d", x.last, count, x.count)
		}
		// The limit is one of EncodeModel only.
		values, ok := impl.EncodeCells(m, []int{2, 1, 0, 2})
		if !ok || !slices.Equal(trueVariables(values), []int{3, 5, 7, 12}) {
			t.Errorf("%s: EncodeCells = %v, %v", x.last, values, ok)
		}
		if cells, ok := impl.DecodeValues(m, values); !ok || digitText(cells) != "2102" || impl.FreeVars(m) != 0 || impl.BoolVar(m, 3, 2) != 12 {
			t.Errorf("%s: DecodeValues = %v, %v, or the variables are wrong", x.last, cells, ok)
		}
	}
	widest := strings.TrimSuffix(strings.Repeat("table 0123\n", impl.MaxRules), "\n")
	if list, ok := impl.EncodeModel(readModel(t, "sizes 2222", widest)); ok || len(list) != 0 {
		t.Errorf("EncodeModel of the widest model = %d constraints, %v", len(list), ok)
	}
}

func trueVariables(values []bool) []int {
	var variables []int
	for i, value := range values {
		if value {
			variables = append(variables, i+1)
		}
	}
	return variables
}

func TestEncodeCells(t *testing.T) {
	for _, x := range []struct {
		lines string
		cells []int
		want  []int
	}{
		{"sizes 0", []int{0}, []int{1}},
		{"sizes 3", []int{0}, []int{1}},
		{"sizes 3", []int{3}, []int{4}},
		{"sizes 11\nless 01", []int{0, 1}, []int{1, 4}},
		{"sizes 11\nless 01", []int{1, 0}, []int{2, 3}},
		{"sizes 00000", []int{0, 0, 0, 0, 0}, []int{1, 2, 3, 4, 5}},
		{"sizes 0102", []int{0, 1, 0, 2}, []int{1, 3, 4, 7}},
		{"sizes 0102", []int{0, 0, 0, 1}, []int{1, 2, 4, 6}},
		{"sizes 333", []int{3, 0, 3}, []int{4, 5, 12}},
		{"sizes 11122", []int{1, 0, 1, 0, 2}, []int{2, 3, 6, 7, 12}},
	} {
		m := readModel(t, x.lines)
		if values, ok := impl.EncodeCells(m, x.cells); !ok || len(values) != impl.MaxVars || !slices.Equal(trueVariables(values), x.want) {
			t.Errorf("EncodeCells(%q, %v) = %v, %v, not %v", x.lines, x.cells, values, ok, x.want)
		}
	}
	m := readModel(t, "sizes 0102")
	for _, cells := range [][]int{nil, {}, {0}, {0, 0, 0}, {0, 0, 0, 0, 0}, {1, 0, 0, 0}, {0, 2, 0, 0}, {0, 0, 1, 0}, {0, 0, 0, 3}, {0, -1, 0, 0}, {0, 0, 0, -1},
		{0, math.MinInt, 0, 0}, {0, 0, 0, math.MaxInt}, make([]int, 3000), make([]int, 0, 4)} {
		if values, ok := impl.EncodeCells(m, cells); ok || len(values) != 0 {
			t.Errorf("EncodeCells(%.80v) = %v, %v", cells, values, ok)
		}
	}
}

func TestDecodeValues(t *testing.T) {
	for _, x := range []struct {
		sizes string
		chars string
		want  string
	}{
		{"0", "100000000000", "0"},
		{"0", "000000000000", ""},
		{"0", "011111111111", ""},
		{"0", "111111111111", "0"},
		{"3", "000100000000", "3"},
		{"3", "000111111111", "3"},
		{"3", "100100000000", ""},
		{"3", "011000000000", ""},
		{"3", "000000000000", ""},
		{"3", "000010000000", ""},
		{"3", "111100000000", ""},
		{"11", "100100000000", "01"},
		{"11", "011000000000", "10"},
		{"11", "010100000001", "11"},
		{"11", "110100000000", ""},
		{"11", "010000000000", ""},
		{"11", "000100000000", ""},
		{"11", "101100000000", ""},
		{"00000", "111110000000", "00000"},
		{"00000", "111111111111", "00000"},
		{"00000", "111101111111", ""},
		{"00000", "011110000000", ""},
		{"0102", "101100100000", "0102"},
		{"0102", "110110001010", "0000"},
		{"0102", "101000100000", ""},
		{"0102", "101101100000", ""},
		{"333", "000110000001", "303"},
		{"333", "000110000011", ""},
		{"333", "000110000000", ""},
	} {
		values := make([]bool, len(x.chars))
		for i := range values {
			values[i] = x.chars[i] == '1'
		}
		cells, ok := impl.DecodeValues(readModel(t, "sizes "+x.sizes), values)
		if ok != (x.want != "") || digitText(cells) != x.want {
			t.Errorf("DecodeValues(%s, %s) = %v, %v, not %q", x.sizes, x.chars, cells, ok, x.want)
		}
	}
	for _, values := range notValues() {
		if cells, ok := impl.DecodeValues(readModel(t, "sizes 0"), values); ok || len(cells) != 0 {
			t.Errorf("DecodeValues of %d values = %v, %v", len(values), cells, ok)
		}
	}
	for _, values := range [][]bool{{true}, make([]bool, impl.MaxVars-1), make([]bool, impl.MaxVars+1)} {
		values[0] = true
		if cells, ok := impl.DecodeValues(readModel(t, "sizes 0"), values); ok || len(cells) != 0 {
			t.Errorf("DecodeValues of %d values = %v, %v", len(values), cells, ok)
		}
	}
}

// TestDecodeValuesIgnoresRules checks that cells are decoded that are no solution.
func TestDecodeValuesIgnoresRules(t *testing.T) {
	m := readModel(t, "sizes 11", "less 01")
	values, _ := impl.EncodeCells(m, []int{1, 0})
	if cells, ok := impl.DecodeValues(m, values); !ok || !slices.Equal(cells, []int{1, 0}) {
		t.Errorf("DecodeValues = %v, %v", cells, ok)
	}
}

func TestEncodingOfInvalidModels(t *testing.T) {
	ones := slices.Repeat([]bool{true}, impl.MaxVars)
	for _, x := range invalidModels() {
		if list, ok := impl.EncodeModel(x.m); ok || len(list) != 0 {
			t.Errorf("%s: EncodeModel(%.80v) = %v, %v", x.name, x.m, list, ok)
		}
		for rule := range x.m.Rules {
			if list, ok := impl.EncodeRule(x.m, rule); ok || len(list) != 0 {
				t.Errorf("%s: EncodeRule(%.80v, %d) = %v, %v", x.name, x.m, rule, list, ok)
			}
		}
		if values, ok := impl.EncodeCells(x.m, make([]int, len(x.m.Sizes))); ok || len(values) != 0 {
			t.Errorf("%s: EncodeCells(%.80v) = %v, %v", x.name, x.m, values, ok)
		}
		for _, values := range [][]bool{ones, make([]bool, impl.MaxVars), valuesOf(5)} {
			if cells, ok := impl.DecodeValues(x.m, values); ok || len(cells) != 0 {
				t.Errorf("%s: DecodeValues(%.80v) = %v, %v", x.name, x.m, cells, ok)
			}
		}
		if v, free := impl.BoolVar(x.m, 0, 0), impl.FreeVars(x.m); v != 0 || free != 0 {
			t.Errorf("%s: BoolVar(%.80v) = %d, FreeVars = %d", x.name, x.m, v, free)
		}
	}
}

func TestEncodeRuleOfOtherNumbers(t *testing.T) {
	for _, x := range validModels() {
		for _, rule := range []int{-1, len(x.m.Rules), len(x.m.Rules) + 1, math.MinInt, math.MaxInt} {
			if list, ok := impl.EncodeRule(x.m, rule); ok || len(list) != 0 {
				t.Errorf("%s: EncodeRule(%d) = %v, %v", x.name, rule, list, ok)
			}
		}
	}
}

func slowVariable(sizes []int, cell, value int) int {
	variable := value + 1
	for _, size := range sizes[:cell] {
		variable += size + 1
	}
	return variable
}

// slowSum returns the text of a constraint that at least so many literals are true.
func slowSum(variables []int, literal string, least int) string {
	var text string
	for _, v := range slices.Sorted(slices.Values(variables)) {
		text += "1 " + literal + strconv.Itoa(v) + " "
	}
	return text + ">= " + strconv.Itoa(least) + "\n"
}

func slowLinear(r impl.Rule, sizes []int) string {
	var text string
	bound := r.Bound
	for cell, size := range sizes {
		at := slices.Index(r.Vars, cell)
		if at < 0 {
			continue
		}
		for value := 1; value <= size; value++ {
			coef, sign := r.Coefs[at]*value, " x"
			if coef < 0 {
				bound -= coef
				coef, sign = -coef, " ~x"
			}
			text += strconv.Itoa(coef) + sign + strconv.Itoa(slowVariable(sizes, cell, value)) + " "
		}
	}
	return text + ">= " + strconv.Itoa(max(bound, 0)) + "\n"
}

// slowRule returns the text of the constraints for a rule.
func slowRule(r impl.Rule, sizes []int) string {
	var text string
	switch r.Kind {
	case impl.RuleLinear:
		text = slowLinear(r, sizes)
	case impl.RuleDifferent:
		for value := range impl.MaxSize + 1 {
			var variables []int
			for _, cell := range r.Vars {
				if value <= sizes[cell] {
					variables = append(variables, slowVariable(sizes, cell, value))
				}
			}
			if len(variables) >= 2 {
				text += slowSum(variables, "~x", len(variables)-1)
			}
		}
	default:
		var own []int
		for _, cell := range r.Vars {
			own = append(own, sizes[cell])
		}
		for _, chosen := range modelCells(own) {
			cells := make([]int, len(sizes))
			var variables []int
			for i, cell := range r.Vars {
				cells[cell] = chosen[i]
				variables = append(variables, slowVariable(sizes, cell, chosen[i]))
			}
			if !holdsSlowly(r, cells) {
				text += slowSum(variables, "~x", 1)
			}
		}
	}
	return text
}

func slowModel(m impl.Model) string {
	var text string
	for cell, size := range m.Sizes {
		var variables []int
		for value := range size + 1 {
			variables = append(variables, slowVariable(m.Sizes, cell, value))
		}
		text += slowSum(variables, "x", 1) + slowSum(variables, "~x", size)
	}
	for _, r := range m.Rules {
		text += slowRule(r, m.Sizes)
	}
	return text
}

func TestEncodingsAreWhatTheDocumentSays(t *testing.T) {
	n := &numbers{state: 22}
	for range 2000 {
		m := n.model(impl.MaxRules)
		for rule, r := range m.Rules {
			list, ok := impl.EncodeRule(m, rule)
			if want := slowRule(r, m.Sizes); !ok || impl.FormatProblem(list) != want {
				t.Errorf("EncodeRule(%q, %d) = %q, %v, not %q", impl.FormatModel(m), rule, impl.FormatProblem(list), ok, want)
			}
		}
		want := slowModel(m)
		list, ok := impl.EncodeModel(m)
		if !ok || impl.FormatProblem(list) != want {
			t.Errorf("EncodeModel(%q) = %q, %v, not %q", impl.FormatModel(m), impl.FormatProblem(list), ok, want)
		}
	}
}

// checkCorrespondence compares the solutions of a model with those of its encoding, of which there are several for each one
// if there are free variables.
func checkCorrespondence(t *testing.T, m impl.Model) int {
	t.Helper()
	list, ok := impl.EncodeModel(m)
	if !ok {
		t.Fatalf("EncodeModel(%q) fails", impl.FormatModel(m))
	}
	solutions := map[string]int{}
	for place := range 1 << impl.MaxVars {
		values := inOrder(place)
		cells, decoded := impl.DecodeValues(m, values)
		solves := decoded && impl.SolvesModel(m, cells)
		if satisfied(list, values) != solves {
			t.Errorf("%q: the encoding and the model differ for %v", impl.FormatModel(m), values)
		}
		if solves {
			solutions[digitText(cells)]++
		}
	}
	copies := 1 << impl.FreeVars(m)
	for cells, count := range solutions {
		if count != copies {
			t.Errorf("%q: %d solutions of the encoding are %s", impl.FormatModel(m), count, cells)
		}
	}
	want := modelSolutions(m)
	for _, cells := range want {
		if solutions[digitText(cells)] == 0 {
			t.Errorf("%q: no solution of the encoding is %v", impl.FormatModel(m), cells)
		}
	}
	if n := impl.CountSolutions(list); n != len(want)*copies || len(solutions) != len(want) {
		t.Errorf("%q: CountSolutions = %d, with %d solutions of the model", impl.FormatModel(m), n, len(want))
	}
	return len(want)
}

func TestSolutionsOfTheEncodingCorrespond(t *testing.T) {
	for _, lines := range []string{
		"sizes 0", "sizes 3", "sizes 00000", "sizes 333", "sizes 11122", "sizes 01\nless 01", "sizes 01\nless 10", "sizes 3\ndifferent 0",
		"sizes 3\ntable 0 2", "sizes 3\nlinear -2 0 >= -3", "sizes 0\nlinear 2 0 >= 1", "sizes 0\ntable 0", "sizes 13\ndifferent 01\ntable 1 3 2",
		"sizes 222\ndifferent 012\nlinear 1 0 -1 2 >= 1", "sizes 2222\ndifferent 0123", "sizes 333\nless 01\nless 12",
	} {
		checkCorrespondence(t, readModel(t, lines))
	}
	n := &numbers{state: 23}
	several := 0
	for range 300 {
		if checkCorrespondence(t, n.model(3)) > 1 {
			several++
		}
	}
	if several < 100 {
		t.Errorf("only %d models have several solutions", several)
	}
}

// TestEncodedCellsCorrespond checks for each rule alone that its constraints hold exactly where it does.
func TestEncodedCellsCorrespond(t *testing.T) {
	n := &numbers{state: 24}
	for range 400 {
		m := n.model(4)
		for _, cells := range modelCells(m.Sizes) {
			values, ok := impl.EncodeCells(m, cells)
			if again, decoded := impl.DecodeValues(m, values); !ok || !decoded || !slices.Equal(again, cells) {
				t.Errorf("%q: %v are decoded as %v, %v", impl.FormatModel(m), cells, again, decoded)
			}
			if len(trueVariables(values)) != len(cells) {
				t.Errorf("%q: EncodeCells(%v) = %v", impl.FormatModel(m), cells, values)
			}
			for cell, value := range cells {
				if v := impl.BoolVar(m, cell, value); v < 1 || !values[v-1] {
					t.Errorf("%q: EncodeCells(%v) = %v without variable %d", impl.FormatModel(m), cells, values, v)
				}
			}
			for rule := range m.Rules {
				list, _ := impl.EncodeRule(m, rule)
				if impl.SatisfiesAll(list, values) != impl.RuleHolds(m, rule, cells) {
					t.Errorf("%q: the constraints for rule %d are wrong for %v", impl.FormatModel(m), rule, cells)
				}
			}
		}
	}
}

func TestEncodingKeepsItsArguments(t *testing.T) {
	values := allBut(1, 2, 4, 6, 7)
	before := slices.Clone(values)
	checkModelKept(t, func(m impl.Model, cells []int) {
		impl.BoolVar(m, 1, 1)
		impl.EncodeModel(m)
		impl.EncodeCells(m, cells)
		impl.DecodeValues(m, values)
		for rule := range m.Rules {
			impl.EncodeRule(m, rule)
		}
		impl.FreeVars(m)
	})
	if !slices.Equal(values, before) {
		t.Error("DecodeValues changes an argument")
	}
}

// checkOwnMemory overwrites each constraint of a result in turn and looks for changes elsewhere.
func checkOwnMemory(t *testing.T, name string, encode func() []impl.Constraint) {
	t.Helper()
	whole := impl.FormatProblem(encode())
	for spoiled := range encode() {
		list := encode()
		var texts []string
		for _, c := range list {
			texts = append(texts, impl.FormatConstraint(c))
		}
		spoil(list[spoiled])
		for i, c := range list {
			if i != spoiled && impl.FormatConstraint(c) != texts[i] {
				t.Errorf("%s: constraint %d shares memory with constraint %d", name, i, spoiled)
			}
		}
		clear(list[:cap(list)])
		if impl.FormatProblem(encode()) != whole {
			t.Errorf("%s: two results share memory", name)
		}
	}
}

func TestEncodingResultsShareNoMemory(t *testing.T) {
	lines := []string{"sizes 212", "linear 1 2 -2 0 >= -3", "table 10 12 00 11", "different 210", "table 0", "less 02"}
	m := readModel(t, lines...)
	model := func() []impl.Constraint {
		list, _ := impl.EncodeModel(m)
		return list
	}
	checkOwnMemory(t, "EncodeModel", model)
	for rule := range m.Rules {
		checkOwnMemory(t, "EncodeRule", func() []impl.Constraint {
			list, _ := impl.EncodeRule(m, rule)
			return list
		})
	}
	if !impl.ModelSame(m, readModel(t, lines...)) {
		t.Error("an encoding shares memory with its model")
	}
	from := []int{2, 0, 1}
	values, _ := impl.EncodeCells(m, from)
	other, _ := impl.EncodeCells(m, from)
	cells, _ := impl.DecodeValues(m, values)
	clear(values[:cap(values)])
	if !slices.Equal(trueVariables(other), []int{3, 4, 7}) || !slices.Equal(from, []int{2, 0, 1}) || !slices.Equal(cells, from) {
		t.Error("the results of EncodeCells share memory")
	}
	clear(cells[:cap(cells)])
	if !slices.Equal(from, []int{2, 0, 1}) || !slices.Equal(m.Sizes, []int{2, 1, 2}) {
		t.Error("the cells of DecodeValues share memory")
	}
}
