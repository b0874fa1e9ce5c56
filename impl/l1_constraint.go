package impl

import (
	"iter"
	"maps"
	"slices"
	"strconv"
	"strings"
)

// Term is a literal with a coefficient.
type Term struct {
	Coef int
	Lit  int
}

// Constraint states that the coefficients of the true literals add up to at least Bound.
type Constraint struct {
	Terms []Term
	Bound int
}

// Limits of constraints.
const (
	MaxVars  = 12
	MaxCoef  = 1000
	MaxBound = 20000
	MaxTerms = 40
)

// literal is the number of a variable, or its negation for the negated variable.
type literal int

// valid compares with both limits, because the negation of the least int is negative too.
func (l literal) valid() bool { return l != 0 && -MaxVars <= l && l <= MaxVars }

func (l literal) negated() bool { return l < 0 }

func (l literal) variable() int {
	if l.negated() {
		return int(-l)
	}
	return int(l)
}

func (l literal) trueUnder(values []bool) bool {
	return values[l.variable()-1] != l.negated()
}

func (l literal) text() string {
	name := "x" + strconv.Itoa(l.variable())
	if l.negated() {
		return "~" + name
	}
	return name
}

// coefsWhere yields the coefficients of the terms whose literals are chosen.
func coefsWhere(terms []Term, chosen func(literal) bool) iter.Seq[int] {
	return func(yield func(int) bool) {
		for _, t := range terms {
			if chosen(literal(t.Lit)) && !yield(t.Coef) {
				return
			}
		}
	}
}

func sumOf(numbers iter.Seq[int]) int {
	sum := 0
	for n := range numbers {
		sum += n
	}
	return sum
}

func anyLiteral(literal) bool { return true }

// ConstraintValid reports whether c is valid.
func ConstraintValid(c Constraint) bool {
	if c.Bound < 0 || c.Bound > MaxBound {
		return false
	}
	last := 0
	for _, t := range c.Terms {
		lit := literal(t.Lit)
		if !lit.valid() || lit.variable() <= last || t.Coef < 1 || t.Coef > MaxCoef {
			return false
		}
		last = lit.variable()
	}
	return true
}

// ConstraintSame reports whether a and b are equal.
func ConstraintSame(a Constraint, b Constraint) bool {
	return a.Bound == b.Bound && slices.Equal(a.Terms, b.Terms)
}

// NormalForm returns the valid constraint that is equivalent to some terms and a bound.
func NormalForm(terms []Term, bound int) (Constraint, bool) {
	if !canNormalize(terms, bound) {
		return Constraint{}, false
	}
	c := normalize(terms, bound)
	if !ConstraintValid(c) {
		return Constraint{}, false
	}
	return c, true
}

func canNormalize(terms []Term, bound int) bool {
	if len(terms) > MaxTerms || bound < -MaxBound || bound > MaxBound {
		return false
	}
	for _, t := range terms {
		if !literal(t.Lit).valid() || t.Coef < -MaxCoef || t.Coef > MaxCoef {
			return false
		}
	}
	return true
}

// normalize does not check any limit: its result may be too large to be valid.
func normalize(terms []Term, bound int) Constraint {
	sums := map[int]int{}
	for _, t := range terms {
		lit := literal(t.Lit)
		if lit.negated() {
			// A negated variable is 1 minus the variable, so a constant goes over to the bound.
			sums[lit.variable()] -= t.Coef
			bound -= t.Coef
		} else {
			sums[lit.variable()] += t.Coef
		}
	}
	var result []Term
	for _, v := range slices.Sorted(maps.Keys(sums)) {
		sum := sums[v]
		if sum > 0 {
			result = append(result, Term{Coef: sum, Lit: v})
		} else if sum < 0 {
			result = append(result, Term{Coef: -sum, Lit: -v})
			bound -= sum
		}
	}
	return Constraint{Terms: result, Bound: max(bound, 0)}
}

// EvalConstraint reports whether values satisfy a constraint.
func EvalConstraint(c Constraint, values []bool) bool {
	if !ConstraintValid(c) || len(values) != MaxVars {
		return false
	}
	holds := func(l literal) bool { return l.trueUnder(values) }
	return sumOf(coefsWhere(c.Terms, holds)) >= c.Bound
}

// NegateConstraint returns the negation of a constraint.
func NegateConstraint(c Constraint) (Constraint, bool) {
	if !ConstraintValid(c) {
		return Constraint{}, false
	}
	terms := make([]Term, len(c.Terms))
	for i, t := range c.Terms {
		terms[i] = Term{Coef: t.Coef, Lit: -t.Lit}
	}
	return Constraint{Terms: terms, Bound: max(TotalCoef(c)-c.Bound+1, 0)}, true
}

// TotalCoef returns the sum of the coefficients of a constraint.
func TotalCoef(c Constraint) int {
	if !ConstraintValid(c) {
		return 0
	}
	return sumOf(coefsWhere(c.Terms, anyLiteral))
}

// ConstraintFalse reports whether no values satisfy a constraint.
func ConstraintFalse(c Constraint) bool {
	return ConstraintValid(c) && c.Bound > TotalCoef(c)
}

// FormatConstraint returns the text of c.
func FormatConstraint(c Constraint) string {
	if !ConstraintValid(c) {
		return ""
	}
	var text strings.Builder
	for _, t := range c.Terms {
		text.WriteString(strconv.Itoa(t.Coef) + " " + literal(t.Lit).text() + " ")
	}
	text.WriteString(">= " + strconv.Itoa(c.Bound))
	return text.String()
}

// ParseConstraint parses the text of a constraint.
func ParseConstraint(text string) (Constraint, bool) {
	// A valid text has two words for each variable and two for the bound; one more tells that it is too long.
	words := strings.SplitN(text, " ", 2*MaxVars+3)
	end := len(words) - 2
	if end < 0 || end%2 != 0 || words[end] != ">=" {
		return Constraint{}, false
	}
	var terms []Term
	for i := 0; i < end; i += 2 {
		coef, isNumber := parseNumber(words[i])
		lit, isLiteral := parseLiteral(words[i+1])
		if !isNumber || !isLiteral {
			return Constraint{}, false
		}
		terms = append(terms, Term{Coef: coef, Lit: int(lit)})
	}
	bound, ok := parseNumber(words[end+1])
	c := Constraint{Terms: terms, Bound: bound}
	if !ok || !ConstraintValid(c) {
		return Constraint{}, false
	}
	return c, true
}

// parseNumber formats what it has read, because Atoi also accepts leading zeros and a plus sign.
func parseNumber(word string) (int, bool) {
	n, err := strconv.Atoi(word)
	if err != nil || strconv.Itoa(n) != word {
		return 0, false
	}
	return n, true
}

func parseLiteral(word string) (literal, bool) {
	name, negated := strings.CutPrefix(word, "~")
	digits, named := strings.CutPrefix(name, "x")
	variable, ok := parseNumber(digits)
	if !named || !ok || variable < 1 || variable > MaxVars {
		return 0, false
	}
	if negated {
		return literal(-variable), true
	}
	return literal(variable), true
}
