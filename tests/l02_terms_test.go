package tests

// Chapter 3, terms: P9 for each of the eight functions, and P1 for what they
// say of each other.

import (
	"math"
	"slices"
	"testing"

	"loop.example/g03210/impl"
)

func TestConstantsOfTerms(t *testing.T) {
	kinds := []int{impl.KNil, impl.KVar, impl.KSym, impl.KInt, impl.KPair}
	if !slices.Equal(kinds, []int{0, 1, 2, 3, 4}) {
		t.Errorf("the kinds are %d", kinds)
	}
	if impl.MaxTerm != 5000 || impl.MaxVar != 100000 || impl.MaxNumber != 1000000000 {
		t.Errorf("the limits are %d, %d and %d", impl.MaxTerm, impl.MaxVar, impl.MaxNumber)
	}
}

func checkSize(t *testing.T, name string, term impl.Term, want int) {
	t.Helper()
	ok, size := impl.TermOk(term), impl.TermSize(term)
	if ok != (want > 0) || size != want {
		t.Errorf("%s: TermOk is %v and TermSize %d, want %d", name, ok, size, want)
	}
}

func TestSizesOfTerms(t *testing.T) {
	atoms := []impl.Term{
		empty(), variable(0), variable(1), variable(99999), variable(100000), symbol("a"), symbol("z-9"),
		symbol("abcdefghijkl"), symbol("not"), number(0), number(1), number(-1), number(1000000000),
		number(-1000000000), {Kind: impl.KNil, Args: []impl.Term{}},
	}
	for _, a := range atoms {
		checkSize(t, show(a), a, 1)
		checkSize(t, show(a)+" with spare capacity", spaced(a), 1)
		for _, b := range atoms {
			checkSize(t, "a pair", pair(a, b), 3)
			checkSize(t, "a list", pair(a, pair(b, empty())), 5)
			checkSize(t, "a pair of pairs", spaced(pair(pair(a, b), pair(b, a))), 7)
		}
	}
}

func TestInvalidTerms(t *testing.T) {
	for name, bad := range badTerms() {
		checkSize(t, name, bad, -1)
	}
	for _, n := range []int{math.MinInt, -100000, -2, -1, 100001, 100002, math.MaxInt} {
		checkSize(t, "a variable out of range", variable(n), -1)
	}
	for _, n := range []int{math.MinInt, -1000000002, -1000000001, 1000000001, 1000000002, math.MaxInt} {
		checkSize(t, "an integer out of range", number(n), -1)
	}
	for kind := -10; kind < 20; kind++ {
		want := -1
		if kind == impl.KNil || kind == impl.KVar || kind == impl.KInt {
			want = 1
		}
		checkSize(t, "a term with no field but Kind", impl.Term{Kind: kind}, want)
	}
}

// Each field is set or not, in all ways and for all kinds.
func TestFieldsOfEachKind(t *testing.T) {
	for kind := -1; kind <= 5; kind++ {
		for _, n := range []int{0, 1, -1} {
			for _, name := range []string{"", "a", "A"} {
				for args := range 4 {
					term := impl.Term{Kind: kind, Int: n, Name: name, Args: make([]impl.Term, args)}
					want := -1
					switch {
					case kind == impl.KNil && n == 0 && name == "" && args == 0,
						kind == impl.KVar && n >= 0 && name == "" && args == 0,
						kind == impl.KSym && n == 0 && name == "a" && args == 0,
						kind == impl.KInt && name == "" && args == 0:
						want = 1
					case kind == impl.KPair && n == 0 && name == "" && args == 2:
						want = 3
					}
					checkSize(t, show(term), term, want)
				}
			}
		}
	}
}

// Sizes are odd, so that the greatest term has MaxTerm - 1 nodes.
func TestTermsAsLargeAsPossible(t *testing.T) {
	a, x := symbol("a"), variable(7)
	for _, left := range []bool{false, true} {
		checkSize(t, "2499 pairs", pairs(2499, left, a, x), 4999)
		checkSize(t, "2500 pairs", pairs(2500, left, a, x), -1)
		checkSize(t, "2499 pairs, the last one large", pairs(2498, left, a, pair(a, x)), 4999)
		checkSize(t, "2500 pairs, the last one large", pairs(2498, left, a, pair(a, pair(x, x))), -1)
		checkSize(t, "many pairs", pairs(100000, left, a, x), -1)
	}
	checkSize(t, "a balanced term", balanced(4999, x), 4999)
	checkSize(t, "a balanced term with more", balanced(5001, x), -1)
	half := balanced(2499, x)
	checkSize(t, "two halves", pair(half, half), 4999)
	checkSize(t, "two halves and more", pair(half, pair(a, half)), -1)
	checkSize(t, "two halves and more at the left", pair(pair(half, a), half), -1)
}

// Parts that share their memory count as often as they occur.
func TestTermsOfSharedParts(t *testing.T) {
	term, size := number(1), 1
	for range 200 {
		term, size = pair(term, term), 2*size+1
		if size > impl.MaxTerm {
			size = -1
		}
		checkSize(t, "a term of shared parts", term, size)
		if size < 0 {
			size = impl.MaxTerm
		}
	}
}

func checkVars(t *testing.T, name string, term impl.Term, want ...int) {
	t.Helper()
	if got := impl.TermVars(term); !slices.Equal(got, want) {
		t.Errorf("%s: TermVars is %d, want %d", name, got, want)
	}
	for _, v := range append([]int{math.MinInt, -1, 0, 1, 2, 3, 9, 10, 99999, 100000, 100001, math.MaxInt}, want...) {
		if got := impl.OccursIn(v, term); got != slices.Contains(want, v) {
			t.Errorf("%s: OccursIn of %d is %v", name, v, got)
		}
	}
}

func TestVariablesOfTerms(t *testing.T) {
	a, x, y, z := symbol("a"), variable(0), variable(2), variable(10)
	checkVars(t, "the empty list", empty())
	checkVars(t, "a symbol", a)
	checkVars(t, "an integer", number(2))
	checkVars(t, "a ground pair", pair(number(0), pair(a, number(10))))
	checkVars(t, "the least variable", x, 0)
	checkVars(t, "the greatest variable", variable(100000), 100000)
	checkVars(t, "a head", pair(y, a), 2)
	checkVars(t, "a tail", pair(a, y), 2)
	checkVars(t, "one variable twice", pair(y, y), 2)
	checkVars(t, "one variable often", pair(pair(y, a), pair(y, pair(number(0), y))), 2)
	checkVars(t, "variables in descending order", pair(z, pair(y, x)), 0, 2, 10)
	checkVars(t, "variables that return", pair(pair(y, z), pair(x, pair(z, pair(y, x)))), 0, 2, 10)
	for _, left := range []bool{false, true} {
		checkVars(t, "a variable deep inside", pairs(2499, left, a, z), 10)
		checkVars(t, "a variable again and again", pairs(2499, left, z, x), 0, 10)
	}
	many, want := empty(), []int{}
	for v := range 2499 {
		many = pair(variable(3*v), many)
		want = append(want, 3*v)
	}
	checkVars(t, "a list of variables", many, want...)
	for name, bad := range badTerms() {
		checkVars(t, name, bad)
	}
	checkVars(t, "a variable beside an invalid part", pair(x, variable(-1)))
	checkVars(t, "a variable behind an invalid part", pair(variable(100001), y))
	checkVars(t, "variables of a term that is too large", balanced(5001, x))
}

// compareByDefinition is for valid terms.
func compareByDefinition(a impl.Term, b impl.Term) int {
	switch {
	case a.Kind != b.Kind:
		return sign(a.Kind < b.Kind)
	case a.Int != b.Int:
		return sign(a.Int < b.Int)
	case a.Name != b.Name:
		return sign(a.Name < b.Name)
	case a.Kind != impl.KPair:
		return 0
	}
	if c := compareByDefinition(a.Args[0], b.Args[0]); c != 0 {
		return c
	}
	return compareByDefinition(a.Args[1], b.Args[1])
}

func sign(less bool) int {
	if less {
		return -1
	}
	return 1
}

func TestOrderOfTerms(t *testing.T) {
	a, b, x, y := symbol("a"), symbol("b"), variable(0), variable(1)
	ascending := []impl.Term{
		empty(), x, y, variable(9), variable(10), variable(100000),
		a, symbol("a-"), symbol("a0"), symbol("aa"), symbol("ab"), b, symbol("ba"), symbol("z"),
		number(-1000000000), number(-10), number(-9), number(0), number(9), number(10), number(1000000000),
		pair(empty(), empty()), pair(empty(), pair(a, b)), pair(x, y), pair(y, x), pair(a, empty()),
		pair(a, b), pair(a, number(0)), pair(a, pair(a, b)), pair(a, pair(b, a)), pair(b, a),
		pair(number(-2), b), pair(number(-1), a), pair(pair(a, a), b), pair(pair(a, b), a), pair(pair(b, empty()), empty()),
	}
	for i := range ascending {
		for j := range ascending {
			want := 0
			if i != j {
				want = sign(i < j)
			}
			if got := impl.CompareTerms(ascending[i], spaced(ascending[j])); got != want {
				t.Errorf("CompareTerms(%s, %s) is %d", show(ascending[i]), show(ascending[j]), got)
			}
		}
	}
}

func TestOrderOfAllSmallTerms(t *testing.T) {
	terms := smallTerms()
	for _, a := range terms {
		for _, b := range terms {
			if got := impl.CompareTerms(a, b); got != compareByDefinition(a, b) || (got == 0) != same(a, b) {
				t.Errorf("CompareTerms(%s, %s) is %d", show(a), show(b), got)
			}
		}
	}
	for _, left := range []bool{false, true} {
		a, b := pairs(2499, left, empty(), symbol("a")), pairs(2499, left, empty(), symbol("b"))
		if impl.CompareTerms(a, b) != -1 || impl.CompareTerms(b, a) != 1 || impl.CompareTerms(b, b) != 0 {
			t.Errorf("terms that differ deep inside are not in order")
		}
	}
}

func TestOrderOfInvalidTerms(t *testing.T) {
	fine := []impl.Term{empty(), symbol("a"), pairs(2499, true, empty(), variable(0))}
	for name, bad := range badTerms() {
		for _, good := range fine {
			left, right, both := impl.CompareTerms(bad, good), impl.CompareTerms(good, bad), impl.CompareTerms(bad, bad)
			if left != 2 || right != 2 || both != 2 {
				t.Errorf("%s: CompareTerms is %d, %d and %d", name, left, right, both)
			}
		}
	}
	early := pair(symbol("a"), symbol("A"))
	if got := impl.CompareTerms(early, pair(symbol("b"), empty())); got != 2 {
		t.Errorf("a part that is invalid behind the first difference gives %d", got)
	}
}

func checkReplaced(t *testing.T, term impl.Term, v int, by impl.Term, want impl.Term) {
	t.Helper()
	if got, ok := impl.ReplaceVar(term, v, by); !ok || !same(got, want) {
		t.Errorf("ReplaceVar(%s, %d, %s) is %s, %v", brief(term), v, brief(by), brief(got), ok)
	}
}

func checkNotReplaced(t *testing.T, name string, term impl.Term, v int, by impl.Term) {
	t.Helper()
	if got, ok := impl.ReplaceVar(term, v, by); ok || !same(got, empty()) || got.Args != nil {
		t.Errorf("%s: ReplaceVar is %s, %v", name, brief(got), ok)
	}
}

func TestReplaceVar(t *testing.T) {
	a, x, y := symbol("a"), variable(0), variable(1)
	checkReplaced(t, x, 0, a, a)
	checkReplaced(t, x, 0, x, x)
	checkReplaced(t, x, 0, pair(y, a), pair(y, a))
	checkReplaced(t, pair(x, y), 0, a, pair(a, y))
	checkReplaced(t, pair(x, y), 1, a, pair(x, a))
	checkReplaced(t, pair(x, x), 0, pair(a, x), pair(pair(a, x), pair(a, x)))
	checkReplaced(t, pair(pair(x, a), pair(y, x)), 0, y, pair(pair(y, a), pair(y, y)))
	checkReplaced(t, variable(100000), 100000, empty(), empty())
	// An integer with the number of the variable is not that variable.
	checkReplaced(t, pair(number(0), x), 0, a, pair(number(0), a))
	checkReplaced(t, pair(a, pair(empty(), number(7))), 7, x, pair(a, pair(empty(), number(7))))
	checkReplaced(t, empty(), 0, a, empty())
}

func TestReplaceVariableThatDoesNotOccur(t *testing.T) {
	large := balanced(4999, variable(3))
	for _, v := range []int{math.MinInt, -2, -1, 0, 9, 99999, 100000, 100001, math.MaxInt} {
		for _, term := range []impl.Term{empty(), symbol("a"), number(-1), pair(number(9), variable(1)), large} {
			checkReplaced(t, term, v, symbol("b"), term)
			checkReplaced(t, term, v, large, term)
			for name, bad := range badTerms() {
				checkNotReplaced(t, name, term, v, bad)
			}
		}
	}
	// Numbers that are no variables name no node with such a number either.
	checkNotReplaced(t, "variable -1", variable(-1), -1, empty())
	checkNotReplaced(t, "variable MaxVar+1", pair(empty(), variable(100001)), 100001, empty())
}

func TestReplaceVarUpToMaxTerm(t *testing.T) {
	x := variable(0)
	two := pair(x, x)
	checkReplaced(t, two, 0, balanced(2499, x), pair(balanced(2499, x), balanced(2499, x)))
	checkNotReplaced(t, "two parts of 2501 nodes", two, 0, balanced(2501, x))
	checkReplaced(t, x, 0, balanced(4999, x), balanced(4999, x))
	checkReplaced(t, pair(x, empty()), 0, balanced(4997, x), pair(balanced(4997, x), empty()))
	checkNotReplaced(t, "a pair with a part of 4999 nodes", pair(x, empty()), 0, balanced(4999, x))
	checkReplaced(t, balanced(4999, x), 0, symbol("a"), balanced(4999, symbol("a")))
	checkReplaced(t, balanced(4999, x), 0, variable(1), balanced(4999, variable(1)))
	checkNotReplaced(t, "4999 nodes with pairs", balanced(4999, x), 0, two)
	checkNotReplaced(t, "4999 nodes with 4999 nodes", balanced(4999, x), 0, balanced(4999, x))
	for _, left := range []bool{false, true} {
		checkReplaced(t, pairs(1249, left, empty(), x), 0, pairs(1250, left, empty(), x), pairs(2499, left, empty(), x))
		checkNotReplaced(t, "a deep term", pairs(1250, left, empty(), x), 0, pairs(1250, left, empty(), x))
	}
}

func TestReplaceVarInInvalidTerms(t *testing.T) {
	for name, bad := range badTerms() {
		checkNotReplaced(t, name, bad, 0, symbol("a"))
		checkNotReplaced(t, name, bad, 5, symbol("a"))
		checkNotReplaced(t, name, variable(0), 0, bad)
		checkNotReplaced(t, name, bad, 0, bad)
	}
}

// replaceByDefinition is for valid terms.
func replaceByDefinition(t impl.Term, v int, by impl.Term) impl.Term {
	if t.Kind == impl.KVar && t.Int == v {
		return by
	}
	if t.Kind == impl.KPair {
		return pair(replaceByDefinition(t.Args[0], v, by), replaceByDefinition(t.Args[1], v, by))
	}
	return t
}

// P1: what is replaced, its size, its variables and its occurrences agree.
func TestReplacedTermsAgree(t *testing.T) {
	terms := smallTerms()
	for _, term := range terms {
		for v := range 3 {
			for _, by := range []impl.Term{empty(), variable(1), variable(2), pair(variable(0), variable(2))} {
				got, ok := impl.ReplaceVar(term, v, by)
				if !ok || !same(got, replaceByDefinition(term, v, by)) {
					t.Errorf("ReplaceVar(%s, %d, %s) is %s", show(term), v, show(by), show(got))
				}
				occurs := impl.OccursIn(v, term)
				if occurs != slices.Contains(impl.TermVars(term), v) {
					t.Errorf("OccursIn(%d, %s) is %v", v, show(term), occurs)
				}
				if !occurs && impl.CompareTerms(got, term) != 0 {
					t.Errorf("ReplaceVar changes %s", show(term))
				}
				if want := occurs && impl.OccursIn(v, by); impl.OccursIn(v, got) != want {
					t.Errorf("OccursIn(%d, %s) is not %v", v, show(got), want)
				}
			}
		}
	}
}
