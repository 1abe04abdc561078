package tests

// Chapter 8, canonical names: P9 for OrderedVars, VarBound and ShiftTerm.

import (
	"math"
	"slices"
	"testing"

	"loop.example/g03210/impl"
)

func TestOrderedVars(t *testing.T) {
	for _, c := range []struct {
		text string
		want []int
	}{
		// No variables.
		{"", nil}, {"a", nil}, {"()", nil}, {"7", nil}, {"a () -1 (a (b) . 3)", nil}, {"0 1 2", nil},
		// One variable, once or several times.
		{"?0", []int{0}}, {"?7", []int{7}}, {"?100000", []int{100000}}, {"(a ?7 . b)", []int{7}},
		{"(?2 ?2 . ?2)", []int{2}}, {"?2 ?2 ?2", []int{2}}, {"(?2 a) b (?2 (?2)) ?2", []int{2}},
		// From left to right, whatever the numbers are.
		{"(?0 . ?1)", []int{0, 1}}, {"(?1 . ?0)", []int{1, 0}}, {"(?3 ?1 ?2)", []int{3, 1, 2}}, {"(?9 ?0 ?100000 ?5)", []int{9, 0, 100000, 5}},
		{"((?3 . ?2) . ?1)", []int{3, 2, 1}}, {"((?1 . ?2) . ?3)", []int{1, 2, 3}}, {"(?3 . (?1 . ?2))", []int{3, 1, 2}}, {"((?4 . ?2) . (?3 . ?1))", []int{4, 2, 3, 1}},
		{"(((?5) ?1) (?3 (?2)) . ?4)", []int{5, 1, 3, 2, 4}}, {"(a (?8 b) ?6 (c . ?7))", []int{8, 6, 7}},
		// From the first term to the last one.
		{"?0 ?1 ?2", []int{0, 1, 2}}, {"?2 ?1 ?0", []int{2, 1, 0}}, {"?1 ?2 ?0", []int{1, 2, 0}}, {"a ?4 b ?3 ()", []int{4, 3}}, {"(a ?4) (?3 b)", []int{4, 3}},
		// Again in the same term, and in other ones.
		{"(?3 ?1) ?3", []int{3, 1}}, {"?3 (?1 ?3)", []int{3, 1}}, {"(?3 ?1 ?3 ?0 ?1)", []int{3, 1, 0}}, {"(?3 ?1) (?1 ?3)", []int{3, 1}}, {"(?3 ?1) (?2 ?3) (?0 ?2)", []int{3, 1, 2, 0}},
		{"?1 ?1 ?0 ?0 ?1", []int{1, 0}}, {"((?2 . ?2) . ?0) (?0 ?1)", []int{2, 0, 1}}, {"(?1 1 ?2) (2 ?0)", []int{1, 2, 0}},
	} {
		checkOrdered(t, terms(c.text), c.want)
	}
	checkOrdered(t, nil, nil)
	checkOrdered(t, []impl.Term{}, nil)
}

func TestVarBound(t *testing.T) {
	for _, c := range []struct {
		text string
		want int
	}{
		// No variables.
		{"", 0}, {"a", 0}, {"()", 0}, {"7", 0}, {"a () -1 (a (b) . 3)", 0}, {"1000000000", 0}, {"(5 (6 . 7))", 0},
		// One variable.
		{"?0", 1}, {"?1", 2}, {"?99999", 100000}, {"?100000", 100001}, {"(a ?0 . b)", 1}, {"(?0 ?0) ?0", 1}, {"(a 9 ?3 8)", 4},
		// The greatest one in a head, in a tail, and between others.
		{"(?5 . ?1)", 6}, {"(?1 . ?5)", 6}, {"(?1 ?5 ?2)", 6}, {"((?5 . ?1) . ?2)", 6}, {"((?1 . ?5) . ?2)", 6}, {"(?1 . (?2 . ?5))", 6}, {"(?1 . (?5 . ?2))", 6},
		{"(?0 ?100000)", 100001}, {"(?100000 ?0)", 100001},
		// The greatest one in the first, a middle and the last term.
		{"?5 ?1 ?2", 6}, {"?1 ?5 ?2", 6}, {"?1 ?2 ?5", 6}, {"(?1 ?5) ?2 (?3 ?4)", 6}, {"(?1 ?3) (?5 ?2) (?3 ?4)", 6}, {"(?1 ?3) ?2 (?4 ?5)", 6},
		{"?100000 a ?0", 100001}, {"a ?100000 ?0", 100001}, {"?0 a ?100000", 100001},
		{"?0 a b", 1}, {"a ?0 b", 1}, {"a b ?0", 1}, {"?3 () 4", 4}, {"() 9 ?3", 4},
	} {
		checkBound(t, terms(c.text), c.want)
	}
	checkBound(t, nil, 0)
	checkBound(t, []impl.Term{}, 0)
}

func TestVariablesOfAllSmallLists(t *testing.T) {
	for _, l := range smallLists() {
		want := orderedByDefinition(l)
		checkOrdered(t, l, want)
		bound := 0
		if len(want) > 0 {
			bound = 1 + slices.Max(want)
		}
		checkBound(t, l, bound)
	}
}

func TestVariablesOfManyTerms(t *testing.T) {
	// There is no limit for the terms, and none for the variables but their numbers.
	for _, n := range []int{39, 40, 41, 399, 400, 401, 5000, 100001} {
		l := variables(0, n)
		var want []int
		for i := range n {
			want = append(want, i)
		}
		checkOrdered(t, l, want)
		checkBound(t, l, n)
		slices.Reverse(l)
		slices.Reverse(want)
		checkOrdered(t, l, want)
		checkOrdered(t, append(l, l...), want)
		checkBound(t, l, n)
		checkOrdered(t, slices.Repeat([]impl.Term{symbol("a")}, n), nil)
		checkBound(t, slices.Repeat([]impl.Term{symbol("a")}, n), 0)
	}
	var want []int
	for v := impl.MaxVar; v >= 0; v-- {
		want = append(want, v)
	}
	checkOrdered(t, everyVariable(), want)
	checkBound(t, everyVariable(), 100001)
}

func TestVariablesOfLargeTerms(t *testing.T) {
	a, x, y := symbol("a"), variable(7), variable(3)
	checkOrdered(t, []impl.Term{balanced(4999, x)}, []int{7})
	checkBound(t, []impl.Term{balanced(4999, x)}, 8)
	checkOrdered(t, []impl.Term{balanced(4999, a), balanced(4999, y), balanced(4999, x)}, []int{3, 7})
	for _, left := range []bool{false, true} {
		deep := pairs(2499, left, a, x)
		checkOrdered(t, []impl.Term{deep}, []int{7})
		checkBound(t, []impl.Term{deep}, 8)
		both := pairs(2499, left, y, x)
		want := []int{3, 7}
		if left {
			want = []int{7, 3}
		}
		checkOrdered(t, []impl.Term{both}, want)
		checkBound(t, []impl.Term{y, both, y}, 8)
	}
}

func TestNamesRefuse(t *testing.T) {
	a, x := symbol("a"), variable(0)
	for name, bad := range badTerms() {
		for _, l := range [][]impl.Term{
			{bad}, {bad, bad}, {bad, a}, {bad, x}, {a, bad}, {x, bad}, {bad, x, a}, {x, bad, a}, {a, x, bad},
			{pair(bad, x)}, {pair(x, bad)}, {pair(a, a), pair(a, bad)}, {pair(x, pair(bad, a)), x},
			append(variables(0, 500), bad),
		} {
			checkNamesRefused(t, name, l)
		}
		for _, n := range []int{0, 1, 2, 100000, math.MaxInt, -1, math.MinInt} {
			checkNotShifted(t, name, bad, n)
			checkNotShifted(t, name, pair(x, bad), n)
			checkNotShifted(t, name, pair(bad, a), n)
		}
	}
	large := balanced(5001, x)
	checkNamesRefused(t, "a term that is too large", []impl.Term{large})
	checkNamesRefused(t, "two nodes too many, at the end", []impl.Term{balanced(4999, x), balanced(4999, x), large})
	checkNotShifted(t, "a term that is too large", large, 0)
	// A variable below 0 does not become valid by being shifted.
	checkNotShifted(t, "a variable below 0", variable(-1), 1)
	checkNotShifted(t, "a variable far below 0", pair(a, variable(-1000)), 2000)
	// What lies in the spare capacity is not looked at.
	l := append(terms("?3 a"), variable(-1), variable(9))
	checkOrdered(t, l[:2], []int{3})
	checkBound(t, l[:2], 4)
	checkCanonical(t, l[:2], terms("?0 a"))
	checkNamesRefused(t, "more of the list", l[:3])
}

func TestShiftTerm(t *testing.T) {
	for _, c := range []struct {
		text string
		n    int
		want string
	}{
		{"?0", 0, "?0"}, {"?0", 1, "?1"}, {"?7", 0, "?7"}, {"?7", 3, "?10"}, {"?0", 100000, "?100000"}, {"?1", 99999, "?100000"}, {"?100000", 0, "?100000"}, {"?99999", 1, "?100000"},
		{"(?3 ?1)", 10, "(?13 ?11)"}, {"(?3 ?1)", 0, "(?3 ?1)"}, {"(?0 . ?1)", 1, "(?1 . ?2)"}, {"(?1 . ?0)", 1, "(?2 . ?1)"}, {"(?0 ?1 ?2)", 1, "(?1 ?2 ?3)"}, {"(?2 ?1 ?0)", 1, "(?3 ?2 ?1)"},
		{"(?0 ?0 . ?0)", 5, "(?5 ?5 . ?5)"}, {"(?5 ?0 ?5)", 5, "(?10 ?5 ?10)"}, {"((?4 . ?2) . (?3 . ?1))", 4, "((?8 . ?6) . (?7 . ?5))"}, {"(a (?8 b) ?6 (c . ?7))", 100, "(a (?108 b) ?106 (c . ?107))"},
		// Only variables have numbers of this kind.
		{"(0 ?0 a 1 ?1 ())", 2, "(0 ?2 a 1 ?3 ())"}, {"(-5 ?1 . 1000000000)", 99999, "(-5 ?100000 . 1000000000)"},
		// The greatest variable in each place.
		{"(?0 ?99998)", 2, "(?2 ?100000)"}, {"(?99998 ?0)", 2, "(?100000 ?2)"}, {"((?99998 . ?0) . ?1)", 2, "((?100000 . ?2) . ?3)"}, {"(?0 ?99998 ?1)", 2, "(?2 ?100000 ?3)"},
	} {
		checkShifted(t, term(c.text), c.n, term(c.want))
	}
}

// All terms are valid results where nothing is shifted, however far.
func TestShiftTermsWithoutVariables(t *testing.T) {
	numbers := []int{0, 1, 7, 99999, 100000, 100001, 100002, 1000000000, math.MaxInt32, math.MaxInt32 + 1, math.MaxInt - 1, math.MaxInt}
	for _, a := range terms("a () 0 100000 1000000000 (a) (a . b) (1 (2) . 3) (() ())") {
		for _, n := range numbers {
			checkShifted(t, a, n, a)
			checkShifted(t, pair(a, a), n, pair(a, a))
		}
	}
	for _, n := range numbers {
		checkShifted(t, balanced(4999, symbol("a")), n, balanced(4999, symbol("a")))
	}
}

func TestShiftTermUpToMaxVar(t *testing.T) {
	a, x := symbol("a"), variable(0)
	for _, v := range []int{0, 1, 2, 50000, 99998, 99999, 100000} {
		rest := 100000 - v
		for _, f := range []func(impl.Term) impl.Term{
			func(t impl.Term) impl.Term { return t },
			func(t impl.Term) impl.Term { return pair(t, a) },
			func(t impl.Term) impl.Term { return pair(a, t) },
			func(t impl.Term) impl.Term { return pair(t, t) },
			func(t impl.Term) impl.Term { return pair(pair(number(100000), t), a) },
			func(t impl.Term) impl.Term { return pairs(2499, false, a, t) },
			func(t impl.Term) impl.Term { return pairs(2499, true, a, t) },
		} {
			for _, n := range []int{0, rest / 2, rest - 1, rest} {
				if n >= 0 {
					checkShifted(t, f(variable(v)), n, f(variable(v+n)))
				}
			}
			for _, n := range []int{rest + 1, rest + 2, 100001, 100002, 1000000000, math.MaxInt32, math.MaxUint32, math.MaxUint32 + 1, math.MaxInt - v - 1, math.MaxInt - v, math.MaxInt - v + 1, math.MaxInt - 1, math.MaxInt} {
				if n > rest {
					checkNotShifted(t, "a variable that passes MaxVar", f(variable(v)), n)
				}
			}
		}
		// One of several variables is too great, wherever it is.
		for _, l := range [][]impl.Term{{variable(v), x, x}, {x, variable(v), x}, {x, x, variable(v)}} {
			checkShifted(t, listOf(l...), rest, pair(variable(l[0].Int+rest), listOf(variable(l[1].Int+rest), variable(l[2].Int+rest))))
			checkNotShifted(t, "one of three variables", listOf(l...), rest+1)
			checkNotShifted(t, "one of two variables", pair(pair(l[0], l[1]), l[2]), rest+1)
		}
	}
}

func TestShiftTermRefusesNegativeNumbers(t *testing.T) {
	for _, text := range []string{"a", "()", "3", "(a b)", "?0", "?1", "?100000", "(?5 a . ?7)", "(?100000)"} {
		for _, n := range []int{-1, -2, -5, -100000, -100001, math.MinInt32, math.MinInt + 1, math.MinInt} {
			checkNotShifted(t, text, term(text), n)
		}
	}
}

func TestShiftLargeTerms(t *testing.T) {
	a, x := symbol("a"), variable(0)
	checkShifted(t, balanced(4999, x), 5, balanced(4999, variable(5)))
	checkShifted(t, balanced(4999, x), 100000, balanced(4999, variable(100000)))
	checkNotShifted(t, "many variables that pass MaxVar", balanced(4999, x), 100001)
	whole := balanced(4999, empty())
	checkShifted(t, leaves(whole, variable), 97501, leaves(whole, func(k int) impl.Term { return variable(97501 + k) }))
	checkNotShifted(t, "one of 2500 variables", leaves(whole, variable), 97502)
	checkNotShifted(t, "two nodes too many", balanced(5001, a), 0)
	for _, left := range []bool{false, true} {
		checkShifted(t, pairs(2499, left, variable(3), x), 4, pairs(2499, left, variable(7), variable(4)))
		checkNotShifted(t, "one pair too many", pairs(2500, left, variable(3), x), 4)
	}
}

func TestShiftAllSmallTerms(t *testing.T) {
	for _, a := range smallTerms() {
		for _, n := range []int{0, 1, 2, 50, 99996} {
			checkShifted(t, a, n, shiftedByDefinition(a, n))
			// Shifted twice is shifted by the sum.
			once, _ := impl.ShiftTerm(a, n)
			checkShifted(t, once, 2, shiftedByDefinition(a, n+2))
		}
	}
}
