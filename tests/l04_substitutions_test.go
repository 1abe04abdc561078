package tests

// Chapter 5, substitutions: P9 for SubstOk, Lookup, ApplySubst and RestrictSubst.

import (
	"math"
	"slices"
	"testing"

	"loop.example/g03210/impl"
)

func TestConstantsOfSubstitutions(t *testing.T) {
	if impl.MaxBindings != 400 {
		t.Errorf("MaxBindings is %d", impl.MaxBindings)
	}
}

func TestSubstOk(t *testing.T) {
	for name, s := range goodSubsts() {
		if !impl.SubstOk(s) || !impl.SubstOk(spacedSubst(s)) {
			t.Errorf("%s: SubstOk is false", name)
		}
	}
	for name, s := range badSubsts() {
		if impl.SubstOk(s) {
			t.Errorf("%s: SubstOk is true", name)
		}
	}
	for n := 395; n < 405; n++ {
		if got := impl.SubstOk(manyBindings(1, n, variable(0))); got != (n <= 400) {
			t.Errorf("SubstOk of %d bindings is %v", n, got)
		}
	}
}

// All lists of up to three bindings in all orders.
func TestSubstOkOfAllSmallLists(t *testing.T) {
	a, x, y, z := symbol("a"), variable(0), variable(1), variable(2)
	var bindings []impl.Binding
	for _, v := range []int{-1, 0, 1, 2, 3, 100001} {
		for _, to := range []impl.Term{a, number(1), x, y, z, pair(a, x), pair(y, a), pair(a, pair(z, y)), symbol("A")} {
			bindings = append(bindings, bind(v, to))
		}
	}
	lists := [][]impl.Binding{nil}
	from, good := 0, 0
	for range 3 {
		to := len(lists)
		for _, s := range lists[from:to] {
			for _, b := range bindings {
				lists = append(lists, append(slices.Clone(s), b))
			}
		}
		from = to
	}
	for _, s := range lists {
		want := substOkByDefinition(s)
		if got := impl.SubstOk(s); got != want {
			t.Errorf("SubstOk(%s) is %v", briefSubst(s), got)
		}
		if want {
			good++
		}
	}
	if good < 200 {
		t.Errorf("only %d of %d lists are substitutions", good, len(lists))
	}
}

func checkLookup(t *testing.T, s []impl.Binding, v int, want impl.Term) {
	t.Helper()
	if got, ok := impl.Lookup(s, v); !ok || !same(got, want) {
		t.Errorf("Lookup(%s, %d) is %s, %v", briefSubst(s), v, brief(got), ok)
	}
}

func checkNoLookup(t *testing.T, name string, s []impl.Binding, v int) {
	t.Helper()
	if got, ok := impl.Lookup(s, v); ok || !same(got, empty()) || got.Args != nil {
		t.Errorf("%s: Lookup of %d is %s, %v", name, v, brief(got), ok)
	}
}

func TestLookup(t *testing.T) {
	a, x := symbol("a"), variable(0)
	s := substOf(bind(1, a), bind(4, pair(x, number(9))), bind(5, empty()), bind(7, x), bind(100000, number(3)))
	checkLookup(t, s, 1, a)
	checkLookup(t, s, 4, pair(x, number(9)))
	checkLookup(t, s, 5, empty())
	checkLookup(t, s, 7, x)
	checkLookup(t, s, 100000, number(3))
	for _, v := range []int{math.MinInt, -5, -1, 0, 2, 3, 6, 8, 9, 99999, 100001, math.MaxInt} {
		checkNoLookup(t, "a variable that is not bound", s, v)
	}
	checkLookup(t, substOf(bind(0, a)), 0, a)
}

func TestLookupInAllLists(t *testing.T) {
	for name, s := range goodSubsts() {
		for i, b := range s {
			if i < 3 || i > len(s)-3 {
				checkLookup(t, s, b.Var, b.To)
			}
		}
		for _, v := range []int{math.MinInt, -1, 0, 1, 2, 3, 400, 401, 99600, 100000, 100001, math.MaxInt} {
			if !boundIn(s, v) {
				checkNoLookup(t, name, s, v)
			}
		}
	}
	for name, s := range badSubsts() {
		for _, v := range []int{-1, 0, 1, 2, 3, 100001} {
			checkNoLookup(t, name, s, v)
		}
	}
}

func checkApplied(t *testing.T, s []impl.Binding, term impl.Term, want impl.Term) {
	t.Helper()
	if got, ok := impl.ApplySubst(s, term); !ok || !same(got, want) {
		t.Errorf("ApplySubst(%s, %s) is %s, %v, want %s", briefSubst(s), brief(term), brief(got), ok, brief(want))
	}
}

func checkNotApplied(t *testing.T, name string, s []impl.Binding, term impl.Term) {
	t.Helper()
	if got, ok := impl.ApplySubst(s, term); ok || !same(got, empty()) || got.Args != nil {
		t.Errorf("%s: ApplySubst is %s, %v", name, brief(got), ok)
	}
}

func TestApplySubst(t *testing.T) {
	a, x, y, z := symbol("a"), variable(0), variable(1), variable(2)
	s := substOf(bind(1, pair(x, a)), bind(2, x), bind(4, empty()))
	checkApplied(t, s, y, pair(x, a))
	checkApplied(t, s, z, x)
	checkApplied(t, s, variable(4), empty())
	for _, term := range []impl.Term{empty(), a, x, variable(3), variable(100000), number(1), number(2), pair(number(4), pair(x, variable(5)))} {
		checkApplied(t, s, term, term)
	}
	checkApplied(t, s, pair(y, z), pair(pair(x, a), x))
	checkApplied(t, s, pair(y, y), pair(pair(x, a), pair(x, a)))
	checkApplied(t, s, pair(pair(variable(4), variable(3)), pair(y, pair(z, y))), pair(pair(empty(), variable(3)), pair(pair(x, a), pair(x, pair(x, a)))))
	checkApplied(t, substOf(bind(0, a)), pair(number(0), x), pair(number(0), a))
	checkApplied(t, substOf(bind(100000, a)), variable(100000), a)
	for _, s := range [][]impl.Binding{nil, {}} {
		for _, term := range smallTerms() {
			checkApplied(t, s, term, term)
		}
		checkApplied(t, s, balanced(4999, x), balanced(4999, x))
	}
}

func TestApplyAllSmallSubsts(t *testing.T) {
	terms := allTerms([]impl.Term{variable(0), variable(1), variable(2), variable(3), variable(4), number(1)}, 3)
	terms = append(terms, allTerms([]impl.Term{variable(1), variable(2)}, 7)...)
	for _, s := range smallSubsts() {
		for _, term := range terms {
			checkApplied(t, s, term, applyByDefinition(s, term))
		}
	}
}

func TestApplySubstUpToMaxTerm(t *testing.T) {
	a, x, y := symbol("a"), variable(0), variable(1)
	half, more, large := balanced(2499, y), balanced(2501, y), balanced(4999, y)
	checkApplied(t, substOf(bind(0, half)), pair(x, x), pair(half, half))
	checkNotApplied(t, "two parts of 2501 nodes", substOf(bind(0, more)), pair(x, x))
	checkApplied(t, substOf(bind(0, half), bind(2, half)), pair(x, variable(2)), pair(half, half))
	checkNotApplied(t, "parts of 2499 and 2501 nodes", substOf(bind(0, half), bind(2, more)), pair(x, variable(2)))
	checkNotApplied(t, "parts of 2501 and 2499 nodes", substOf(bind(0, more), bind(2, half)), pair(x, variable(2)))
	checkApplied(t, substOf(bind(0, large)), x, large)
	checkNotApplied(t, "a part of 4999 nodes in a pair", substOf(bind(0, large)), pair(a, x))
	checkNotApplied(t, "the same in a head", substOf(bind(0, large)), pair(x, a))
	checkApplied(t, substOf(bind(0, balanced(4997, y))), pair(a, x), pair(a, balanced(4997, y)))
	checkApplied(t, substOf(bind(0, balanced(4997, y))), pair(x, y), pair(balanced(4997, y), y))
	checkApplied(t, substOf(bind(0, a)), balanced(4999, x), balanced(4999, a))
	checkApplied(t, substOf(bind(0, pair(a, a))), large, large)
	checkApplied(t, substOf(bind(0, pair(a, a))), pairs(2498, true, a, x), pairs(2499, true, a, a))
	checkNotApplied(t, "one pair too many", substOf(bind(0, pair(a, a))), pairs(2499, true, a, x))
	for _, left := range []bool{false, true} {
		deep := substOf(bind(0, pairs(1250, left, a, y)))
		checkApplied(t, deep, pairs(1249, left, a, x), pairs(2499, left, a, y))
		checkNotApplied(t, "a deep term", deep, pairs(1250, left, a, x))
	}
}

// The sizes of the results are far from what can be built in memory.
func TestApplySubstMuchBeyondMaxTerm(t *testing.T) {
	x := variable(0)
	large := substOf(bind(0, balanced(4999, variable(1))))
	for _, term := range []impl.Term{balanced(4999, x), pairs(2499, true, x, x), pairs(2499, false, x, x), pairs(100, false, x, symbol("a"))} {
		for range 100 {
			checkNotApplied(t, "a much larger result", large, term)
		}
	}
	var vars []impl.Term
	for i := range 400 {
		vars = append(vars, variable(100000-i))
	}
	checkNotApplied(t, "each variable of the largest list", largestSubst(), chained(vars, empty()))
	checkNotApplied(t, "the last ones of the largest list", largestSubst(), pair(vars[1], vars[0]))
	checkApplied(t, largestSubst(), vars[399], balanced(4999, variable(0)))
}

func TestApplySubstRefuses(t *testing.T) {
	a, x := symbol("a"), variable(0)
	for name, bad := range badTerms() {
		checkNotApplied(t, name, nil, bad)
		checkNotApplied(t, name, substOf(bind(0, a)), bad)
		checkNotApplied(t, name, substOf(bind(3, a), bind(5, x)), pair(x, bad))
	}
	for name, bad := range badSubsts() {
		for _, term := range []impl.Term{a, x, variable(1), variable(50), pair(variable(1), variable(2)), empty()} {
			checkNotApplied(t, name, bad, term)
		}
		checkNotApplied(t, name, bad, symbol("A"))
	}
	// Variables that are none do not become valid by being bound or too large for it.
	checkNotApplied(t, "a variable that is not valid", substOf(bind(1, a)), variable(-1))
	checkNotApplied(t, "a term that is too large", substOf(bind(1, a)), balanced(5001, variable(1)))
}

func checkRestricted(t *testing.T, s []impl.Binding, vars []int, want ...impl.Binding) {
	t.Helper()
	if got := impl.RestrictSubst(s, vars); !sameSubst(got, want) {
		t.Errorf("RestrictSubst(%s, %.20d) is %s", briefSubst(s), vars, briefSubst(got))
	}
}

func TestRestrictSubst(t *testing.T) {
	a, x := symbol("a"), variable(0)
	first, second, third, last := bind(1, a), bind(4, pair(x, a)), bind(5, empty()), bind(100000, x)
	s := substOf(first, second, third, last)
	checkRestricted(t, s, nil)
	checkRestricted(t, s, []int{})
	checkRestricted(t, s, []int{1}, first)
	checkRestricted(t, s, []int{100000}, last)
	checkRestricted(t, s, []int{5, 4}, second, third)
	checkRestricted(t, s, []int{5, 1, 100000, 4}, first, second, third, last)
	checkRestricted(t, s, []int{4, 4, 1, 4, 1}, first, second)
	checkRestricted(t, s, []int{0, 2, 3, 6, 99999})
	checkRestricted(t, s, []int{math.MinInt, -1, 5, 100001, math.MaxInt, 5, -4}, third)
	checkRestricted(t, nil, []int{0, 1, 2})
	for name, bad := range badSubsts() {
		var vars []int
		for _, b := range bad {
			vars = append(vars, b.Var)
		}
		for _, some := range [][]int{nil, {1}, vars} {
			if got := impl.RestrictSubst(bad, some); len(got) != 0 {
				t.Errorf("%s: RestrictSubst has %d bindings", name, len(got))
			}
		}
	}
}

// P1: a restriction binds what it keeps as before, and nothing else.
func TestRestrictionsAgreeWithLookup(t *testing.T) {
	lists := smallSubsts()
	for _, s := range goodSubsts() {
		lists = append(lists, s)
	}
	for _, s := range lists {
		for _, vars := range [][]int{{}, {0}, {3, 1}, {2, 0, 2}, {0, 1, 2, 3}, {100000, 99800, 399, 1}} {
			r := impl.RestrictSubst(s, vars)
			if !impl.SubstOk(r) || slices.ContainsFunc(r, func(b impl.Binding) bool { return !slices.Contains(vars, b.Var) }) {
				t.Errorf("RestrictSubst(%s, %d) is %s", briefSubst(s), vars, briefSubst(r))
			}
			for _, v := range vars {
				want, bound := impl.Lookup(s, v)
				if got, ok := impl.Lookup(r, v); ok != bound || !same(got, want) {
					t.Errorf("RestrictSubst(%s, %d) binds %d to %s, %v", briefSubst(s), vars, v, brief(got), ok)
				}
			}
		}
		var all []int
		for _, b := range slices.Backward(s) {
			all = append(all, b.Var)
		}
		checkRestricted(t, s, all, s...)
	}
}
