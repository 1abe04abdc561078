package tests

// Chapter 9, ground terms and universes: P9 for IsGround and UniverseOk.

import (
	"slices"
	"testing"

	"loop.example/g03210/impl"
)

func checkGround(t *testing.T, name string, term impl.Term, want bool) {
	t.Helper()
	if got := impl.IsGround(term); got != want {
		t.Errorf("IsGround of %s is %v", name, got)
	}
}

func checkUniverse(t *testing.T, name string, u []impl.Term, want bool) {
	t.Helper()
	if got := impl.UniverseOk(u); got != want {
		t.Errorf("UniverseOk of %s is %v", name, got)
	}
}

func TestIsGround(t *testing.T) {
	for _, text := range []string{
		"()", "a", "abcdefghijkl", "0", "1", "-1", "1000000000", "-1000000000", "(a)", "(a . b)", "(())", "(1 2 3)", "((a) (b . 1) ())", "(((a . b) . c) . d)", "(a b c d e . f)",
	} {
		checkGround(t, text, term(text), true)
	}
	for _, text := range []string{
		"?0", "?1", "?7", "?100000", "(?0)", "(?0 . a)", "(a . ?0)", "(a ?0)", "(?0 ?1)", "(?3 . ?3)", "((?0) a b)", "((a . ?0) . b)", "(a b c d . ?0)", "(a b c (d ?100000) e)", "((((?5 . a) . b) . c) . d)", "(1 (2 (3 (4 . ?0))))",
	} {
		checkGround(t, text, term(text), false)
	}
}

func TestIsGroundOfAllSmallTerms(t *testing.T) {
	good := 0
	list := smallTerms()
	for _, a := range list {
		want := len(varsByDefinition(a)) == 0
		if want {
			good++
		}
		checkGround(t, brief(a), a, want)
	}
	if good < 20 || good > len(list)/2 {
		t.Errorf("%d of %d terms are ground", good, len(list))
	}
}

func TestIsGroundRefuses(t *testing.T) {
	a, x := symbol("a"), variable(0)
	for name, bad := range badTerms() {
		for _, term := range []impl.Term{bad, pair(bad, a), pair(a, bad), pair(x, bad), pair(bad, x), pair(a, pair(a, pair(bad, a)))} {
			checkGround(t, name, term, false)
		}
	}
	checkGround(t, "a variable that is not valid", variable(-1), false)
	checkGround(t, "two nodes too many", balanced(5001, a), false)
	checkGround(t, "too many nodes, with variables", balanced(5001, x), false)
	checkGround(t, "far too many nodes", balanced(99999, a), false)
	soon(t, "IsGround of parts that are shared", func() {
		checkGround(t, "exponentially many nodes", full(200, a), false)
		checkGround(t, "exponentially many variables", full(200, x), false)
		checkGround(t, "4095 nodes", full(11, a), true)
		checkGround(t, "4095 nodes with variables", full(11, x), false)
	})
}

func TestIsGroundOfLargeTerms(t *testing.T) {
	a, x := symbol("a"), variable(0)
	whole := balanced(4999, empty())
	checkGround(t, "4999 nodes", whole, true)
	checkGround(t, "2500 variables", leaves(whole, variable), false)
	for _, place := range []int{0, 1, 1249, 1250, 2498, 2499} {
		checkGround(t, "2499 atoms and a variable", leaves(whole, func(k int) impl.Term {
			if k == place {
				return x
			}
			return number(k)
		}), false)
	}
	for _, left := range []bool{false, true} {
		checkGround(t, "2499 pairs", pairs(2499, left, a, a), true)
		checkGround(t, "2500 pairs", pairs(2500, left, a, a), false)
		checkGround(t, "a variable under 2499 pairs", pairs(2499, left, a, x), false)
		checkGround(t, "variables in 2499 pairs", pairs(2499, left, x, a), false)
		checkGround(t, "a variable in 2499 pairs", pairs(1249, left, a, pair(x, pairs(1249, !left, a, a))), false)
	}
}

func TestUniverseOk(t *testing.T) {
	for name, u := range goodUniverses() {
		checkUniverse(t, name, u, true)
	}
	for name, u := range badUniverses() {
		checkUniverse(t, name, u, false)
	}
}

// All lists of up to three of some terms, a variable among them.
func TestUniverseOkOfAllSmallLists(t *testing.T) {
	list := terms("() a b 0 1 (a) (a . b) (() . b) ?0 (?0)")
	good := 0
	check := func(u ...impl.Term) {
		want := !slices.ContainsFunc(u, func(a impl.Term) bool { return len(varsByDefinition(a)) > 0 }) && sameTerms(u, distinct(u))
		if want {
			good++
		}
		checkUniverse(t, briefList(u), u, want)
	}
	for _, a := range list {
		check(a)
		for _, b := range list {
			check(a, b)
			for _, c := range list {
				check(a, b, c)
			}
		}
	}
	if good != 8+28+56 {
		t.Errorf("%d lists are universes", good)
	}
}

func TestLimitsOfUniverses(t *testing.T) {
	if impl.MaxUniverse != 8 || impl.MaxInstances != 512 {
		t.Errorf("MaxUniverse is %d and MaxInstances %d", impl.MaxUniverse, impl.MaxInstances)
	}
}

func TestUniverseOkUpToMaxUniverse(t *testing.T) {
	u := terms("() a b -7 5 (a) (a a) ((a)) ((b)) (((b)))")
	for n := range u {
		checkUniverse(t, "the first terms", u[:n], n > 0 && n <= 8)
	}
	// What lies in the spare capacity is not looked at.
	checkUniverse(t, "a list with a term behind it", append(terms("a b"), terms("a")...)[:2], true)
	checkUniverse(t, "a list with a variable behind it", append(terms("a b"), variable(0))[:2], true)
	// Each element may be as large as a term can be.
	for i := range 8 {
		large := eachWith(numbers(0, 8), balanced(4997, empty()))
		large[i] = pair(number(i), balanced(4999, empty()))
		checkUniverse(t, "an element that is too large", large, false)
		large[i] = pair(number(i), leaves(balanced(4997, empty()), func(k int) impl.Term {
			if k == 2498 {
				return variable(3)
			}
			return empty()
		}))
		checkUniverse(t, "an element with a variable", large, false)
	}
}
