package tests

// Chapter 7, matching and generalization: P9 for ValuesOk and Instantiate.

import (
	"slices"
	"testing"

	"loop.example/g03210/impl"
)

func TestValuesOk(t *testing.T) {
	for _, l := range [][]impl.Binding{nil, {}} {
		if !impl.ValuesOk(l) {
			t.Error("ValuesOk of no values is false")
		}
	}
	for name, l := range goodValues() {
		if !impl.ValuesOk(l) || !impl.ValuesOk(spacedSubst(l)) {
			t.Errorf("%s: ValuesOk is false", name)
		}
	}
	for name, l := range badBindings() {
		if impl.ValuesOk(l) {
			t.Errorf("%s: ValuesOk is true", name)
		}
	}
	if impl.ValuesOk(themselves(0, 401)) || impl.ValuesOk(values("?0 ?0 ?0 ?0")) || impl.ValuesOk(values("?1 ?0 ?0 ?1")) {
		t.Error("ValuesOk of too many, a variable twice or descending ones is true")
	}
	// What lies in the spare capacity is not looked at.
	bad := badBindings()["variable -1"]
	if l := append(values("?0 a"), bad...)[:1]; !impl.ValuesOk(l) || impl.ValuesOk(l[:2]) {
		t.Error("ValuesOk looks at other bindings than those of the list")
	}
}

func TestValuesOkUpToTheLimits(t *testing.T) {
	a := symbol("a")
	for n := range 420 {
		for _, first := range []int{0, 7, 100001 - n} {
			if got := impl.ValuesOk(manyBindings(first, n, a)); got != (n <= 400) {
				t.Errorf("ValuesOk of %d values from %d on is %v", n, first, got)
			}
		}
		if got := impl.ValuesOk(manyBindings(100002-n, n, a)); got != (n == 0) {
			t.Errorf("ValuesOk of %d values up to MaxVar+1 is %v", n, got)
		}
		if got := impl.ValuesOk(manyBindings(-1, n, a)); got != (n == 0) {
			t.Errorf("ValuesOk of %d values from -1 on is %v", n, got)
		}
	}
	for _, left := range []bool{false, true} {
		for _, n := range []int{2498, 2499, 2500, 2501} {
			l := substOf(bind(3, pairs(n, left, a, variable(3))))
			if got := impl.ValuesOk(l); got != (n < 2500) {
				t.Errorf("ValuesOk of a term with %d pairs is %v", n, got)
			}
		}
	}
}

func TestValuesOkOfAllSmallLists(t *testing.T) {
	list := []impl.Term{symbol("a"), variable(0), variable(1), pair(variable(2), variable(0)), variable(-1), symbol("A")}
	good, all := 0, 0
	for _, vars := range [][]int{{0, 1, 2}, {2, 1, 0}, {0, 2, 1}, {0, 0, 1}, {-1, 0, 1}, {99999, 100000, 100001}} {
		for _, l := range allBindingLists(vars, list) {
			all++
			want := valuesOkByDefinition(l)
			if want {
				good++
			}
			if got := impl.ValuesOk(l); got != want {
				t.Errorf("ValuesOk of the variables %d is %v for %v", vars, got, l)
			}
			// Each substitution is a list of values.
			if impl.SubstOk(l) && !want {
				t.Errorf("SubstOk is true for %v", l)
			}
		}
	}
	if good < all/10 || good > all*9/10 {
		t.Errorf("%d of %d lists are values", good, all)
	}
}

func TestInstantiate(t *testing.T) {
	for _, c := range [][3]string{
		// Terms without variables.
		{"a", "?0 b", "a"},
		{"()", "?0 b", "()"},
		{"0", "?0 b", "0"},
		{"(0 1 (a . 2))", "?0 b ?1 c ?2 d", "(0 1 (a . 2))"},
		// Variables with values and without.
		{"?0", "", "?0"},
		{"?0", "?0 b", "b"},
		{"?0", "?1 b", "?0"},
		{"?1", "?0 a ?1 (b) ?2 c", "(b)"},
		{"?100000", "?100000 a", "a"},
		{"?100000", "?99999 a", "?100000"},
		{"?0", "?0 ()", "()"},
		{"(?0 ?1 ?2)", "?0 a ?2 c", "(a ?1 c)"},
		{"(?0 ?0 . ?0)", "?0 (a)", "((a) (a) a)"},
		{"(?2 (?1 (?0)))", "?0 a ?1 b ?2 c", "(c (b (a)))"},
		{"((?0 . ?1) . ?2)", "?0 0 ?1 1 ?2 2", "((0 . 1) . 2)"},
		{"(?3 . ?4)", "?3 (a b) ?4 (c d)", "((a b) c d)"},
		// All at the same time: what comes from a value stays.
		{"(?0 ?1)", "?0 ?1 ?1 a", "(?1 a)"},
		{"(?0 ?1)", "?0 ?1 ?1 ?0", "(?1 ?0)"},
		{"(?0 ?1 ?2)", "?0 ?1 ?1 ?2 ?2 ?0", "(?1 ?2 ?0)"},
		{"(?0 ?1 ?2)", "?0 ?2 ?1 ?0 ?2 ?1", "(?2 ?0 ?1)"},
		{"?0", "?0 (?0)", "(?0)"},
		{"(?0 ?0)", "?0 (?0 . ?0)", "((?0 . ?0) (?0 . ?0))"},
		{"?0", "?0 ?0", "?0"},
		{"(?1 ?0)", "?0 ?0 ?1 (?1)", "((?1) ?0)"},
		{"(?0 ?1)", "?0 (?1 ?2) ?1 (?2 ?0) ?2 a", "((?1 ?2) (?2 ?0))"},
		{"?0", "?0 ?1 ?1 ?2 ?2 a", "?1"},
		{"?2", "?0 a ?1 ?0 ?2 ?1", "?1"},
	} {
		checkInstance(t, term(c[0]), values(c[1]), term(c[2]))
	}
	for _, a := range smallTerms() {
		checkInstance(t, a, nil, a)
		checkInstance(t, a, []impl.Binding{}, a)
		checkInstance(t, variable(4), substOf(bind(4, a)), a)
	}
}

func TestInstantiateWithMaxBindings(t *testing.T) {
	a, all := symbol("a"), listOf(variables(0, 400)...)
	checkInstance(t, all, themselves(0, 400), all)
	checkInstance(t, all, manyBindings(0, 400, a), listOf(slices.Repeat([]impl.Term{a}, 400)...))
	checkInstance(t, listOf(variables(0, 402)...), manyBindings(1, 400, a), listOf(slices.Concat(variables(0, 1), slices.Repeat([]impl.Term{a}, 400), variables(401, 1))...))
	// Each variable has the next one as its value.
	var next []impl.Binding
	for i := range 400 {
		next = append(next, bind(i, variable(i+1)))
	}
	checkInstance(t, all, next, listOf(variables(1, 400)...))
	checkInstance(t, variable(100000), manyBindings(99601, 400, balanced(4999, variable(100000))), balanced(4999, variable(100000)))
}

func TestInstantiateAllSmallTerms(t *testing.T) {
	list := allTerms([]impl.Term{variable(0), variable(1), variable(2), symbol("a"), number(0)}, 5)
	by := []impl.Term{symbol("a"), variable(0), variable(1), variable(3), pair(variable(1), variable(0)), pair(symbol("a"), variable(2))}
	for _, l := range allBindingLists([]int{0, 1, 2}, by) {
		for i := range list {
			// Every third term has one of three lists.
			if (i+len(l))%3 == 0 {
				checkInstance(t, list[i], l, applyByDefinition(l, list[i]))
			}
		}
	}
}

func TestInstantiateUpToMaxTerm(t *testing.T) {
	a, x, y := symbol("a"), variable(0), variable(1)
	half, more, large := balanced(2499, x), balanced(2501, x), balanced(4999, x)
	checkInstance(t, pair(x, x), substOf(bind(0, half)), pair(half, half))
	checkNotInstantiated(t, "two values of 2501 nodes", pair(x, x), substOf(bind(0, more)))
	checkInstance(t, pair(x, y), substOf(bind(0, half), bind(1, half)), pair(half, half))
	checkNotInstantiated(t, "values of 2499 and 2501 nodes", pair(x, y), substOf(bind(0, half), bind(1, more)))
	checkNotInstantiated(t, "values of 2501 and 2499 nodes", pair(x, y), substOf(bind(0, more), bind(1, half)))
	checkInstance(t, x, substOf(bind(0, large)), large)
	checkNotInstantiated(t, "a pair of 4999 nodes and an atom", pair(x, a), substOf(bind(0, large)))
	checkNotInstantiated(t, "a pair of an atom and 4999 nodes", pair(a, x), substOf(bind(0, large)))
	checkInstance(t, pair(a, x), substOf(bind(0, balanced(4997, x))), pair(a, balanced(4997, x)))
	// What has no place in the term, or its own size, counts nothing.
	checkInstance(t, y, substOf(bind(0, large)), y)
	checkInstance(t, large, nil, large)
	checkInstance(t, large, substOf(bind(0, y), bind(1, large)), balanced(4999, y))
	checkInstance(t, balanced(4999, a), substOf(bind(0, large)), balanced(4999, a))
	for _, left := range []bool{false, true} {
		checkInstance(t, pairs(2498, left, a, x), substOf(bind(0, pair(x, x))), pairs(2498, left, a, pair(x, x)))
		checkNotInstantiated(t, "one pair more", pairs(2499, left, a, x), substOf(bind(0, pair(a, a))))
		checkInstance(t, pairs(1249, left, a, x), substOf(bind(0, pairs(1250, left, a, y))), pairs(2499, left, a, y))
		checkNotInstantiated(t, "2500 pairs", pairs(1250, left, a, x), substOf(bind(0, pairs(1250, left, a, y))))
	}
	soon(t, "Instantiate with much larger results", func() {
		for _, term := range []impl.Term{large, pairs(2499, true, x, x), pairs(2499, false, x, x), pairs(100, false, x, a)} {
			for range 50 {
				checkNotInstantiated(t, "a much larger result", term, substOf(bind(0, large)))
			}
		}
		checkNotInstantiated(t, "many large values", listOf(variables(99601, 400)...), manyBindings(99601, 400, balanced(4999, x)))
	})
}

func TestInstantiateRefuses(t *testing.T) {
	a, x := symbol("a"), variable(0)
	for name, bad := range badTerms() {
		for _, l := range [][]impl.Binding{nil, {}, {bind(0, a)}, {bind(3, x), bind(5, a)}} {
			checkNotInstantiated(t, name, bad, l)
			checkNotInstantiated(t, name, pair(x, bad), l)
		}
	}
	for name, bad := range badBindings() {
		for _, term := range []impl.Term{a, empty(), x, variable(1), variable(50), pair(variable(1), variable(2)), symbol("A")} {
			checkNotInstantiated(t, name, term, bad)
		}
	}
	// What is not valid does not become valid by being replaced.
	checkNotInstantiated(t, "a variable that is not valid", variable(-1), substOf(bind(1, a)))
	checkNotInstantiated(t, "a term that is too large", balanced(5001, x), substOf(bind(0, a)))
	checkNotInstantiated(t, "a value that is not valid", pair(x, a), substOf(bind(0, a), bind(1, symbol("A"))))
}

// P1: a substitution is a list of values with the same effect.
func TestInstancesAgreeWithSubstitutions(t *testing.T) {
	list := allTerms([]impl.Term{variable(0), variable(1), variable(2), variable(3), symbol("a")}, 3)
	list = append(list, listOf(variables(0, 6)...), balanced(4999, variable(2)), balanced(2501, variable(3)))
	lists := smallSubsts()
	for _, s := range goodSubsts() {
		lists = append(lists, s)
	}
	good, bad := 0, 0
	for _, s := range lists {
		for _, term := range list {
			want, ok := impl.ApplySubst(s, term)
			if !ok {
				bad++
				checkNotInstantiated(t, "a result that is too large", term, s)
				continue
			}
			good++
			checkInstance(t, term, s, want)
		}
	}
	if good < 1000 || bad < 50 {
		t.Errorf("%d terms have an instance and %d none", good, bad)
	}
}
