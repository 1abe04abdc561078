package tests

// Chapter 9, ground terms and universes: P9 for GroundInstances.

import (
	"slices"
	"testing"

	"loop.example/g03210/impl"
)

func TestGroundInstances(t *testing.T) {
	for _, c := range [][3]string{
		// Without variables.
		{"a", "b", "a"}, {"()", "a b", "()"}, {"7", "() a 0 (a)", "7"}, {"(a (b . 1))", "(c)", "(a (b . 1))"}, {"(a . b)", "a b c d e f g h", "(a . b)"},
		// One variable.
		{"?0", "a", "a"}, {"?0", "a b", "a b"}, {"?100000", "() a 0 (a)", "() a 0 (a)"}, {"?3", "a b c d e f g h", "a b c d e f g h"}, {"(?0)", "a b", "(a) (b)"}, {"(a . ?5)", "() b 3 (c)", "(a) (a . b) (a . 3) (a c)"}, {"(a (b ?5) . c)", "0 1", "(a (b 0) . c) (a (b 1) . c)"},
		// Several variables, in each order of their numbers.
		{"(?0 . ?1)", "a b", "(a . a) (a . b) (b . a) (b . b)"}, {"(?1 . ?0)", "a b", "(a . a) (a . b) (b . a) (b . b)"}, {"(?9 . ?100000)", "a", "(a . a)"},
		{"(?1 ?0 . ?2)", "a b", "(a a . a) (a a . b) (a b . a) (a b . b) (b a . a) (b a . b) (b b . a) (b b . b)"}, {"((?2 . ?0) . ?1)", "a b", "((a . a) . a) ((a . a) . b) ((a . b) . a) ((a . b) . b) ((b . a) . a) ((b . a) . b) ((b . b) . a) ((b . b) . b)"},
		{"(?0 . ?1)", "() a 1", "(()) (() . a) (() . 1) (a) (a . a) (a . 1) (1) (1 . a) (1 . 1)"}, {"(?4 x . ?2)", "1 (a)", "(1 x . 1) (1 x a) ((a) x . 1) ((a) x a)"},
		// Variables several times.
		{"(?0 . ?0)", "a b", "(a . a) (b . b)"}, {"(?0 ?0 . ?0)", "() 1", "(() ()) (1 1 . 1)"}, {"(?1 ?0 . ?1)", "a b", "(a a . a) (a b . a) (b a . b) (b b . b)"}, {"(?0 ?1 ?0 . ?1)", "a b", "(a a a . a) (a b a . b) (b a b . a) (b b b . b)"}, {"((?5 . ?5) . ?3)", "a b", "((a . a) . a) ((a . a) . b) ((b . b) . a) ((b . b) . b)"},
		// The values are parts like others.
		{"(?0 . b)", "a (a . b)", "(a . b) ((a . b) . b)"}, {"(?0 . ?1)", "(a) (b)", "((a) a) ((a) b) ((b) a) ((b) b)"}, {"(?1 a ?0)", "(a a) (b)", "((a a) a (a a)) ((a a) a (b)) ((b) a (a a)) ((b) a (b))"},
		// Integers are no variables.
		{"(0 ?0 1 ?1)", "0 1", "(0 0 1 0) (0 0 1 1) (0 1 1 0) (0 1 1 1)"},
	} {
		checkInstances(t, term(c[0]), terms(c[1]), terms(c[2]))
	}
}

func TestGroundInstancesOfAllSmallTerms(t *testing.T) {
	list := allTerms([]impl.Term{variable(2), variable(0), variable(7), symbol("a"), number(0)}, 5)
	list = append(list, terms("(?1 ?0 ?2 . ?0) ((?3 . ?2) . (?1 . ?2)) (?2 (?1) 1 . ?1) ((((?0 . ?1) . b) . ?0) . ?2)")...)
	universes := smallUniverses()
	for i, a := range list {
		for j := i % 13; j < len(universes); j += 13 {
			checkInstances(t, a, universes[j], instancesByDefinition(a, universes[j]))
		}
		for _, u := range [][]impl.Term{terms("a"), terms("a b"), terms("() (a) (a a)"), terms("() a b -7 5 (a) (a a) ((a))")} {
			checkInstances(t, a, u, instancesByDefinition(a, u))
		}
	}
}

// occurring returns a term with n variables from first on.
func occurring(first int, n int) impl.Term { return listOf(variables(first, n)...) }

func TestGroundInstancesUpToMaxInstances(t *testing.T) {
	for elements, most := range map[int]int{2: 9, 3: 5, 4: 4, 5: 3, 6: 3, 7: 3, 8: 3} {
		u := numbers(-2, elements)
		count := 1
		for n := 0; n <= most; n++ {
			got := impl.GroundInstances(occurring(3, n), u)
			if len(got) != count || !sameTerms(got, instancesByDefinition(occurring(3, n), u)) {
				t.Errorf("%d variables and %d values have %d instances, want %d", n, elements, len(got), count)
			}
			count *= elements
		}
		for _, n := range []int{most + 1, most + 2, 10, 11, 20, 31, 32, 33, 62, 63, 64, 65, 66, 127, 128, 399, 400, 401, 1000, 2499} {
			if n <= most {
				continue
			}
			soon(t, "very many instances", func() {
				checkNoInstances(t, "more than MaxInstances", occurring(0, n), u)
				checkNoInstances(t, "more than MaxInstances, by other names", occurring(100001-n, n), u)
				checkNoInstances(t, "more than MaxInstances, in another place", leaves(balanced(2*n-1, empty()), variable), u)
			})
		}
	}
	// Only different variables count.
	repeated := listOf(slices.Repeat(variables(0, 9), 250)...)
	if got := impl.GroundInstances(repeated, terms("a b")); len(got) != 512 {
		t.Errorf("9 variables, each of them 250 times, have %d instances", len(got))
	}
	checkNoInstances(t, "one variable more", listOf(append(slices.Repeat(variables(0, 9), 249), variable(9))...), terms("a b"))
	checkInstances(t, balanced(4999, variable(5)), numbers(0, 8), eachLeaf(4999, numbers(0, 8)))
}

// eachLeaf returns the balanced terms of these leaves.
func eachLeaf(size int, l []impl.Term) []impl.Term {
	var all []impl.Term
	for _, leaf := range l {
		all = append(all, balanced(size, leaf))
	}
	return all
}

// With one element there is one instance, for any number of variables: chapter
// 9 limits only their choices and the nodes of the instances, while matching
// has at most MaxBindings values.
func TestGroundInstancesForOneValue(t *testing.T) {
	a := symbol("a")
	for _, n := range []int{0, 1, 2, 9, 10, 63, 64, 65, 399, 400, 401, 402, 512, 513, 800, 801, 1000, 2498, 2499} {
		soon(t, "one value for many variables", func() {
			want := []impl.Term{listOf(slices.Repeat([]impl.Term{a}, n)...)}
			checkInstances(t, occurring(0, n), []impl.Term{a}, want)
			checkInstances(t, occurring(100001-n, n), []impl.Term{a}, want)
			if got := impl.IsInstance(want[0], occurring(0, n)); got != (n <= 400) {
				t.Errorf("IsInstance of a list of %d symbols and a list of as many variables is %v", n, got)
			}
			tree := balanced(2*n+1, empty())
			checkInstances(t, leaves(tree, variable), []impl.Term{a}, []impl.Term{balanced(2*n+1, a)})
			checkInstances(t, leaves(tree, func(k int) impl.Term { return variable(100000 - k/2) }), []impl.Term{a}, []impl.Term{balanced(2*n+1, a)})
		})
	}
	// The instance can still be too large.
	b := term("(b . c)")
	for _, n := range []int{399, 400, 401, 402, 800, 1000, 1249} {
		checkInstances(t, occurring(3, n), []impl.Term{b}, []impl.Term{listOf(slices.Repeat([]impl.Term{b}, n)...)})
	}
	for _, n := range []int{1250, 1251, 2000, 2499} {
		checkNoInstances(t, "many variables, and too many nodes", occurring(3, n), []impl.Term{b})
	}
	for _, n := range []int{1, 199, 200, 201, 400, 401, 600} {
		checkInstances(t, spacedOut(7, n), []impl.Term{pair(a, a)}, []impl.Term{listOf(slices.Repeat([]impl.Term{pair(a, a)}, 2*n)...)})
	}
}

func TestGroundInstancesRefuse(t *testing.T) {
	a, x := symbol("a"), variable(0)
	for name, bad := range badTerms() {
		for _, u := range [][]impl.Term{{a}, {a, number(1)}, {bad}, nil} {
			for _, term := range []impl.Term{bad, pair(bad, x), pair(x, bad), pair(a, pair(bad, a))} {
				checkNoInstances(t, name, term, u)
			}
		}
	}
	for name, u := range badUniverses() {
		for _, term := range []impl.Term{a, empty(), x, pair(a, a), pair(x, x), pair(x, variable(1))} {
			checkNoInstances(t, name, term, u)
		}
	}
	// What is not valid does not become valid by being replaced.
	checkNoInstances(t, "a variable that is not valid", variable(-1), []impl.Term{a})
	checkNoInstances(t, "a term that is too large", balanced(5001, x), []impl.Term{a})
	// What lies in the spare capacity is not looked at.
	u := append(terms("a b"), x, a)
	checkInstances(t, pair(x, a), u[:2], terms("(a . a) (b . a)"))
	checkNoInstances(t, "more of the list", pair(x, a), u[:3])
}

// An instance of MaxTerm nodes is one, and if one is larger there are none.
func TestGroundInstancesUpToMaxTerm(t *testing.T) {
	a, x, y := symbol("a"), variable(0), variable(1)
	half, more, large := sized(2499, a), sized(2501, a), sized(4999, a)
	checkInstances(t, x, []impl.Term{a, large}, []impl.Term{a, large})
	checkInstances(t, large, []impl.Term{large}, []impl.Term{large})
	checkInstances(t, pair(x, x), []impl.Term{a, half}, []impl.Term{pair(a, a), pair(half, half)})
	checkNoInstances(t, "two terms of 2501 nodes", pair(x, x), []impl.Term{a, more})
	checkInstances(t, pair(x, a), []impl.Term{a, sized(4997, a)}, []impl.Term{pair(a, a), pair(sized(4997, a), a)})
	checkNoInstances(t, "two nodes more", pair(x, a), []impl.Term{a, large})
	checkNoInstances(t, "two nodes more, in the tail", pair(a, x), []impl.Term{a, large})
	// Only one of the instances is too large, wherever it is in the order.
	checkInstances(t, pair(x, y), distinct([]impl.Term{a, half, number(1)}), instancesByDefinition(pair(x, y), distinct([]impl.Term{a, half, number(1)})))
	for _, u := range [][]impl.Term{{a, more}, {more}, {pair(balanced(2499, empty()), a), pair(a, a)}, {empty(), more, pair(pair(pair(a, a), a), a)}, {a, number(1), more}} {
		if u = distinct(u); !impl.UniverseOk(u) {
			t.Errorf("%s is no universe", briefList(u))
		}
		checkNoInstances(t, "the pair of the largest element and itself", pair(x, y), u)
		checkNoInstances(t, "the same variable twice", pair(x, x), u)
		checkNoInstances(t, "both and more", pair(y, pair(a, x)), u)
		checkInstances(t, pair(x, pair(a, a)), u, instancesByDefinition(pair(x, pair(a, a)), u))
	}
	for _, left := range []bool{false, true} {
		checkInstances(t, pairs(2498, left, a, x), terms("b (c . d)"), []impl.Term{pairs(2498, left, a, symbol("b")), pairs(2498, left, a, term("(c . d)"))})
		checkNoInstances(t, "one pair more", pairs(2499, left, a, x), terms("b (c . d)"))
		checkInstances(t, pairs(2499, left, a, x), terms("b d"), []impl.Term{pairs(2499, left, a, symbol("b")), pairs(2499, left, a, symbol("d"))})
		checkNoInstances(t, "one pair for each of 2500 variables", pairs(2499, left, x, x), terms("(c . d)"))
	}
	soon(t, "instances that are much too large", func() {
		for range 50 {
			checkNoInstances(t, "2500 large terms", balanced(4999, x), []impl.Term{large})
			checkNoInstances(t, "2500 large terms for three variables", leaves(balanced(4999, x), func(k int) impl.Term { return variable(k % 3) }), eachWith(numbers(0, 8), balanced(4997, a)))
		}
	})
}

func TestGroundInstancesOfLargeTerms(t *testing.T) {
	for _, c := range []struct{ variables, elements int }{{9, 2}, {3, 8}, {5, 3}, {1, 8}} {
		large := leaves(balanced(4999, empty()), func(k int) impl.Term { return variable(7 * ((k + 1) % c.variables)) })
		soon(t, "GroundInstances of a large term", func() {
			checkInstances(t, large, numbers(3, c.elements), instancesByDefinition(large, numbers(3, c.elements)))
		})
	}
}
