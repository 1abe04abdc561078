package tests

// Chapter 7, matching and generalization: P9 for Generalize.

import (
	"slices"
	"testing"

	"loop.example/g03210/impl"
)

func TestGeneralize(t *testing.T) {
	for _, c := range [][2]string{
		// One element: its variables are numbered anew.
		{"a", "a"}, {"()", "()"}, {"-3", "-3"}, {"?0", "?0"}, {"?7", "?0"}, {"?100000", "?0"}, {"(a (b) . 1)", "(a (b) . 1)"},
		{"(?5 ?3 ?5 ?0)", "(?0 ?1 ?0 ?2)"}, {"((?1 . ?0) (?0 . ?2))", "((?0 . ?1) (?1 . ?2))"},
		// Equal elements.
		{"a a", "a"}, {"() () ()", "()"}, {"7 7", "7"}, {"(a (b)) (a (b)) (a (b))", "(a (b))"}, {"?4 ?4", "?0"}, {"(?4 a ?4) (?4 a ?4)", "(?0 a ?0)"}, {"(?4 ?2) (?4 ?2)", "(?0 ?1)"},
		// Atoms that differ.
		{"a b", "?0"}, {"a aa", "?0"}, {"a 1", "?0"}, {"a ()", "?0"}, {"0 ()", "?0"}, {"1 -1", "?0"}, {"a a b", "?0"}, {"b a a", "?0"}, {"a b a", "?0"}, {"a b c", "?0"},
		// Pairs against atoms and variables.
		{"(a) a", "?0"}, {"a (a)", "?0"}, {"() (a)", "?0"}, {"(a) ()", "?0"}, {"(a) (a) a", "?0"}, {"a (a) (a)", "?0"}, {"(a) ?0", "?0"}, {"?0 (a)", "?0"}, {"(a) (a) ?1", "?0"},
		{"(a) (a b)", "(a . ?0)"}, {"(a b) (a)", "(a . ?0)"}, {"(a b) (a . b)", "(a . ?0)"}, {"((a)) (a)", "(?0)"}, {"(a) ((a))", "(?0)"},
		// Variables against atoms and each other.
		{"a ?0", "?0"}, {"?3 a", "?0"}, {"?3 ?4", "?0"}, {"?3 ?3 ?4", "?0"}, {"?0 0", "?0"}, {"?1 1 1", "?0"},
		// Pairs of pairs.
		{"(a b) (c b)", "(?0 b)"}, {"(a b) (a c)", "(a ?0)"}, {"(a . b) (c . d)", "(?0 . ?1)"}, {"(a b c) (a d c)", "(a ?0 c)"},
		{"((a b) c) ((a d) c)", "((a ?0) c)"}, {"((a) b) (a (b))", "(?0 ?1)"}, {"(a b c) (a b)", "(a b . ?0)"}, {"(1 2 3) (1 2 3 4) (1 2)", "(1 2 . ?0)"},
	} {
		checkGeneral(t, terms(c[0]), term(c[1]))
	}
	for _, a := range smallTerms() {
		checkGeneral(t, []impl.Term{a, a}, generalByDefinition([]impl.Term{a}))
	}
}

func TestGeneralizeEqualPlaces(t *testing.T) {
	for _, c := range [][2]string{
		// The parts of all elements are the same at several places.
		{"(a a) (b b)", "(?0 ?0)"}, {"(a a a) (b b b)", "(?0 ?0 ?0)"}, {"(a . a) (b . b)", "(?0 . ?0)"}, {"(a c a) (b c b)", "(?0 c ?0)"},
		{"((a) x a) (b x b)", "(?0 x ?1)"}, {"(a (x a)) ((b) (x (b)))", "(?0 (x ?0))"}, {"((a b) (a b)) (c c)", "(?0 ?0)"},
		{"(a b a b) (c d c d)", "(?0 ?1 ?0 ?1)"}, {"(a b b a) (c d d c)", "(?0 ?1 ?1 ?0)"}, {"(a a a) (b b b) (1 1 1)", "(?0 ?0 ?0)"},
		// Only some elements agree there.
		{"(a a) (b c)", "(?0 ?1)"}, {"(b c) (a a)", "(?0 ?1)"}, {"(a b) (b a)", "(?0 ?1)"}, {"(a a) (a a) (a b)", "(a ?0)"}, {"(a a) (b b) (b c)", "(?0 ?1)"},
		{"(a a a) (b b c)", "(?0 ?0 ?1)"}, {"(a a a) (b c b)", "(?0 ?1 ?0)"}, {"(a a a) (c b b)", "(?0 ?1 ?1)"}, {"(a b a b) (c c d d)", "(?0 ?1 ?2 ?3)"},
		{"(a b a) (b a b)", "(?0 ?1 ?0)"}, {"(a b) (b c) (c a)", "(?0 ?1)"}, {"((a b) (a c)) (d d)", "(?0 ?1)"}, {"((a) (a)) (b (b))", "(?0 (?1))"},
		{"(x y x y x) (x x y y x)", "(x ?0 ?1 y x)"}, {"(1 1 2 2) (1 2 1 2)", "(1 ?0 ?1 2)"},
		// Atoms that look alike.
		{"(ab ac) (x x)", "(?0 ?1)"}, {"(a aa) (x x)", "(?0 ?1)"}, {"(1 -1) (x x)", "(?0 ?1)"}, {"(12 1) (x x)", "(?0 ?1)"},
		{"(0 ()) (1 1)", "(?0 ?1)"}, {"(1 ?1) (a a)", "(?0 ?1)"}, {"(() ?0) (a a)", "(?0 ?1)"}, {"((a . b) (a b)) (c c)", "(?0 ?1)"}, {"((a b) c) ((a) c)", "((a . ?0) c)"},
		{"((a) (a . ())) (b b)", "(?0 ?0)"}, {"((a b) ((a) b)) (c c)", "(?0 ?1)"}, {"(((a) b) ((a) . b)) (c c)", "(?0 ?1)"},
		// Pairs on the way count as parts too, but a variable stands only where they end.
		{"((a . b) (a . b)) ((c . d) (c . d))", "((?0 . ?1) (?0 . ?1))"}, {"((a . b) a) ((c . d) c)", "((?0 . ?1) ?0)"},
	} {
		checkGeneral(t, terms(c[0]), term(c[1]))
	}
}

func TestGeneralizeElementsWithVariables(t *testing.T) {
	for _, c := range [][2]string{
		{"(?0 ?1) (?1 ?0)", "(?0 ?1)"}, {"(?0 ?0) (?1 ?1)", "(?0 ?0)"}, {"(?5 ?5) (?5 ?5)", "(?0 ?0)"}, {"(?0 ?0) (?0 ?1)", "(?0 ?1)"},
		{"(?3 a ?3) (?4 a ?4)", "(?0 a ?0)"}, {"(?3 a ?3) (?4 a ?3)", "(?0 a ?1)"}, {"(?3 a) (?4 ?4)", "(?0 ?1)"}, {"(a ?0) (b ?0)", "(?0 ?1)"},
		{"(?2 a ?2) (?2 b ?2)", "(?0 ?1 ?0)"}, {"(a ?1 ?1) (b ?1 ?1)", "(?0 ?1 ?1)"}, {"((?9) (?9)) (a a)", "(?0 ?0)"}, {"((?9) (?8)) (a a)", "(?0 ?1)"},
		{"(?1 ?2 ?3) (?2 ?3 ?1) (?3 ?1 ?2)", "(?0 ?1 ?2)"}, {"(?0 . ?0) ((?0) . ?0)", "(?0 . ?1)"}, {"(?7 (?7 a)) (?7 (?7 b))", "(?0 (?0 ?1))"},
		{"((a . ?3) ?3) ((a . ?4) ?4)", "((a . ?0) ?0)"}, {"(?2 ?1 ?0)", "(?0 ?1 ?2)"}, {"(?2 ?1 ?0) (?2 ?1 ?0)", "(?0 ?1 ?2)"},
	} {
		checkGeneral(t, terms(c[0]), term(c[1]))
	}
}

// The variables are numbered from left to right, whether they stand in heads or
// tails and whatever their parts are.
func TestGeneralizeNumbersFromLeftToRight(t *testing.T) {
	for _, c := range [][2]string{
		{"(b a) (c b)", "(?0 ?1)"}, {"(z y x) (c b a)", "(?0 ?1 ?2)"}, {"((a . b) . c) ((d . e) . f)", "((?0 . ?1) . ?2)"},
		{"(a . (b . c)) (d . (e . f))", "(?0 . (?1 . ?2))"}, {"((a . b) . (c . d)) ((e . f) . (g . h))", "((?0 . ?1) . (?2 . ?3))"},
		{"(((a) . b) . c) (((d) . e) . f)", "(((?0) . ?1) . ?2)"}, {"((x . c) . (b . a)) ((x . f) . (e . c))", "((x . ?0) . (?1 . ?2))"},
		{"(c (b (a) b) c) (f (e (d) e) f)", "(?0 (?1 (?2) ?1) ?0)"}, {"(?9 ?8 ?7) (?7 ?8 ?9)", "(?0 ?1 ?2)"},
		{"(2 (1 0) 1 2) (5 (4 3) 4 5)", "(?0 (?1 ?2) ?1 ?0)"},
	} {
		checkGeneral(t, terms(c[0]), term(c[1]))
	}
	for _, left := range []bool{false, true} {
		l := []impl.Term{symbol("z"), symbol("y")}
		for i := range 30 {
			for j := range l {
				l[j] = pairs(1, left, number(i+100*j), l[j])
			}
		}
		checkGeneral(t, l, generalByDefinition(l))
	}
}

func TestGeneralizeUpToMaxList(t *testing.T) {
	a := symbol("a")
	for n := 1; n < 45; n++ {
		l := slices.Repeat([]impl.Term{pair(a, pair(a, a))}, n)
		numbers := make([]impl.Term, n)
		for i := range numbers {
			numbers[i] = pair(number(i), pair(a, number(i)))
		}
		if n > 40 {
			checkNotGeneralized(t, "more than MaxList elements", l)
			checkNotGeneralized(t, "more than MaxList different elements", numbers)
			continue
		}
		checkGeneral(t, l, pair(a, pair(a, a)))
		if n > 1 {
			checkGeneral(t, numbers, term("(?0 a . ?0)"))
			checkGeneral(t, append(numbers[1:], term("(0 a . 77)")), term("(?0 a . ?1)"))
			// Each element counts, wherever it is.
			for i := range n {
				other := slices.Clone(l)
				other[i] = term("(a b . a)")
				checkGeneral(t, other, term("(a ?0 . a)"))
				other[i] = term("(b a . b)")
				checkGeneral(t, other, term("(?0 a . ?0)"))
				other[i] = a
				checkGeneral(t, other, variable(0))
				other[i] = term("(a a . ?1)")
				checkGeneral(t, other, term("(a a . ?0)"))
				other[i] = term("(a a)")
				checkGeneral(t, other, term("(a a . ?0)"))
			}
		}
	}
	checkNotGeneralized(t, "very many elements", slices.Repeat([]impl.Term{a}, 5000))
}

func TestGeneralizeRefuses(t *testing.T) {
	a, x := symbol("a"), variable(0)
	checkNotGeneralized(t, "no list", nil)
	checkNotGeneralized(t, "no element", []impl.Term{})
	for name, bad := range badTerms() {
		checkNotGeneralized(t, name, []impl.Term{bad})
		checkNotGeneralized(t, name, []impl.Term{bad, bad})
		checkNotGeneralized(t, name, []impl.Term{bad, a, x})
		checkNotGeneralized(t, name, []impl.Term{a, bad, pair(a, x)})
		checkNotGeneralized(t, name, []impl.Term{a, x, bad})
		checkNotGeneralized(t, name, []impl.Term{a, pair(bad, a)})
		checkNotGeneralized(t, name, []impl.Term{pair(a, a), pair(a, bad)})
		checkNotGeneralized(t, name, append(slices.Repeat([]impl.Term{a}, 39), bad))
	}
	checkNotGeneralized(t, "too large terms", []impl.Term{balanced(5001, a), balanced(5001, a)})
}

// leavesReplaced returns t with leaves that f makes of their number, from left to right.
func leavesReplaced(t impl.Term, next *int, f func(int) impl.Term) impl.Term {
	if t.Kind == impl.KPair {
		head := leavesReplaced(t.Args[0], next, f)
		return pair(head, leavesReplaced(t.Args[1], next, f))
	}
	*next++
	return f(*next - 1)
}

func leaves(t impl.Term, f func(int) impl.Term) impl.Term {
	next := 0
	return leavesReplaced(t, &next, f)
}

func TestGeneralizeLargeTerms(t *testing.T) {
	a, b, x := symbol("a"), symbol("b"), variable(0)
	checkGeneral(t, []impl.Term{balanced(4999, a), balanced(4999, b)}, balanced(4999, x))
	checkGeneral(t, []impl.Term{balanced(4999, a), balanced(4999, a)}, balanced(4999, a))
	checkGeneral(t, []impl.Term{balanced(4999, variable(9))}, balanced(4999, x))
	half := balanced(2499, a)
	checkGeneral(t, []impl.Term{pair(half, half), pair(b, b)}, pair(x, x))
	checkGeneral(t, []impl.Term{pair(half, balanced(2499, b)), pair(b, b)}, pair(x, variable(1)))
	for _, left := range []bool{false, true} {
		checkGeneral(t, []impl.Term{pairs(2499, left, a, a), pairs(2499, left, a, b)}, pairs(2499, left, a, x))
		checkGeneral(t, []impl.Term{pairs(2499, left, a, b), pairs(2498, left, a, b)}, pairs(2498, left, a, x))
		checkGeneral(t, []impl.Term{pairs(2499, left, a, a), pairs(2499, left, b, b)}, pairs(2499, left, x, x))
		checkGeneral(t, []impl.Term{pairs(2499, left, a, a), pairs(2499, !left, a, a)}, generalByDefinition([]impl.Term{pairs(1, left, a, pair(a, a)), pairs(1, !left, a, pair(a, a))}))
		deep, other := pairs(1249, left, a, a), pairs(1249, left, a, b)
		checkGeneral(t, []impl.Term{pair(deep, deep), pair(a, a)}, pair(x, x))
		checkGeneral(t, []impl.Term{pair(deep, other), pair(a, a)}, pair(x, variable(1)))
	}
}

// As many variables as a term can have, and more than MaxBindings.
func TestGeneralizeManyVariables(t *testing.T) {
	whole := balanced(4999, empty())
	soon(t, "Generalize with many variables", func() {
		for _, n := range []int{1, 2, 3, 40} {
			var l []impl.Term
			for i := range n {
				l = append(l, leaves(whole, func(k int) impl.Term { return number(k + i) }))
			}
			want := leaves(whole, variable)
			if n == 1 {
				want = l[0]
			}
			checkGeneral(t, l, want)
		}
		downwards := leaves(whole, func(k int) impl.Term { return variable(100000 - k) })
		checkGeneral(t, []impl.Term{downwards}, leaves(whole, variable))
		checkGeneral(t, []impl.Term{downwards, whole}, leaves(whole, variable))
		// The parts of each place are compared with those of all others: only
		// the last element, or the first one, shows that they differ.
		l := slices.Repeat([]impl.Term{leaves(whole, func(int) impl.Term { return symbol("a") })}, 39)
		checkGeneral(t, append(l, leaves(whole, number)), leaves(whole, variable))
		checkGeneral(t, append([]impl.Term{leaves(whole, number)}, l...), leaves(whole, variable))
		checkGeneral(t, append(l, leaves(whole, func(k int) impl.Term { return number(k % 7) })), leaves(whole, func(k int) impl.Term { return variable(k % 7) }))
	})
}

// Long parts that differ at their ends only, each against an atom.
func TestGeneralizeManyLongParts(t *testing.T) {
	soon(t, "Generalize with long parts", func() {
		for _, depth := range []int{1, 2, 10, 35, 100, 600} {
			for _, left := range []bool{false, true} {
				n := 4998 / (2*depth + 2)
				var long, want []impl.Term
				for i := range n {
					long = append(long, pairs(depth, left, symbol("a"), number(i%50)))
					want = append(want, variable(i%50))
				}
				atoms := listOf(slices.Repeat([]impl.Term{symbol("a")}, n)...)
				for _, k := range []int{1, 20, 39} {
					l := append(slices.Repeat([]impl.Term{listOf(long...)}, k), atoms)
					checkGeneral(t, l, listOf(want...))
					slices.Reverse(l)
					checkGeneral(t, l, listOf(want...))
				}
			}
		}
	})
}
