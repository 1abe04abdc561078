package tests

// Chapter 9, ground terms and universes: P9 for SubtermsOf.

import (
	"slices"
	"testing"

	"loop.example/g03210/impl"
)

func TestSubtermsOf(t *testing.T) {
	for _, c := range [][2]string{
		// No terms, and atoms.
		{"", ""}, {"()", "()"}, {"a", "a"}, {"7", "7"}, {"?3", "?3"}, {"b a", "a b"}, {"a a", "a"}, {"1 b ?0 ()", "() ?0 b 1"}, {"10 9 -3 0", "-3 0 9 10"}, {"b aa a", "a aa b"}, {"?10 ?9", "?9 ?10"},
		// One term with its parts.
		{"(a . b)", "a b (a . b)"}, {"(b . a)", "a b (b . a)"}, {"(a)", "() a (a)"}, {"(())", "() (())"}, {"(a b)", "() a b (a b) (b)"}, {"(b a)", "() a b (a) (b a)"}, {"((a . b) . c)", "a b c (a . b) ((a . b) . c)"}, {"(a b . c)", "a b c (a b . c) (b . c)"},
		{"(3 2 1)", "() 1 2 3 (1) (2 1) (3 2 1)"}, {"((c . b) a)", "() a b c (a) (c . b) ((c . b) a)"},
		// Parts that occur several times.
		{"(a . a)", "a (a . a)"}, {"(a a)", "() a (a) (a a)"}, {"((a . b) a . b)", "a b (a . b) ((a . b) a . b)"}, {"((a) (a) a)", "() a (a) ((a) a) ((a) (a) a)"}, {"(() () . ())", "() (()) (() ())"},
		{"(((1 . 1) 1 . 1) (1 . 1) 1 . 1)", "1 (1 . 1) ((1 . 1) 1 . 1) (((1 . 1) 1 . 1) (1 . 1) 1 . 1)"},
		// Terms that share parts, or are parts of each other.
		{"(a . b) (b . a)", "a b (a . b) (b . a)"}, {"(a b) (b)", "() a b (a b) (b)"}, {"(b) (a b)", "() a b (a b) (b)"}, {"a (a) ((a))", "() a (a) ((a))"}, {"((a)) (a) a", "() a (a) ((a))"}, {"(c (d)) ((d) c)", "() c d (c) (c (d)) (d) ((d)) ((d) c)"}, {"(a . b) (a . b)", "a b (a . b)"}, {"(1 . 2) b (2 . 1) (1 . 2)", "b 1 2 (1 . 2) (2 . 1)"},
		// Terms with variables.
		{"(?0 . ?1)", "?0 ?1 (?0 . ?1)"}, {"(?1 . ?0)", "?0 ?1 (?1 . ?0)"}, {"(?2 a ?2)", "() ?2 a (?2) (?2 a ?2) (a ?2)"}, {"(?0) 0 (0)", "() ?0 0 (?0) (0)"}, {"(?100000) ?7", "() ?7 ?100000 (?100000)"},
		// The same numbers and names elsewhere are other atoms.
		{"(?1 . 1) (1 . ?1)", "?1 1 (?1 . 1) (1 . ?1)"}, {"(?0 () . 0)", "() ?0 0 (() . 0) (?0 () . 0)"},
	} {
		checkSubterms(t, terms(c[0]), terms(c[1]))
	}
	checkSubterms(t, nil, nil)
	checkSubterms(t, []impl.Term{}, nil)
}

func TestSubtermsOfAllSmallLists(t *testing.T) {
	for _, l := range smallLists() {
		checkSubterms(t, l, subtermsByDefinition(l))
	}
	list := smallTerms()
	for i, a := range list {
		l := []impl.Term{a, list[(7*i+3)%len(list)], pair(a, list[(11*i+5)%len(list)])}
		checkSubterms(t, l, subtermsByDefinition(l))
		checkSubterms(t, []impl.Term{a}, subtermsByDefinition([]impl.Term{a}))
	}
	all := distinct(list)
	slices.Reverse(list)
	checkSubterms(t, list, all)
	checkSubterms(t, append(list, all...), all)
}

// The order of terms is one by kinds first, and by heads before tails, however
// deep the first difference is.
func TestOrderOfSubterms(t *testing.T) {
	checkSubterms(t, terms("((b) a) ((a) b) (((a)) . ()) (a (b)) (a b) (1 b) (() b) (?5 b)"), terms("() ?5 a b 1 (() b) (?5 b) (a) (a b) (a (b)) (b) (1 b) ((a)) ((a) b) ((b)) ((b) a) (((a)))"))
	checkSubterms(t, terms("(2 1) (1 2) (1 1) (2 2)"), terms("() 1 2 (1) (1 1) (1 2) (2) (2 1) (2 2)"))
	for _, left := range []bool{false, true} {
		var l, want []impl.Term
		for i := range 30 {
			l = append(l, pairs(60, left, symbol("a"), number(29-i)))
		}
		for n := range 61 {
			for i := range 30 {
				want = append(want, pairs(n, left, symbol("a"), number(i)))
			}
		}
		checkSubterms(t, l, distinct(append(want, symbol("a"))))
		slices.Reverse(l)
		checkSubterms(t, l, distinct(append(want, symbol("a"))))
	}
}

func TestSubtermsRefuse(t *testing.T) {
	a, x := symbol("a"), variable(0)
	for name, bad := range badTerms() {
		for _, l := range [][]impl.Term{
			{bad}, {bad, bad}, {bad, a}, {a, bad}, {bad, x, a}, {x, bad, a}, {a, x, bad}, {pair(bad, x)}, {pair(x, bad)}, {a, pair(a, pair(bad, a)), x}, append(numbers(0, 500), bad),
		} {
			checkNoSubterms(t, name, l)
		}
	}
	large := balanced(5001, a)
	checkNoSubterms(t, "a term that is too large", []impl.Term{large})
	checkNoSubterms(t, "the last of three terms", []impl.Term{large.Args[0], large.Args[1], large})
	// What lies in the spare capacity is not looked at.
	l := append(terms("(a) b"), variable(-1))
	checkSubterms(t, l[:2], terms("() a b (a)"))
	checkNoSubterms(t, "more of the list", l)
}

func TestSubtermsOfLargeTerms(t *testing.T) {
	a := symbol("a")
	for _, left := range []bool{false, true} {
		var want []impl.Term
		for n := range 2500 {
			want = append(want, pairs(n, left, a, number(1)))
		}
		want = append([]impl.Term{a}, want...)
		soon(t, "SubtermsOf 2499 pairs in each other", func() { checkSubterms(t, []impl.Term{pairs(2499, left, a, number(1))}, want) })
		soon(t, "SubtermsOf the same a thousand times", func() { checkSubterms(t, slices.Repeat([]impl.Term{want[2500], want[1000]}, 500), want) })
	}
	whole := leaves(balanced(4999, empty()), number)
	if got := impl.SubtermsOf([]impl.Term{whole}); len(got) != 4999 || !sameTerms(got, subtermsByDefinition([]impl.Term{whole})) {
		t.Errorf("SubtermsOf 2500 different numbers has %d terms", len(got))
	}
	full2047 := full(11, a)
	soon(t, "SubtermsOf terms of equal parts", func() {
		var want []impl.Term
		for n := range 12 {
			want = append(want, full(n, a))
		}
		checkSubterms(t, slices.Repeat([]impl.Term{full2047}, 300), distinct(want))
	})
}

func TestSubtermsOfManyTerms(t *testing.T) {
	for _, n := range []int{39, 40, 41, 513, 5000, 100001} {
		l := numbers(-7, n)
		checkSubterms(t, l, numbers(-7, n))
		slices.Reverse(l)
		checkSubterms(t, l, numbers(-7, n))
		checkSubterms(t, append(l, l...), numbers(-7, n))
		checkSubterms(t, slices.Repeat(terms("(b)"), n), terms("() b (b)"))
	}
	whole := balanced(4999, empty())
	var l, want []impl.Term
	for i := range 100 {
		l = append(l, leaves(whole, func(k int) impl.Term { return number(i*2500 + k) }))
	}
	soon(t, "SubtermsOf 100 terms of MaxTerm nodes", func() {
		got := impl.SubtermsOf(l)
		for _, term := range l {
			want = append(want, partsOf(term)...)
		}
		if len(got) != 499900 || !sameTerms(got, distinct(want)) {
			t.Errorf("SubtermsOf 250000 different numbers has %d terms", len(got))
		}
	})
}
