package tests

// Chapter 8, canonical names: P9 for Canonical and Reify.

import (
	"slices"
	"testing"

	"loop.example/g03210/impl"
)

func TestCanonical(t *testing.T) {
	for _, c := range [][2]string{
		// No terms, and terms without variables.
		{"", ""}, {"a", "a"}, {"()", "()"}, {"-3", "-3"}, {"(a (b) . 1)", "(a (b) . 1)"}, {"a () 7 (a b)", "a () 7 (a b)"}, {"a a a", "a a a"},
		// One variable.
		{"?0", "?0"}, {"?1", "?0"}, {"?100000", "?0"}, {"(?7 ?7 . ?7)", "(?0 ?0 . ?0)"}, {"?7 ?7 ?7", "?0 ?0 ?0"}, {"a ?7 (b ?7)", "a ?0 (b ?0)"},
		// Numbered already.
		{"(?0 ?1)", "(?0 ?1)"}, {"?0 ?1 ?2", "?0 ?1 ?2"}, {"(?0 ?1 ?0) (?2 ?1) ?3", "(?0 ?1 ?0) (?2 ?1) ?3"}, {"((?0 . ?1) . (?2 . ?0))", "((?0 . ?1) . (?2 . ?0))"},
		// In another order, or with numbers between them.
		{"(?1 ?0)", "(?0 ?1)"}, {"(?2 ?1 ?0)", "(?0 ?1 ?2)"}, {"(?1 ?2 ?0)", "(?0 ?1 ?2)"}, {"(?5 ?3 ?5 ?0)", "(?0 ?1 ?0 ?2)"}, {"(?0 ?2 ?4)", "(?0 ?1 ?2)"}, {"(?1 ?2 ?3)", "(?0 ?1 ?2)"},
		{"((?3 . ?2) . ?1)", "((?0 . ?1) . ?2)"}, {"((?1 . ?0) . (?0 . ?2))", "((?0 . ?1) . (?1 . ?2))"}, {"(?9 (?4 . ?9) ?100000)", "(?0 (?1 . ?0) ?2)"}, {"(((?5) ?1) (?3 (?2)) . ?4)", "(((?0) ?1) (?2 (?3)) . ?4)"},
		// Of several terms.
		{"?2 ?1 ?0", "?0 ?1 ?2"}, {"?1 ?0 ?1", "?0 ?1 ?0"}, {"(?3 ?1) ?3", "(?0 ?1) ?0"}, {"?3 (?1 ?3)", "?0 (?1 ?0)"}, {"(?3 ?1) (?1 ?3)", "(?0 ?1) (?1 ?0)"}, {"(?0 ?1) (?1 ?0)", "(?0 ?1) (?1 ?0)"},
		{"a ?4 b ?3 ()", "a ?0 b ?1 ()"}, {"(?3 ?1) (?2 ?3) (?0 ?2)", "(?0 ?1) (?2 ?0) (?3 ?2)"}, {"(?1 ?1) (?0 ?0) (?1 ?0)", "(?0 ?0) (?1 ?1) (?0 ?1)"}, {"(?7 . a) (?7 . b) ?8", "(?0 . a) (?0 . b) ?1"},
		// Integers and names stay.
		{"(3 ?3 a ?1 1)", "(3 ?0 a ?1 1)"}, {"(1 . ?1) 1 ?0 0", "(1 . ?0) 1 ?1 0"},
	} {
		checkCanonical(t, terms(c[0]), terms(c[1]))
	}
	checkCanonical(t, nil, nil)
	checkCanonical(t, []impl.Term{}, nil)
}

func TestCanonicalOfAllSmallLists(t *testing.T) {
	for _, l := range smallLists() {
		checkCanonical(t, l, canonicalByDefinition(l))
	}
}

// Neither the terms nor the variables have a limit of their own: there are no
// bindings, and no list that is to be written.
func TestCanonicalOfManyVariables(t *testing.T) {
	for _, n := range []int{39, 40, 41, 399, 400, 401, 1249} {
		all := listOf(variables(0, n)...)
		downwards := variables(100001-n, n)
		slices.Reverse(downwards)
		for _, l := range [][]impl.Term{variables(0, n), variables(100001-n, n), downwards} {
			checkCanonical(t, []impl.Term{listOf(l...)}, []impl.Term{all})
			checkCanonical(t, l, variables(0, n))
			checkCanonical(t, append(l, listOf(l...), l[n-1], l[0]), append(variables(0, n), all, variable(n-1), variable(0)))
		}
		checkCanonical(t, []impl.Term{spacedOut(77, n)}, []impl.Term{spacedOut(0, n)})
	}
	whole := balanced(4999, empty())
	checkCanonical(t, []impl.Term{leaves(whole, func(k int) impl.Term { return variable(100000 - k) })}, []impl.Term{leaves(whole, variable)})
	var want []impl.Term
	for i := range 40 {
		want = append(want, leaves(whole, func(k int) impl.Term { return variable(2500*i + k) }))
	}
	checkCanonical(t, everyVariable(), append(want, variable(100000)))
	checkCanonical(t, slices.Repeat(terms("(a ?9) ?4"), 5000), slices.Repeat(terms("(a ?0) ?1"), 5000))
}

func TestCanonicalOfLargeTerms(t *testing.T) {
	x, y := variable(0), variable(1)
	checkCanonical(t, []impl.Term{balanced(4999, variable(9))}, []impl.Term{balanced(4999, x)})
	checkCanonical(t, []impl.Term{balanced(4999, variable(9)), balanced(4999, variable(8))}, []impl.Term{balanced(4999, x), balanced(4999, y)})
	deep := func(left bool, filler impl.Term, end impl.Term) []impl.Term {
		return []impl.Term{pairs(2499, left, filler, end)}
	}
	checkCanonical(t, deep(false, variable(9), variable(8)), deep(false, x, y))
	checkCanonical(t, deep(true, variable(9), variable(8)), deep(true, y, x))
	checkCanonical(t, deep(false, symbol("a"), variable(8)), deep(false, symbol("a"), x))
	checkCanonical(t, deep(true, symbol("a"), variable(8)), deep(true, symbol("a"), x))
}

func TestReify(t *testing.T) {
	for _, c := range [][3]string{
		// No bindings, and no terms.
		{"", "", ""}, {"", "?3 a (?1 ?3)", "?0 a (?1 ?0)"}, {"?3 a ?4 b", "", ""},
		// Bindings that do not apply.
		{"?3 a", "b", "b"}, {"?3 a", "(b ?4 ?2)", "(b ?0 ?1)"}, {"?3 ?2 ?5 (?9)", "?4 ?1 (?4)", "?0 ?1 (?0)"}, {"?3 (?1)", "3 (3 ?2)", "3 (3 ?0)"},
		// Bindings that apply.
		{"?3 a", "?3", "a"}, {"?3 a", "(?3 ?4) ?3", "(a ?0) a"}, {"?3 (?1)", "(?3 ?1) ?3", "((?0) ?0) (?0)"}, {"?3 ()", "?3 ?3", "() ()"}, {"?3 0", "(?0 . ?3)", "(?0 . 0)"}, {"?0 a ?100000 b", "?0 ?100000", "a b"},
		{"?3 (a b) ?4 (c d)", "(?3 . ?4)", "((a b) c d)"}, {"?1 a ?2 b ?3 c", "(?3 ?2 ?1 ?0)", "(c b a ?0)"},
		// The variables are numbered when the bindings are applied, not before.
		{"?3 ?2", "?3 ?1 ?2", "?0 ?1 ?0"}, {"?3 ?1", "(?3 ?2 ?1)", "(?0 ?1 ?0)"}, {"?3 (?9 ?8)", "?3 ?8 ?9", "(?0 ?1) ?1 ?0"}, {"?0 (?2 ?1)", "?1 ?0", "?0 (?1 ?0)"}, {"?0 a", "?0 ?1 ?2", "a ?0 ?1"}, {"?1 a", "?0 ?1 ?2", "?0 a ?1"},
		{"?0 (?5)", "?0 ?1", "(?0) ?1"}, {"?0 (?5)", "?1 ?0", "?0 (?1)"}, {"?0 (?5) ?1 (?6 ?5)", "?1 ?0", "(?0 ?1) (?1)"}, {"?1 ?0 ?2 ?0", "?2 ?1 ?0", "?0 ?0 ?0"}, {"?4 (?0 b) ?5 a", "(?4 ?5 ?6)", "((?0 b) a ?1)"},
		{"?2 (?1 . ?0)", "?2 ?0 ?1", "(?0 . ?1) ?1 ?0"}, {"?2 (?0 ?1)", "((?1 . ?2) . ?2)", "((?0 ?1 ?0) ?1 ?0)"}, {"?0 (?100000)", "?7 ?0 ?100000", "?0 (?1) ?1"},
		// What is numbered is not replaced once more.
		{"?0 a", "?5 ?0", "?0 a"}, {"?0 a ?1 b", "(?7 ?8 ?1 ?0)", "(?0 ?1 b a)"}, {"?0 (?3 ?4)", "(?4 ?3 ?0)", "(?0 ?1 (?1 ?0))"}, {"?1 (?0)", "?9 ?8 ?1", "?0 ?1 (?2)"},
	} {
		checkReified(t, subst(c[0]), terms(c[1]), terms(c[2]))
	}
	for _, l := range [][]impl.Term{nil, {}} {
		for _, s := range goodSubsts() {
			checkReified(t, s, l, nil)
		}
	}
}

func TestReifyWithAllSmallSubsts(t *testing.T) {
	lists := smallLists()
	for i, s := range smallSubsts() {
		for j := i % 7; j < len(lists); j += 7 {
			var applied []impl.Term
			for _, term := range lists[j] {
				applied = append(applied, applyByDefinition(s, term))
			}
			checkReified(t, s, lists[j], canonicalByDefinition(applied))
		}
	}
}

func TestReifyUpToMaxTerm(t *testing.T) {
	a, x, y := symbol("a"), variable(0), variable(1)
	half, more, large := balanced(2499, y), balanced(2501, y), balanced(4999, y)
	checkReified(t, substOf(bind(0, half)), []impl.Term{pair(x, x)}, canonicalByDefinition([]impl.Term{pair(half, half)}))
	checkNotReified(t, "two terms of 2501 nodes", substOf(bind(0, more)), []impl.Term{pair(x, x)})
	checkReified(t, substOf(bind(0, large)), []impl.Term{x}, []impl.Term{balanced(4999, x)})
	checkNotReified(t, "two nodes more", substOf(bind(0, large)), []impl.Term{pair(x, a)})
	checkNotReified(t, "two nodes more, in the tail", substOf(bind(0, large)), []impl.Term{pair(a, x)})
	checkReified(t, nil, []impl.Term{large, y, large}, []impl.Term{balanced(4999, x), x, balanced(4999, x)})
	checkReified(t, substOf(bind(3, large)), []impl.Term{large, y}, []impl.Term{balanced(4999, x), x})
	// Each term has as many nodes as it likes, wherever it is in the list.
	checkReified(t, substOf(bind(0, large)), []impl.Term{x, pair(y, y), x, x}, []impl.Term{balanced(4999, x), pair(x, x), balanced(4999, x), balanced(4999, x)})
	for i := range 4 {
		l := []impl.Term{x, y, a, x}
		l[i] = pair(x, y)
		checkNotReified(t, "one of four terms", substOf(bind(0, large)), l)
		l[i] = balanced(4999, x)
		checkNotReified(t, "one of four large terms", substOf(bind(0, half)), l)
	}
	for _, left := range []bool{false, true} {
		checkReified(t, substOf(bind(5, pair(x, x))), []impl.Term{pairs(2498, left, a, variable(5))}, []impl.Term{pairs(2498, left, a, pair(x, x))})
		checkNotReified(t, "one pair more", substOf(bind(5, pair(x, x))), []impl.Term{pairs(2499, left, a, variable(5))})
	}
	soon(t, "Reify with much larger terms", func() {
		for range 50 {
			checkNotReified(t, "much larger terms", substOf(bind(0, large)), []impl.Term{a, balanced(4999, x), pairs(2499, true, x, x)})
		}
	})
}

func TestReifyWithMaxBindings(t *testing.T) {
	a, all := symbol("a"), listOf(variables(0, 402)...)
	checkReified(t, manyBindings(1, 400, a), []impl.Term{all}, []impl.Term{listOf(slices.Concat(variables(0, 1), slices.Repeat([]impl.Term{a}, 400), variables(1, 1))...)})
	checkReified(t, manyBindings(1, 400, variable(0)), []impl.Term{all}, []impl.Term{listOf(slices.Concat(slices.Repeat(variables(0, 1), 401), variables(1, 1))...)})
	checkNotReified(t, "one binding more", manyBindings(1, 401, a), []impl.Term{all})
	checkReified(t, largestSubst(), []impl.Term{variable(100000), variable(1), variable(0)}, []impl.Term{balanced(4999, variable(0)), variable(1), variable(0)})
	// The variables that are left may be more than MaxBindings.
	whole := balanced(4999, empty())
	checkReified(t, substOf(bind(100000, leaves(whole, func(k int) impl.Term { return variable(99999 - k) }))), variables(100000, 1), []impl.Term{leaves(whole, variable)})
}

func TestReifyRefuses(t *testing.T) {
	a, x := symbol("a"), variable(0)
	for name, bad := range badSubsts() {
		for _, l := range [][]impl.Term{nil, {}, {a}, {empty()}, {x}, variables(0, 5), {pair(variable(1), variable(2)), a}, {variable(-1)}} {
			checkNotReified(t, name, bad, l)
		}
	}
	// What is not valid does not become valid by being replaced.
	checkNotReified(t, "a variable that is not valid", substOf(bind(1, a)), []impl.Term{variable(-1)})
	checkNotReified(t, "a term that is too large", substOf(bind(0, a)), []impl.Term{balanced(5001, x)})
	checkNotReified(t, "a term that is not valid behind one that is too large", substOf(bind(0, balanced(4999, variable(1)))), []impl.Term{pair(x, x), symbol("A")})
}
