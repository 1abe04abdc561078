package tests

// Chapter 10, disequalities: P9 for Disequality.

import (
	"slices"
	"testing"

	"loop.example/g03210/impl"
)

func TestDisequality(t *testing.T) {
	for _, c := range [][4]string{
		// Two variables.
		{"", "?0", "?1", "?1 ?0"}, {"", "?99999", "?100000", "?100000 ?99999"}, {"", "?7", "?0", "?7 ?0"},
		// A variable and a term.
		{"", "?0", "a", "?0 a"}, {"", "?100000", "()", "?100000 ()"}, {"", "?3", "-7", "?3 -7"}, {"", "?0", "0", "?0 0"}, {"", "?2", "(b ?1 ?3)", "?2 (b ?1 ?3)"}, {"", "?5", "((a))", "?5 ((a))"},
		// Pairs of which one part differs, or several.
		{"", "(a ?1)", "(a b)", "?1 b"}, {"", "(?1 a)", "(b a)", "?1 b"}, {"", "(?0 ?1)", "(a b)", "?0 a ?1 b"}, {"", "(?0 . ?1)", "(a b c)", "?0 a ?1 (b c)"}, {"", "(?0 b)", "(a ?1)", "?0 a ?1 b"},
		{"", "(?3 ?1 ?2)", "(c a b)", "?1 a ?2 b ?3 c"}, {"", "(?0 ?1 ?0)", "(?1 a ?1)", "?0 a ?1 a"}, {"", "(?4 ?2 ?3)", "(?3 ?1 ?2)", "?2 ?1 ?3 ?1 ?4 ?1"}, {"", "(?0 ?0)", "((?1 b) (a ?2))", "?0 (a b) ?1 a ?2 b"},
		// Under bindings.
		{"?1 a", "?2", "b", "?2 b"}, {"?1 a", "?2", "?1", "?2 a"}, {"?1 a ?2 (b)", "(?3 ?2)", "(?1 (?4))", "?3 a ?4 b"}, {"?1 (?0)", "?1", "(a)", "?0 a"}, {"?1 (?2 ?3)", "?1", "(a . ?4)", "?2 a ?4 (?3)"}, {"?4 a ?9 b", "(?4 ?9 ?6)", "(a b c)", "?6 c"},
		// A To of the bindings changes. What is left has only the variables that were free.
		{"?5 (?0 . ?1)", "?0", "a", "?0 a"}, {"?5 (?0)", "?5", "(b)", "?0 b"}, {"?5 ?3", "?3", "?1", "?3 ?1"}, {"?5 ?3", "?5", "?1", "?3 ?1"}, {"?5 ?3", "?5", "?4", "?4 ?3"}, {"?5 ?3", "?5", "a", "?3 a"}, {"?5 ?3", "?5", "?9", "?9 ?3"},
		{"?5 (?0 . ?1) ?6 ?1 ?7 (?0)", "(?0 ?1)", "(a b)", "?0 a ?1 b"}, {"?5 (?0 ?1) ?6 (?1 ?2)", "?5", "?6", "?1 ?0 ?2 ?0"}, {"?0 (?3 ?4)", "?4", "?3", "?4 ?3"}, {"?2 ?1 ?3 ?1", "?3", "?0", "?1 ?0"}, {"?3 ?2 ?4 ?1", "(?4 ?0)", "(?3 ?2)", "?1 ?0 ?2 ?0"},
		// Integers are no variables.
		{"", "(?1 1 ?2)", "(2 1 ?1)", "?1 2 ?2 2"}, {"?1 1", "(?2 ?1)", "(1 1)", "?2 1"},
	} {
		checkLeft(t, subst(c[0]), term(c[1]), term(c[2]), 0, subst(c[3])...)
	}
}

func TestDisequalityOfTermsThatCannotBeEqual(t *testing.T) {
	for _, c := range [][3]string{
		// Without variables.
		{"", "a", "b"}, {"", "a", "aa"}, {"", "1", "-1"}, {"", "0", "()"}, {"", "a", "(a)"}, {"", "()", "(())"}, {"", "(a b)", "(a . b)"}, {"", "(a b c)", "(a b d)"}, {"?1 a", "(a (b) 3)", "(a (b) 4)"},
		// A variable and a pair that it occurs in.
		{"", "?0", "(?0)"}, {"", "?3", "(a . ?3)"}, {"", "?4", "(a (b (?1 (c . ?4))))"}, {"", "(?0 ?1)", "((?1) (?0))"}, {"?0 (?1)", "?1", "(?0)"}, {"?1 ?0", "?0", "(a ?1)"},
		// Parts of pairs.
		{"", "(?0 . a)", "(?0 . b)"}, {"", "(a . ?0)", "(b . ?0)"}, {"", "(?0 ?0)", "(a b)"}, {"", "(?0 ?1)", "(?2)"}, {"", "(?0 ?1 ?0)", "(?1 a b)"},
		// Only under the bindings.
		{"?0 a", "?0", "b"}, {"?0 a ?1 b", "?0", "?1"}, {"?0 a", "(?1 ?1)", "(?0 b)"}, {"?1 ?0", "(?0 ?1)", "(a b)"}, {"?1 (a) ?2 (?0 b)", "?1", "?2"}, {"?1 (?0 a) ?2 (b ?0)", "?1", "?2"},
	} {
		checkLeft(t, subst(c[0]), term(c[1]), term(c[2]), 1)
	}
}

func TestDisequalityOfEqualTerms(t *testing.T) {
	for _, c := range [][3]string{
		{"", "a", "a"}, {"", "()", "()"}, {"", "-7", "-7"}, {"", "?3", "?3"}, {"", "?100000", "?100000"}, {"", "(a (?1 . 2) ?1)", "(a (?1 . 2) ?1)"}, {"?1 a", "b", "b"}, {"?1 a", "?2", "?2"}, {"?5 (?3)", "(?3 ?5)", "(?3 ?5)"},
		// Only under the bindings.
		{"?1 a", "?1", "a"}, {"?1 ()", "?1", "()"}, {"?1 a ?2 a", "?1", "?2"}, {"?1 (?0)", "?1", "(?0)"}, {"?3 ?2", "?2", "?3"}, {"?3 ?2 ?4 ?2", "(?3 ?4 ?2)", "(?4 ?2 ?3)"}, {"?1 (a ?0) ?4 ?0", "(?1 . ?4)", "((a ?4) . ?0)"}, {"?0 (?3 ?4) ?1 (?3 ?4)", "?0", "?1"},
	} {
		checkLeft(t, subst(c[0]), term(c[1]), term(c[2]), 2)
	}
	for name, s := range goodSubsts() {
		if name == "the largest list" {
			continue // TestDisequalityUpToMaxBindings has it
		}
		for _, b := range s[:min(len(s), 3)] {
			checkNothingLeft(t, name, s, variable(b.Var), b.To, 2)
		}
		checkNothingLeft(t, name, s, symbol("a"), symbol("b"), 1)
	}
}

// The empty list is a substitution, whether it is nil or not.
func TestDisequalityWithoutBindings(t *testing.T) {
	for _, s := range [][]impl.Binding{nil, {}, make([]impl.Binding, 0, 5), subst("?7 a")[:0]} {
		checkLeft(t, s, variable(7), symbol("b"), 0, bind(7, symbol("b")))
		checkLeft(t, s, variable(7), pair(variable(7), empty()), 1)
		checkLeft(t, s, variable(7), variable(7), 2)
	}
}

func TestDisequalityRefuses(t *testing.T) {
	a, x := symbol("a"), variable(0)
	for name, bad := range badTerms() {
		for _, s := range [][]impl.Binding{nil, {bind(0, a)}, {bind(1, x)}, {bind(1, bad)}, {bind(3, a), bind(1, a)}} {
			for _, other := range []impl.Term{a, x, variable(3), pair(a, x), bad} {
				checkNothingLeft(t, name, s, other, bad, 3)
			}
			checkNothingLeft(t, name+" in pairs that differ before", s, pair(a, bad), pair(number(1), bad), 3)
		}
	}
	for name, bad := range badSubsts() {
		for _, l := range [][2]impl.Term{{a, a}, {a, number(1)}, {x, x}, {x, a}, {variable(7), a}, {variable(1), variable(2)}, {pair(variable(1), x), pair(a, variable(2))}, {a, variable(-1)}, {symbol(""), symbol("")}} {
			checkNothingLeft(t, name, bad, l[0], l[1], 3)
		}
	}
	// What is not valid is looked for before anything else.
	checkNothingLeft(t, "different terms, one not valid", substOf(bind(0, a)), symbol("b"), symbol("B"), 3)
	checkNothingLeft(t, "too large, and different", nil, balanced(5001, a), number(1), 3)
	checkNothingLeft(t, "both too large, and equal", nil, balanced(5001, a), balanced(5001, a), 3)
}

// A solution that does not fit is none: the code is 1, as if it did not exist.
func TestDisequalityUpToMaxTerm(t *testing.T) {
	a, x, y := symbol("a"), variable(0), variable(1)
	two := substOf(bind(9, pair(x, x)))
	half, more := balanced(2499, y), balanced(2501, y)
	checkLeft(t, two, x, half, 0, bind(0, half))
	checkLeft(t, two, x, more, 1)
	checkLeft(t, nil, x, balanced(4999, y), 0, bind(0, balanced(4999, y)))
	checkNothingLeft(t, "a term of 2501 nodes twice", nil, listOf(x, y), listOf(balanced(2501, a), pair(x, x)), 1)
	checkNothingLeft(t, "large terms that cannot be equal", nil, balanced(4999, a), balanced(4999, number(1)), 1)
	checkNothingLeft(t, "large terms that are equal", nil, balanced(4999, x), balanced(4999, x), 2)
	checkLeft(t, nil, balanced(4999, x), balanced(4999, y), 0, bind(1, x))
	large := substOf(bind(3, balanced(4999, y)), bind(4, balanced(4999, y)))
	checkLeft(t, large, x, y, 0, bind(1, x))
	checkLeft(t, large, a, y, 0, bind(1, a))
	checkLeft(t, large, variable(3), variable(4), 2)
	checkLeft(t, large, y, pair(a, x), 1)
	for _, left := range []bool{false, true} {
		s := substOf(bind(5, pairs(1250, left, a, x)))
		checkLeft(t, s, x, pairs(1249, left, a, y), 0, bind(0, pairs(1249, left, a, y)))
		checkLeft(t, s, x, pairs(1250, left, a, y), 1)
	}
	// Only the terms of the solution have to fit, not what becomes of the two sides.
	many := substOf(bind(0, balanced(4999, variable(5))), bind(1, balanced(4999, variable(6))))
	checkLeft(t, many, pair(x, x), pair(y, y), 0, bind(6, variable(5)))
	checkLeft(t, many, balanced(1999, x), balanced(1999, x), 2)
	soon(t, "Disequality of chains", func() {
		for _, n := range []int{1, 11, 12, 13, 63, 64, 65, 399, 400, 401} {
			l, r := chain(0, n)
			got, code := impl.Disequality(nil, l, r)
			if n > 11 && (code != 1 || len(got) > 0) || n <= 11 && (code != 0 || len(got) != n) {
				t.Errorf("Disequality of a chain of %d has %d bindings and the code %d", n, len(got), code)
			}
		}
	})
}

func TestDisequalityUpToMaxBindings(t *testing.T) {
	a, b, x, y := symbol("a"), symbol("b"), variable(0), variable(5000)
	for _, n := range []int{1, 2, 399, 400} {
		atoms := listOf(slices.Repeat([]impl.Term{a}, n)...)
		checkLeft(t, nil, listOf(variables(0, n)...), atoms, 0, manyBindings(0, n, a)...)
		checkLeft(t, nil, listOf(variables(1, n)...), listOf(variables(0, n)...), 0, manyBindings(1, n, x)...)
	}
	for _, n := range []int{401, 402, 1000} {
		checkLeft(t, nil, listOf(variables(0, n)...), listOf(slices.Repeat([]impl.Term{a}, n)...), 1)
		checkLeft(t, nil, listOf(variables(0, n)...), listOf(variables(0, n)...), 2)
	}
	// The bindings of s count too.
	s := manyBindings(1, 400, x)
	checkLeft(t, s, x, a, 1)
	checkLeft(t, s, variable(200), y, 1)
	checkLeft(t, s, variable(3), variable(400), 2)
	checkLeft(t, s, y, y, 2)
	checkLeft(t, s, y, pair(y, a), 1)
	checkLeft(t, s[:399], variable(200), a, 0, bind(0, a))
	checkLeft(t, s[:399], variable(7), y, 0, bind(5000, x))
	checkLeft(t, s[:399], pair(x, y), pair(a, b), 1)
	checkLeft(t, s[:300], listOf(variables(1001, 100)...), listOf(slices.Repeat([]impl.Term{b}, 100)...), 0, manyBindings(1001, 100, b)...)
	checkLeft(t, s[:300], listOf(variables(1001, 101)...), listOf(slices.Repeat([]impl.Term{b}, 101)...), 1)
	largest := largestSubst()
	soon(t, "Disequality under the largest substitution", func() {
		checkNothingLeft(t, "a binding more", largest, x, a, 1)
		checkNothingLeft(t, "all bound already", largest, variable(largest[0].Var), variable(largest[399].Var), 2)
		if got, code := impl.Disequality(largest[1:], x, a); code != 0 || !sameSubst(got, substOf(bind(0, a))) {
			t.Errorf("Disequality under the largest substitution is %s, %d", briefSubst(got), code)
		}
	})
}

func TestDisequalityOfAllSmallTerms(t *testing.T) {
	list := allTerms([]impl.Term{variable(0), variable(2), variable(1), symbol("a")}, 3)
	list = append(list, terms("(?1 ?2 . ?3) ((a . ?0) . ?1) (?0 ?3 . ?0) 1 (1 . ?3)")...)
	counts := [3]int{}
	for i, s := range smallSubsts() {
		for j, a := range list {
			for k := (i + j) % 2; k < len(list); k += 2 {
				want, code := leftByDefinition(s, []impl.Term{a}, []impl.Term{list[k]})
				counts[code]++
				got, n := impl.Disequality(s, a, list[k])
				if n != code || !sameSubst(got, want) {
					t.Errorf("Disequality(%s, %s, %s) is %s, %d, want %s, %d", briefSubst(s), brief(a), brief(list[k]), briefSubst(got), n, briefSubst(want), code)
				}
			}
		}
	}
	if slices.Min(counts[:]) < 1000 {
		t.Errorf("the codes occur %d times", counts)
	}
}
