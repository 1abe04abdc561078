package tests

// Chapter 7, matching and generalization: P9 for MatchTerm, IsInstance and IsVariant.

import (
	"slices"
	"testing"

	"loop.example/g03210/impl"
)

func TestMatchTerm(t *testing.T) {
	for _, c := range [][3]string{
		// No variables in p.
		{"a", "a", ""},
		{"()", "()", ""},
		{"-7", "-7", ""},
		{"(a (1 . b) ())", "(a (1 . b) ())", ""},
		// A variable matches anything.
		{"?0", "a", "?0 a"},
		{"?0", "()", "?0 ()"},
		{"?0", "0", "?0 0"},
		{"?0", "(a b)", "?0 (a b)"},
		{"?7", "(a . ?7)", "?7 (a . ?7)"},
		{"?100000", "?100000", "?100000 ?100000"},
		{"(?0 . ?1)", "(a b)", "?0 a ?1 (b)"},
		{"(?0 ?1)", "(a (b))", "?0 a ?1 (b)"},
		{"(a ?1 . ?0)", "(a b c d)", "?0 (c d) ?1 b"},
		{"((?0 . a) (b . ?1))", "(((c) . a) (b))", "?0 (c) ?1 ()"},
		// In ascending order, and only the variables of p.
		{"(?3 ?1 ?2)", "(c a b)", "?1 a ?2 b ?3 c"},
		{"(?9 ?100000 ?0 ?10)", "(9 max 0 10)", "?0 0 ?9 9 ?10 10 ?100000 max"},
		{"(?5 (?4 (?3 . ?2)))", "(?0 (?1 (?2 . ?3)))", "?2 ?3 ?3 ?2 ?4 ?1 ?5 ?0"},
		{"(?2 b)", "(?1 b)", "?2 ?1"},
		// A variable at several places with equal parts.
		{"(?0 ?0)", "(b b)", "?0 b"},
		{"(?0 . ?0)", "((a) a)", "?0 (a)"},
		{"(?0 ?1 ?0 ?1)", "((a b) () (a b) ())", "?0 (a b) ?1 ()"},
		{"(?0 (?0 (?0 . ?0)))", "(-1 (-1 (-1 . -1)))", "?0 -1"},
		{"(?1 ?0 ?0)", "((a) ?1 ?1)", "?0 ?1 ?1 (a)"},
		// The variables of t are other ones, even with the same numbers.
		{"?0", "?0", "?0 ?0"},
		{"?0", "?1", "?0 ?1"},
		{"?1", "?0", "?1 ?0"},
		{"?0", "(?0)", "?0 (?0)"},
		{"(?0 ?1)", "(?1 ?0)", "?0 ?1 ?1 ?0"},
		{"(?0 ?1)", "(?0 ?0)", "?0 ?0 ?1 ?0"},
		{"(?0 ?1)", "(?1 ?1)", "?0 ?1 ?1 ?1"},
		{"(?0 ?1)", "(?1 a)", "?0 ?1 ?1 a"},
		{"(?0 ?1)", "(a ?0)", "?0 a ?1 ?0"},
		{"(?0 ?1 ?2)", "(?1 ?2 ?0)", "?0 ?1 ?1 ?2 ?2 ?0"},
		{"(?0 ?0)", "(?0 ?0)", "?0 ?0"},
		{"(?0 ?0)", "((?0 ?1) (?0 ?1))", "?0 (?0 ?1)"},
		{"(?0 ?1 ?0)", "((?1) (?0) (?1))", "?0 (?1) ?1 (?0)"},
	} {
		checkMatch(t, term(c[0]), term(c[1]), values(c[2])...)
	}
}

func TestMatchTermWithoutValues(t *testing.T) {
	for _, c := range [][2]string{
		// Different kinds, integers and symbols.
		{"a", "b"}, {"a", "aa"}, {"aa", "a"}, {"a", "1"}, {"a", "()"}, {"1", "2"}, {"1", "-1"}, {"0", "()"}, {"()", "0"}, {"()", "a"},
		// Atoms against pairs.
		{"a", "(a)"}, {"()", "(a)"}, {"()", "(())"}, {"1", "(1)"}, {"(a)", "a"}, {"(a)", "()"}, {"(())", "()"}, {"(?0)", "()"}, {"(?0)", "a"}, {"(?0 . ?1)", "1"}, {"(?0)", "(a b)"}, {"(?0 ?1)", "(a)"}, {"(?0 ?1)", "(a . b)"},
		// A part that differs.
		{"(a b)", "(a c)"}, {"(a b)", "(c b)"}, {"(a . b)", "(a b)"}, {"(a b)", "(a . b)"}, {"((a) b)", "(a (b))"}, {"(a (1 . b) ())", "(a (1 . b) (a))"}, {"(?0 a)", "(b b)"}, {"(a ?0)", "(b b)"}, {"(?0 . a)", "(a . b)"},
		// A variable of t is no other term.
		{"a", "?0"}, {"()", "?0"}, {"0", "?0"}, {"(?0)", "?0"}, {"(?0 . ?1)", "?2"}, {"(a ?0)", "(?0 a)"}, {"(?0 a)", "(a ?0)"}, {"((?1) ?0)", "(?1 a)"},
		// A variable at several places with different parts.
		{"(?0 ?0)", "(a b)"}, {"(?0 ?0)", "(a (a))"}, {"(?0 ?0)", "(?0 ?1)"}, {"(?0 ?0)", "(?1 ?0)"}, {"(?0 ?0)", "(?0 a)"}, {"(?0 ?0)", "(a ?0)"}, {"(?0 . ?0)", "(a a)"}, {"(?0 ?1 ?0)", "(a b b)"}, {"(?0 ?1 ?0)", "(?1 ?0 ?0)"}, {"(?0 ?0)", "((a b) (a c))"}, {"(?0 ?0)", "((a . ?0) (a . ?1))"}, {"(?0 (?0))", "((a) (a))"}, {"(?0 ?0 ?0)", "(a a b)"}, {"(?0 ?0 ?0)", "(a b a)"}, {"(?1 ?0 ?1 ?0)", "(a b a a)"}, {"(?0 ?0)", "(1 -1)"}, {"(?0 ?0)", "(() 0)"},
	} {
		checkNoMatch(t, c[0]+" and "+c[1], term(c[0]), term(c[1]))
	}
}

// Terms that differ in one field of one node only.
func TestMatchTermOfDifferentFields(t *testing.T) {
	atoms := []impl.Term{empty(), symbol("a"), symbol("b"), symbol("a-"), number(0), number(1), number(-1), number(1000000000)}
	for i, a := range atoms {
		for j, b := range atoms {
			if i == j {
				checkMatch(t, a, b)
				checkMatch(t, pair(a, a), pair(b, b))
				checkMatch(t, pair(variable(0), variable(0)), pair(a, b), bind(0, a))
				continue
			}
			checkNoMatch(t, "different atoms", a, b)
			checkNoMatch(t, "different heads", pair(a, a), pair(b, a))
			checkNoMatch(t, "different tails", pair(a, a), pair(a, b))
			checkNoMatch(t, "different parts for a variable", pair(variable(0), variable(0)), pair(a, b))
			checkNoMatch(t, "different pairs for a variable", pair(variable(0), variable(0)), pair(pair(a, a), pair(a, b)))
		}
	}
}

// spacedOut returns a list of n variables, from first on, each of which occurs twice.
func spacedOut(first int, n int) impl.Term {
	l := variables(first, n)
	return listOf(append(l, l...)...)
}

func TestMatchTermUpToMaxBindings(t *testing.T) {
	a := symbol("a")
	for _, n := range []int{1, 2, 399, 400} {
		atoms := slices.Repeat([]impl.Term{a}, n)
		checkMatch(t, listOf(variables(0, n)...), listOf(atoms...), manyBindings(0, n, a)...)
		checkMatch(t, listOf(variables(100001-n, n)...), listOf(atoms...), manyBindings(100001-n, n, a)...)
		checkMatch(t, listOf(variables(0, n)...), listOf(variables(0, n)...), themselves(0, n)...)
		checkMatch(t, spacedOut(5, n), spacedOut(5, n), themselves(5, n)...)
		// Only the variables of p are counted.
		checkMatch(t, variable(3), listOf(variables(0, 2*n)...), bind(3, listOf(variables(0, 2*n)...)))
		downwards := variables(0, n)
		slices.Reverse(downwards)
		checkMatch(t, listOf(downwards...), listOf(atoms...), manyBindings(0, n, a)...)
	}
	for _, n := range []int{401, 402, 1000, 1249} {
		checkNoMatch(t, "too many variables, one atom", listOf(variables(0, n)...), listOf(slices.Repeat([]impl.Term{a}, n)...))
		checkNoMatch(t, "too many variables, themselves", listOf(variables(0, n)...), listOf(variables(0, n)...))
		checkNoMatch(t, "too many variables, twice", spacedOut(0, n), spacedOut(0, n))
		checkNoMatch(t, "too many variables up to MaxVar", listOf(variables(100001-n, n)...), listOf(variables(0, n)...))
	}
	checkNoMatch(t, "401 variables under heads", chained(variables(1, 400), variable(0)), chained(variables(1, 400), a))
	checkMatch(t, chained(variables(1, 399), variable(0)), chained(variables(0, 399), a), append(substOf(bind(0, a)), previous(399)...)...)
}

// previous gives each of the variables from 1 to n the one before it.
func previous(n int) []impl.Binding {
	var l []impl.Binding
	for i := range n {
		l = append(l, bind(i+1, variable(i)))
	}
	return l
}

func TestMatchLargeTerms(t *testing.T) {
	a, b, x, y := symbol("a"), symbol("b"), variable(0), variable(1)
	large := balanced(4999, y)
	checkMatch(t, x, large, bind(0, large))
	checkMatch(t, balanced(4999, x), large, bind(0, y))
	checkMatch(t, large, large, bind(1, y))
	checkMatch(t, balanced(4999, a), balanced(4999, a))
	checkNoMatch(t, "other atoms", balanced(4999, a), balanced(4999, b))
	half := balanced(2499, y)
	checkMatch(t, pair(x, x), pair(half, half), bind(0, half))
	checkNoMatch(t, "another leaf", pair(x, x), pair(half, balanced(2499, x)))
	for _, left := range []bool{false, true} {
		deep := pairs(2499, left, a, x)
		checkMatch(t, deep, pairs(2499, left, a, b), bind(0, b))
		checkMatch(t, deep, deep, bind(0, x))
		checkMatch(t, pairs(2498, left, a, x), deep, bind(0, pairs(1, left, a, x)))
		checkMatch(t, pairs(1000, left, y, x), deep, bind(0, pairs(1499, left, a, x)), bind(1, a))
		checkNoMatch(t, "an atom deep inside", pairs(2499, left, a, b), pairs(2499, left, a, a))
		checkNoMatch(t, "a variable deep inside", pairs(2499, left, a, b), deep)
		checkNoMatch(t, "one pair less", deep, pairs(2498, left, a, x))
		checkNoMatch(t, "another tail", deep, pairs(2499, left, b, x))
		checkNoMatch(t, "another way down", deep, pairs(2499, !left, a, b))
		checkNoMatch(t, "equal but for the end", pair(y, y), pair(pairs(1249, left, a, x), pairs(1249, left, a, y)))
		checkMatch(t, pair(y, y), pair(pairs(1249, left, a, x), pairs(1249, left, a, x)), bind(1, pairs(1249, left, a, x)))
	}
}

// Each part is compared with the one that its variable had first.
func TestMatchManyEqualParts(t *testing.T) {
	soon(t, "MatchTerm of many equal parts", func() {
		for _, size := range []int{1, 3, 5, 9, 41, 99, 199, 499, 1249} {
			n := 4998 / (size + 1)
			equal := slices.Repeat([]impl.Term{balanced(size, variable(9))}, n)
			same := slices.Repeat([]impl.Term{variable(0)}, n)
			checkMatch(t, listOf(same...), listOf(equal...), bind(0, equal[0]))
			checkMatch(t, listOf(append(same[1:], variable(1))...), listOf(equal...), bind(0, equal[0]), bind(1, equal[0]))
			for _, i := range []int{0, 1, n / 2, n - 1} {
				other := slices.Clone(equal)
				other[i] = balanced(size, variable(8))
				if n > 1 {
					checkNoMatch(t, "one other part", listOf(same...), listOf(other...))
				}
			}
		}
	})
}

func TestMatchTermRefuses(t *testing.T) {
	a, x := symbol("a"), variable(0)
	for name, bad := range badTerms() {
		for _, other := range []impl.Term{a, x, variable(3), empty(), pair(a, x), pair(x, x), bad} {
			checkNoMatch(t, name, bad, other)
			checkNoMatch(t, name, other, bad)
			checkNoMatch(t, name, pair(x, bad), pair(a, other))
			checkNoMatch(t, name, pair(x, other), pair(a, bad))
			checkNoVariant(t, name, bad, other)
			checkNoVariant(t, name, pair(bad, x), pair(other, x))
		}
		checkNoVariant(t, name, pair(bad, bad), pair(bad, bad))
	}
	checkNoMatch(t, "too large terms", balanced(5001, x), balanced(5001, x))
	checkNoVariant(t, "too large terms", balanced(5001, x), balanced(5001, x))
}

func TestIsVariant(t *testing.T) {
	for _, c := range []struct {
		a, b string
		want bool
	}{
		// Atoms, and terms without variables.
		{"a", "a", true}, {"()", "()", true}, {"1", "1", true}, {"(a (b) . 1)", "(a (b) . 1)", true},
		{"a", "b", false}, {"1", "2", false}, {"()", "0", false}, {"a", "(a)", false}, {"()", "(())", false}, {"(a b)", "(b a)", false},
		// Renamings.
		{"?0", "?0", true}, {"?0", "?1", true}, {"?0", "?100000", true},
		{"(?3 ?4)", "(?0 ?1)", true}, {"(?0 ?1)", "(?1 ?0)", true}, {"(?0 ?1)", "(?1 ?2)", true},
		{"(?0 ?1 ?2)", "(?1 ?2 ?0)", true}, {"(?0 a ?1 ?0)", "(?7 a ?0 ?7)", true}, {"(?0 (?1 ?0))", "(?1 (?0 ?1))", true},
		{"(?0 . ?0)", "(?5 . ?5)", true},
		// Two variables that become one.
		{"(?3 ?3)", "(?0 ?1)", false}, {"(?0 ?0)", "(?0 ?1)", false}, {"(?0 ?0)", "(?1 ?0)", false},
		{"(?0 ?1 ?0)", "(?0 ?1 ?1)", false}, {"(?0 ?1 ?0)", "(?0 ?1 ?2)", false}, {"(?0 ?1 ?2)", "(?0 ?0 ?2)", false},
		{"(?0 ?0 ?1 ?1)", "(?0 ?1 ?0 ?1)", false}, {"(?0 ?1 ?1 ?0)", "(?0 ?1 ?0 ?1)", false},
		// Instances that are no variants.
		{"?0", "a", false}, {"?0", "()", false}, {"?0", "0", false}, {"?0", "(?0)", false}, {"?0", "(?0 . ?1)", false},
		{"(?0 ?1)", "(a ?1)", false}, {"(?0 ?1)", "(?0 a)", false}, {"(?0 . ?1)", "(?0 ?1)", false}, {"(a . ?0)", "(a b)", false},
		// Neither is an instance of the other one.
		{"(a ?0)", "(?0 a)", false}, {"(?0 ?0)", "(?0 (?1))", false}, {"(?0 a)", "(?0 b)", false}, {"(?0 ?0 ?1)", "(?0 ?1 ?1)", false},
		{"(?0)", "(?0 ?1)", false}, {"(?0 . ?1)", "?0", false},
	} {
		checkVariant(t, term(c.a), term(c.b), c.want)
	}
	for _, a := range smallTerms() {
		checkVariant(t, a, a, true)
		checkVariant(t, a, pair(a, a), false)
	}
}

func TestIsVariantOfLargeTerms(t *testing.T) {
	a, x, y := symbol("a"), variable(0), variable(1)
	checkVariant(t, balanced(4999, x), balanced(4999, y), true)
	checkVariant(t, balanced(4999, x), balanced(4999, a), false)
	checkVariant(t, balanced(4999, x), balanced(4997, x), false)
	for _, left := range []bool{false, true} {
		checkVariant(t, pairs(2499, left, a, x), pairs(2499, left, a, y), true)
		checkVariant(t, pairs(2499, left, y, x), pairs(2499, left, x, y), true)
		checkVariant(t, pairs(2499, left, x, x), pairs(2499, left, x, y), false)
		checkVariant(t, pairs(2499, left, a, x), pairs(2498, left, a, x), false)
		checkVariant(t, pairs(2499, left, a, x), pairs(2499, !left, a, x), false)
	}
}

// Variables that stay need no values, so that MaxBindings limits the others only.
func TestIsVariantOfManyVariables(t *testing.T) {
	for _, n := range []int{1, 399, 400, 401, 1000, 1249} {
		all := listOf(variables(0, n)...)
		checkVariant(t, all, all, true)
		checkVariant(t, spacedOut(0, n), spacedOut(0, n), true)
		checkVariant(t, all, listOf(variables(50000, n)...), n <= 400)
		checkVariant(t, all, listOf(variables(1, n)...), n <= 400)
		checkVariant(t, all, listOf(slices.Repeat([]impl.Term{variable(0)}, n)...), n == 1)
		if n > 1 {
			exchanged := variables(0, n)
			exchanged[0], exchanged[n-1] = exchanged[n-1], exchanged[0]
			checkVariant(t, all, listOf(exchanged...), true)
			exchanged[0] = symbol("a")
			checkVariant(t, all, listOf(exchanged...), false)
		}
		if n > 400 {
			for _, k := range []int{0, 1, 399, 400, 401} {
				some := slices.Concat(variables(50000, k), variables(k, n-k))
				checkVariant(t, all, listOf(some...), k <= 400)
			}
			checkNoMatch(t, "more than MaxBindings variables", all, all)
		}
	}
}
