package tests

// Chapter 6, unification: P9 for Unify.

import (
	"slices"
	"testing"

	"loop.example/g03210/impl"
)

func TestUnify(t *testing.T) {
	for _, c := range [][4]string{
		// Equal terms.
		{"", "a", "a", ""},
		{"", "()", "()", ""},
		{"", "7", "7", ""},
		{"", "-7", "-7", ""},
		{"", "?3", "?3", ""},
		{"", "(a (?1 . 2) ?1)", "(a (?1 . 2) ?1)", ""},
		// A variable and a term.
		{"", "?0", "a", "?0 a"},
		{"", "?0", "()", "?0 ()"},
		{"", "?0", "0", "?0 0"},
		{"", "?7", "-7", "?7 -7"},
		{"", "?100000", "abcdefghijkl", "?100000 abcdefghijkl"},
		{"", "?2", "(b ?1 ?3)", "?2 (b ?1 ?3)"},
		// A variable and a variable.
		{"", "?1", "?0", "?1 ?0"},
		{"", "?0", "?100000", "?100000 ?0"},
		{"", "(?3 . ?4)", "(?4 . ?5)", "?4 ?3 ?5 ?3"},
		{"", "(?5 . ?4)", "(?4 . ?3)", "?4 ?3 ?5 ?3"},
		{"", "(?9 ?1 ?5)", "(?1 ?5 ?9)", "?5 ?1 ?9 ?1"},
		{"", "(?4 ?2 ?3)", "(?3 ?1 ?2)", "?2 ?1 ?3 ?1 ?4 ?1"},
		{"", "(?4 ?2 ?6 ?4)", "(?3 ?1 ?5 ?6)", "?2 ?1 ?4 ?3 ?5 ?3 ?6 ?3"},
		// Terms with variables on both sides.
		{"", "(?0 ?1)", "(?1 a)", "?0 a ?1 a"},
		{"", "(?0 b)", "(a ?1)", "?0 a ?1 b"},
		{"", "(?0 . ?1)", "(a b c)", "?0 a ?1 (b c)"},
		{"", "(?0 . ?0)", "((a) . ?1)", "?0 (a) ?1 (a)"},
		{"", "(?0 (?1 . ?2))", "(?3 ?3)", "?0 (?1 . ?2) ?3 (?1 . ?2)"},
		{"", "(?0 ?0)", "((?1 b) (a ?2))", "?0 (a b) ?1 a ?2 b"},
		{"", "(?0 ?1 ?2)", "((?1 ?1) (?2 ?2) a)", "?0 ((a a) (a a)) ?1 (a a) ?2 a"},
		{"", "(?2 ?1 ?0)", "((?1 ?1) (?0 ?0) a)", "?0 a ?1 (a a) ?2 ((a a) (a a))"},
		{"", "(?1 ?1 ?2)", "((?0) (?2) ?3)", "?1 (?0) ?2 ?0 ?3 ?0"},
		// Integers and symbols stand for themselves, whatever variables have their number.
		{"", "(?1 1 ?2)", "(2 1 ?1)", "?1 2 ?2 2"},
		{"", "(?0 . 0)", "(a . 0)", "?0 a"},
	} {
		checkSolution(t, subst(c[0]), term(c[1]), term(c[2]), subst(c[3])...)
	}
}

func TestUnifyWithBindings(t *testing.T) {
	for _, c := range [][4]string{
		{"?1 a ?3 ?2", "a", "a", "?1 a ?3 ?2"},
		{"?1 a ?3 ?2", "?2", "?3", "?1 a ?3 ?2"},
		{"?1 a ?3 ?2", "?4", "b", "?1 a ?3 ?2 ?4 b"},
		{"?1 a", "?1", "a", "?1 a"},
		{"?1 a ?2 a", "?1", "?2", "?1 a ?2 a"},
		{"?1 a", "?0", "?1", "?0 a ?1 a"},
		{"?1 a", "?1", "?2", "?1 a ?2 a"},
		{"?1 (?0)", "?1", "(?0)", "?1 (?0)"},
		{"?1 (?0)", "?1", "(a)", "?0 a ?1 (a)"},
		{"?1 (?2 ?3)", "?1", "(a . ?4)", "?1 (a ?3) ?2 a ?4 (?3)"},
		{"?1 (?2 ?3)", "?4", "(?1 ?3)", "?1 (?2 ?3) ?4 ((?2 ?3) ?3)"},
		// The bindings of s change by the equation.
		{"?5 (?0 . ?1)", "?0", "a", "?0 a ?5 (a . ?1)"},
		{"?5 (?0 . ?1) ?6 ?1 ?7 (?0)", "(?0 ?1)", "(a b)", "?0 a ?1 b ?5 (a . b) ?6 b ?7 (a)"},
		{"?5 (?0 ?1) ?6 (?1 ?2)", "?5", "?6", "?1 ?0 ?2 ?0 ?5 (?0 ?0) ?6 (?0 ?0)"},
		{"?0 (?3 ?4)", "?3", "?2", "?0 (?2 ?4) ?3 ?2"},
		{"?0 (?3 ?4)", "?4", "?3", "?0 (?3 ?3) ?4 ?3"},
		{"?0 (?3)", "?3", "(?1 ?1)", "?0 ((?1 ?1)) ?3 (?1 ?1)"},
		// The least of equal variables stands for the others.
		{"?5 ?3", "?3", "?1", "?3 ?1 ?5 ?1"},
		{"?5 ?3", "?5", "?1", "?3 ?1 ?5 ?1"},
		{"?5 ?3", "?5", "?4", "?4 ?3 ?5 ?3"},
		{"?5 ?3", "?5", "?9", "?5 ?3 ?9 ?3"},
		{"?2 ?1 ?3 ?1", "?3", "?0", "?1 ?0 ?2 ?0 ?3 ?0"},
		{"?3 ?1 ?4 ?2", "?4", "?3", "?2 ?1 ?3 ?1 ?4 ?1"},
		{"?3 ?2 ?4 ?1", "?4", "?3", "?2 ?1 ?3 ?1 ?4 ?1"},
		{"?3 ?2 ?4 ?1", "(?4 ?0)", "(?3 ?2)", "?1 ?0 ?2 ?0 ?3 ?0 ?4 ?0"},
		{"?5 ?3", "?3", "(a ?1)", "?3 (a ?1) ?5 (a ?1)"},
	} {
		checkSolution(t, subst(c[0]), term(c[1]), term(c[2]), subst(c[3])...)
	}
}

func TestUnifyWithoutASolution(t *testing.T) {
	for _, c := range [][3]string{
		// Different kinds, integers, symbols and forms.
		{"", "a", "b"},
		{"", "a", "aa"},
		{"", "1", "2"},
		{"", "1", "-1"},
		{"", "0", "()"},
		{"", "a", "1"},
		{"", "a", "()"},
		{"", "a", "(a)"},
		{"", "1", "(1)"},
		{"", "()", "(a)"},
		{"", "()", "(())"},
		{"", "(a)", "(b)"},
		{"", "(a)", "(a b)"},
		{"", "(a . b)", "(a b)"},
		{"", "(a . b)", "(a . c)"},
		{"", "(a . b)", "(c . b)"},
		{"", "((a) b)", "(a (b))"},
		{"", "(a b c)", "(a b d)"},
		{"", "(?0 . a)", "(?0 . b)"},
		{"", "(a . ?0)", "(b . ?0)"},
		{"", "(?0 ?1)", "(?2)"},
		{"", "(?0 ?0)", "(a b)"},
		{"", "(?0 ?0)", "(a (a))"},
		{"", "(?0 ?1 ?0)", "(?1 a b)"},
		{"", "(?0 ?1 ?2 ?0)", "(?1 ?2 3 4)"},
		{"", "(?0 ?0)", "((?1 a) (b ?1))"},
		// A variable in a term that contains it.
		{"", "?0", "(?0)"},
		{"", "?0", "(a . ?0)"},
		{"", "?0", "(?0 . ?0)"},
		{"", "?4", "(a (b (?1 (c . ?4))))"},
		{"", "(?0 ?0)", "(?1 (?1))"},
		{"", "(?0 ?1)", "((?1) (?0))"},
		{"", "(?0 ?1)", "((?1) ?0)"},
		{"", "(?0 ?1 ?2)", "((?1) (?2) (?0))"},
		{"", "(?0 ?1 ?2 ?3)", "((?1) ?2 ?3 (a ?0))"},
		{"", "(?0 ?1 ?0)", "((a . ?0) (a . ?1) ?1)"},
		{"", "(?0 ?0)", "((a . ?1) (a . (b . ?1)))"},
		{"", "(?0 . ?0)", "(?1 . (a . ?1))"},
		// Both through the bindings of s.
		{"?0 a", "?0", "b"},
		{"?0 a ?1 b", "?0", "?1"},
		{"?0 a", "(?1 ?1)", "(?0 b)"},
		{"?1 ?0", "(?0 ?1)", "(a b)"},
		{"?1 (a) ?2 (?0 b)", "?1", "?2"},
		{"?1 (?0 a) ?2 (b ?0)", "?1", "?2"},
		{"?0 (?1)", "?1", "(?0)"},
		{"?0 (?1)", "?1", "?0"},
		{"?1 ?0", "?0", "(a ?1)"},
		{"?0 (?1) ?3 ?2", "(?1 ?2)", "(?3 (?0))"},
		{"?0 (a ?2) ?1 (a (?2))", "?0", "?1"},
		{"?3 (?2) ?4 ((?5))", "(?3 ?2)", "(?4 ?5)"},
	} {
		checkNoSolution(t, c[0]+" with "+c[1]+" and "+c[2], subst(c[0]), term(c[1]), term(c[2]))
	}
}

func TestUnifyDeepTerms(t *testing.T) {
	a, b, x, y := symbol("a"), symbol("b"), variable(0), variable(1)
	for _, left := range []bool{false, true} {
		deep := pairs(2499, left, a, x)
		checkSolution(t, nil, deep, deep)
		checkSolution(t, nil, deep, pairs(2499, left, a, b), bind(0, b))
		checkSolution(t, nil, deep, pairs(2499, left, a, y), bind(1, x))
		checkSolution(t, nil, pairs(2499, left, x, a), pairs(2499, left, y, a), bind(1, x))
		checkNoSolution(t, "another atom deep inside", nil, pairs(2499, left, a, b), pairs(2499, left, a, a))
		checkNoSolution(t, "another form deep inside", nil, pairs(2499, left, a, a), pairs(2498, left, a, a))
		checkNoSolution(t, "a variable deep inside", nil, x, deep)
		checkNoSolution(t, "a variable in itself after many pairs", nil, deep, pairs(2498, left, a, x))
		checkNoSolution(t, "a variable deep in a binding", substOf(bind(1, deep)), x, pair(y, a))
		checkNoSolution(t, "two variables deep inside each other", substOf(bind(1, deep)), x, pairs(2499, left, b, y))
	}
	checkSolution(t, nil, balanced(4999, x), balanced(4999, y), bind(1, x))
	checkNoSolution(t, "other ways down", nil, pairs(2499, true, a, b), pairs(2499, false, a, b))
}

// chain has the equations of each variable from first on, n of them, and a pair
// of the next one twice.
func chain(first int, n int) (impl.Term, impl.Term) {
	var l, r []impl.Term
	for i := range n {
		next := variable(first + i + 1)
		l, r = append(l, variable(first+i)), append(r, pair(next, next))
	}
	return listOf(l...), listOf(r...)
}

// full has depth pairs over each leaf.
func full(depth int, leaf impl.Term) impl.Term {
	for range depth {
		leaf = pair(leaf, leaf)
	}
	return leaf
}

func TestUnifySharedVariables(t *testing.T) {
	a, b := chain(3, 11)
	var want []impl.Binding
	for i := range 11 {
		want = append(want, bind(3+i, full(11-i, variable(14))))
	}
	checkSolution(t, nil, a, b, want...)
	soon(t, "Unify of chains", func() {
		for _, n := range []int{12, 13, 30, 62, 63, 64, 65, 100, 399, 400, 401, 800} {
			a, b = chain(3, n)
			checkNoSolution(t, "2 to the number of the equations", nil, a, b)
			checkNoSolution(t, "with a binding of the last variable", substOf(bind(3+n, symbol("a"))), a, b)
		}
	})
}

// Two chains that are equal in the end, with the variables of one after the
// other and with pairs that meet variables on every level.
func TestUnifyTwoChains(t *testing.T) {
	soon(t, "Unify of two chains", func() {
		for _, n := range []int{1, 5, 11, 12, 40, 190, 300} {
			a, b := chain(0, n)
			c, d := chain(1000, n)
			left, right := listOf(a, c, variable(0)), listOf(b, d, variable(1000))
			if n > 11 {
				checkNoSolution(t, "two long chains", nil, left, right)
				continue
			}
			var want []impl.Binding
			for i := range n {
				want = append(want, bind(i, full(n-i, variable(n))))
			}
			for i := range n {
				want = append(want, bind(1000+i, full(n-i, variable(n))))
			}
			checkSolution(t, nil, left, right, append(want, bind(1000+n, variable(n)))...)
		}
	})
}

// Two chains with the variables of one at odd depths and those of the other at
// even ones, so that each variable meets pairs only, twice as many on each level.
func TestUnifyCrossedChains(t *testing.T) {
	soon(t, "Unify of crossed chains", func() {
		for _, n := range []int{1, 2, 3, 4, 5, 6, 10, 31, 32, 60, 150, 190} {
			next := variable(1)
			l, r := []impl.Term{variable(0), variable(200)}, []impl.Term{pair(next, next), full(2, variable(201))}
			want := substOf(bind(0, full(min(2*n, 12), variable(200+n))))
			for i := 1; i < n; i++ {
				l, r = append(l, variable(i), variable(200+i)), append(r, full(2, variable(i+1)), full(2, variable(201+i)))
			}
			for i := 1; i <= n && n < 6; i++ {
				want = append(want, bind(i, full(2*(n-i)+1, variable(200+n))))
			}
			for i := 0; i < n && n < 6; i++ {
				want = append(want, bind(200+i, full(2*(n-i), variable(200+n))))
			}
			a, b := listOf(append(l, variable(0))...), listOf(append(r, variable(200))...)
			c, d := listOf(append([]impl.Term{variable(200)}, l...)...), listOf(append([]impl.Term{variable(0)}, r...)...)
			if n > 5 {
				checkNoSolution(t, "crossed chains", nil, a, b)
				checkNoSolution(t, "crossed chains that are equal before", nil, c, d)
				continue
			}
			checkSolution(t, nil, a, b, want...)
			checkSolution(t, nil, c, d, want...)
		}
	})
}

// Variables that would have to contain each other, all of them equal.
func TestUnifyCircles(t *testing.T) {
	soon(t, "Unify of circles", func() {
		for _, n := range []int{1, 2, 3, 10, 100, 390} {
			var l, r []impl.Term
			for i := range n {
				l, r = append(l, variable(i)), append(r, pair(variable((i+1)%n), variable((i+1)%n)))
			}
			checkNoSolution(t, "a circle", nil, listOf(l...), listOf(r...))
			checkNoSolution(t, "a circle, all equal", nil, listOf(append(l, l...)...), listOf(append(r, append(l[1:], l[0])...)...))
			checkNoSolution(t, "a circle, all equal before", nil, listOf(append(l, l...)...), listOf(append(append(l[1:], l[0]), r...)...))
		}
	})
}

func TestUnifyUpToMaxTerm(t *testing.T) {
	a, x, y := symbol("a"), variable(0), variable(1)
	checkSolution(t, nil, x, balanced(4999, y), bind(0, balanced(4999, y)))
	two := substOf(bind(9, pair(x, x)))
	half, more := balanced(2499, y), balanced(2501, y)
	checkSolution(t, two, x, half, bind(0, half), bind(9, pair(half, half)))
	checkNoSolution(t, "two parts of 2501 nodes", two, x, more)
	three := substOf(bind(7, a), bind(8, pair(x, y)), bind(9, a))
	checkSolution(t, three, pair(x, y), pair(half, variable(2)), bind(0, balanced(2499, y)), bind(2, y), bind(7, a), bind(8, pair(half, y)), bind(9, a))
	checkSolution(t, three, pair(x, y), pair(balanced(2499, a), balanced(2499, a)), bind(0, balanced(2499, a)), bind(1, balanced(2499, a)), bind(7, a), bind(8, pair(balanced(2499, a), balanced(2499, a))), bind(9, a))
	checkNoSolution(t, "parts of 2499 and 2501 nodes", substOf(bind(8, pair(x, pair(y, a)))), pair(x, y), pair(balanced(2499, a), balanced(2499, a)))
	// The last of the terms is too large, or the first.
	checkNoSolution(t, "the last term", nil, listOf(x, variable(2)), listOf(balanced(2501, a), pair(x, x)))
	checkNoSolution(t, "the first term", nil, listOf(variable(2), x), listOf(balanced(2501, a), pair(variable(2), variable(2))))
	for _, left := range []bool{false, true} {
		s := substOf(bind(5, pairs(1250, left, a, x)))
		checkSolution(t, s, x, pairs(1249, left, a, y), bind(0, pairs(1249, left, a, y)), bind(5, pairs(2499, left, a, y)))
		checkNoSolution(t, "2500 pairs", s, x, pairs(1250, left, a, y))
	}
	// A variable by a variable, and by an atom, leaves the sizes as they are.
	large := substOf(bind(3, balanced(4999, y)), bind(4, balanced(4999, y)))
	checkSolution(t, large, x, y, bind(1, x), bind(3, balanced(4999, x)), bind(4, balanced(4999, x)))
	checkSolution(t, large, a, y, bind(1, a), bind(3, balanced(4999, a)), bind(4, balanced(4999, a)))
	checkNoSolution(t, "all much too large", large, y, balanced(4999, x))
	checkNoSolution(t, "one pair more", large, y, pair(a, x))
}

// Only the terms of the solution have to fit, not what becomes of an equation.
func TestUnifyEquationsThatGrow(t *testing.T) {
	x, y := variable(0), variable(1)
	large := substOf(bind(0, balanced(4999, variable(5))), bind(1, balanced(4999, variable(6))))
	joined := substOf(bind(0, balanced(4999, variable(5))), bind(1, balanced(4999, variable(5))), bind(6, variable(5)))
	checkSolution(t, large, pair(x, x), pair(x, x), large...)
	checkSolution(t, large, x, y, joined...)
	checkSolution(t, large, pair(x, x), pair(y, y), joined...)
	checkSolution(t, large, pair(x, pair(x, x)), pair(y, pair(y, x)), joined...)
	checkNoSolution(t, "a variable for it", large, pair(x, variable(7)), pair(x, pair(x, x)))
	soon(t, "Unify of much larger equations", func() {
		checkSolution(t, large, balanced(4999, x), balanced(4999, y), joined...)
		checkSolution(t, large, balanced(4999, x), pairs(0, true, x, balanced(4999, x)), large...)
	})
	checkSolution(t, nil, listOf(x, x, x, x), listOf(balanced(4989, variable(3)), y, y, y), bind(0, balanced(4989, variable(3))), bind(1, balanced(4989, variable(3))))
}

func TestUnifyUpToMaxBindings(t *testing.T) {
	a := symbol("a")
	for _, n := range []int{1, 2, 399, 400} {
		atoms := listOf(slices.Repeat([]impl.Term{a}, n)...)
		checkSolution(t, nil, listOf(variables(0, n)...), atoms, manyBindings(0, n, a)...)
		// All are the same as one more, or as the greatest of them.
		checkSolution(t, nil, listOf(variables(1, n)...), listOf(variables(0, n)...), manyBindings(1, n, variable(0))...)
		checkSolution(t, nil, listOf(variables(1, n)...), listOf(slices.Repeat([]impl.Term{variable(0)}, n)...), manyBindings(1, n, variable(0))...)
		greatest := slices.Repeat([]impl.Term{variable(n)}, n)
		checkSolution(t, nil, listOf(variables(0, n)...), listOf(greatest...), manyBindings(1, n, variable(0))...)
	}
	for _, n := range []int{401, 402, 1000, 2499} {
		atoms := listOf(slices.Repeat([]impl.Term{a}, n)...)
		checkNoSolution(t, "one atom for all", nil, listOf(variables(0, n)...), atoms)
		checkNoSolution(t, "one variable for all", nil, listOf(variables(1, n)...), listOf(variables(0, n)...))
	}
}

func TestUnifyWithManyBindings(t *testing.T) {
	a, b, x, y := symbol("a"), symbol("b"), variable(0), variable(5000)
	s := manyBindings(1, 400, x)
	checkSolution(t, s, x, x, s...)
	checkSolution(t, s, variable(3), variable(400), s...)
	checkSolution(t, s, y, y, s...)
	checkNoSolution(t, "the variable of 400 others", s, x, a)
	checkNoSolution(t, "one of 400 variables", s, variable(200), a)
	checkNoSolution(t, "one variable more", s, variable(200), y)
	checkNoSolution(t, "one variable more in a pair", s, pair(a, y), pair(a, b))
	checkSolution(t, s[:399], x, a, manyBindings(0, 400, a)...)
	checkSolution(t, s[:399], variable(399), a, manyBindings(0, 400, a)...)
	checkSolution(t, s[:399], variable(7), y, append(slices.Clone(s[:399]), bind(5000, x))...)
	checkNoSolution(t, "two variables more", s[:399], pair(x, y), pair(a, b))
	// No binding is added where the bindings are equal before.
	u := manyBindings(100, 400, pair(a, x))
	checkSolution(t, u, variable(100), variable(499), u...)
	checkSolution(t, u, listOf(variables(100, 400)...), listOf(slices.Repeat([]impl.Term{pair(a, x)}, 400)...), u...)
	checkNoSolution(t, "the variable in 400 terms", u, variable(300), pair(a, b))
	checkSolution(t, u[1:], variable(300), pair(a, b), append(substOf(bind(0, b)), manyBindings(101, 399, pair(a, b))...)...)
	largest := largestSubst()
	soon(t, "Unify with the largest substitution", func() {
		got, ok := impl.Unify(largest[1:], x, a)
		want := append(substOf(bind(0, a)), manyBindings(largest[1].Var, 399, balanced(4999, a))...)
		if !ok || !sameSubst(got, want) {
			t.Errorf("Unify with the largest substitution is %s, %v", briefSubst(got), ok)
		}
		checkNoSolution(t, "a larger term for all", largest[1:], x, pair(a, a))
		checkNoSolution(t, "a binding more", largest, x, a)
	})
}

func TestUnifyRefuses(t *testing.T) {
	a, x := symbol("a"), variable(0)
	for name, bad := range badTerms() {
		for _, s := range [][]impl.Binding{nil, {bind(0, a)}, {bind(1, x)}} {
			for _, other := range []impl.Term{a, x, variable(3), pair(a, x), bad} {
				checkNoSolution(t, name, s, other, bad)
			}
		}
	}
	for name, bad := range badSubsts() {
		checkNoSolution(t, name, bad, a, a)
		checkNoSolution(t, name, bad, x, x)
		checkNoSolution(t, name, bad, variable(7), a)
		checkNoSolution(t, name, bad, pair(variable(1), x), pair(a, variable(2)))
	}
}
