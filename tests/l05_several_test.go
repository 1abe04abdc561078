package tests

// Chapter 6, unification: P9 for UnifyAll, IsUnifier, NewBindings and JoinSubst.

import (
	"slices"
	"testing"

	"loop.example/g03210/impl"
)

func TestUnifyAll(t *testing.T) {
	for _, c := range [][4]string{
		{"", "a", "a", ""},
		{"", "?0", "a", "?0 a"},
		{"", "?2 ?0", "?1 b", "?0 b ?2 ?1"},
		{"", "?0 ?1", "a b", "?0 a ?1 b"},
		{"", "a (b) ()", "a (b) ()", ""},
		// Equations that depend on each other.
		{"", "?0 ?1 ?2", "?1 ?2 a", "?0 a ?1 a ?2 a"},
		{"", "?3 ?2 ?1", "?2 ?1 ?0", "?1 ?0 ?2 ?0 ?3 ?0"},
		{"", "?4 ?2 ?3", "?3 ?1 ?2", "?2 ?1 ?3 ?1 ?4 ?1"},
		{"", "?0 ?1 ?2", "(?1 ?2) (?2) a", "?0 ((a) a) ?1 (a) ?2 a"},
		{"", "?0 ?0 ?1", "(?1 b) (a ?2) a", "?0 (a b) ?1 a ?2 b"},
		{"", "?0 ?0 ?0", "(?1 . ?2) (?2 . ?3) (?3 . ?4)", "?0 (?1 . ?1) ?2 ?1 ?3 ?1 ?4 ?1"},
		{"", "(?0 ?1) (?1 ?2) ?2", "(?3 ?3) (?3 ?4) a", "?1 ?0 ?2 a ?3 ?0 ?4 a"},
		// The same equation again.
		{"", "?0 ?0 a", "a a ?0", "?0 a"},
		{"", "?1 ?1 ?0", "?0 ?0 ?1", "?1 ?0"},
		{"", "?5 ?5", "(?1 a) (?1 a)", "?5 (?1 a)"},
		// With bindings.
		{"?1 a ?3 ?2", "?0 ?3", "?1 b", "?0 a ?1 a ?2 b ?3 b"},
		{"?5 (?0 ?1) ?6 (?1 ?2)", "?5 ?0", "?6 a", "?0 a ?1 a ?2 a ?5 (a a) ?6 (a a)"},
		{"?9 (?1 ?2 ?3)", "?1 ?2 ?3", "?2 ?3 ?0", "?1 ?0 ?2 ?0 ?3 ?0 ?9 (?0 ?0 ?0)"},
	} {
		checkAllSolution(t, subst(c[0]), terms(c[1]), terms(c[2]), subst(c[3])...)
	}
}

func TestUnifyNoEquation(t *testing.T) {
	for name, s := range goodSubsts() {
		for _, none := range [][]impl.Term{nil, {}} {
			if got, ok := impl.UnifyAll(s, none, []impl.Term{}); !ok || !sameSubst(got, s) {
				t.Errorf("%s: UnifyAll of no equation is %s, %v", name, briefSubst(got), ok)
			}
		}
	}
}

func TestUnifyAllWithoutASolution(t *testing.T) {
	for _, c := range [][3]string{
		{"", "a", "b"},
		{"", "a b", "a c"},
		{"", "?0 ?1 a", "a b ()"},
		// Each equation has a solution, but all of them have none.
		{"", "?0 ?0", "a b"},
		{"", "?0 ?1 ?0", "a b ?1"},
		{"", "?0 ?1 ?2", "?1 ?2 (?0)"},
		{"", "?0 ?1", "(?1) (?0)"},
		{"", "?0 ?0 ?1", "(?1) (?2) (?2)"},
		{"", "?0 ?0", "(?1 a) (b ?1)"},
		{"", "?0 ?1 ?2 ?3", "?1 ?2 ?3 (a . ?0)"},
		{"?1 a", "?0 ?0", "?1 b"},
		{"?0 (?1)", "?2 ?2", "?0 ?1"},
		{"?0 (?1) ?2 (?3)", "?1 ?3", "?2 ?0"},
		{"?5 ?3", "?3 ?5", "a (a)"},
	} {
		checkNoneForAll(t, c[0]+" with "+c[1]+" and "+c[2], subst(c[0]), terms(c[1]), terms(c[2]))
	}
}

func TestUnifyAllListsOfDifferentLengths(t *testing.T) {
	a, x := symbol("a"), variable(0)
	for _, term := range []impl.Term{a, x} {
		for n := range 6 {
			for m := range 6 {
				l, r := slices.Repeat([]impl.Term{term}, n), slices.Repeat([]impl.Term{a}, m)
				got, ok := impl.UnifyAll(substOf(bind(7, a)), l, r)
				var want []impl.Binding
				if n > 0 && term.Kind == impl.KVar {
					want = append(want, bind(0, a))
				}
				want = append(want, bind(7, a))
				if n != m {
					want = nil
				}
				if ok != (n == m) || !sameSubst(got, want) {
					t.Errorf("UnifyAll of %d and %d terms is %s, %v", n, m, briefSubst(got), ok)
				}
			}
		}
	}
	// What lies behind the shorter list does not count.
	l := []impl.Term{a, x, a}
	if got, ok := impl.UnifyAll(nil, l[:2], l); ok || len(got) != 0 {
		t.Errorf("UnifyAll of a list and a part of it is %s, %v", briefSubst(got), ok)
	}
	if got, ok := impl.UnifyAll(nil, l, l[:2]); ok || len(got) != 0 {
		t.Errorf("UnifyAll of a part of a list and the list is %s, %v", briefSubst(got), ok)
	}
}

func TestUnifyAllManyEquations(t *testing.T) {
	a := symbol("a")
	soon(t, "UnifyAll of many equations", func() {
		for _, n := range []int{400, 401, 5000} {
			got, ok := impl.UnifyAll(nil, variables(0, n), slices.Repeat([]impl.Term{a}, n))
			if n <= 400 && (!ok || !sameSubst(got, manyBindings(0, n, a))) {
				t.Errorf("UnifyAll of %d equations is %s, %v", n, briefSubst(got), ok)
			}
			if n > 400 && (ok || len(got) != 0) {
				t.Errorf("UnifyAll of %d equations is %s, %v", n, briefSubst(got), ok)
			}
			got, ok = impl.UnifyAll(nil, slices.Repeat([]impl.Term{variable(0)}, n), slices.Repeat([]impl.Term{a}, n))
			if !ok || !sameSubst(got, substOf(bind(0, a))) {
				t.Errorf("UnifyAll of %d equal equations is %s, %v", n, briefSubst(got), ok)
			}
		}
		large, other := balanced(4999, variable(1)), balanced(4999, variable(0))
		got, ok := impl.UnifyAll(nil, slices.Repeat([]impl.Term{large}, 500), slices.Repeat([]impl.Term{other}, 500))
		if !ok || !sameSubst(got, substOf(bind(1, variable(0)))) {
			t.Errorf("UnifyAll of large terms is %s, %v", briefSubst(got), ok)
		}
		got, ok = impl.UnifyAll(nil, slices.Repeat([]impl.Term{variable(5)}, 500), slices.Repeat([]impl.Term{large}, 500))
		if !ok || !sameSubst(got, substOf(bind(5, large))) {
			t.Errorf("UnifyAll of a variable and large terms is %s, %v", briefSubst(got), ok)
		}
	})
}

func TestUnifyAllUpToMaxTerm(t *testing.T) {
	a, x, y, z := symbol("a"), variable(0), variable(1), variable(2)
	half, more := balanced(2499, a), balanced(2501, a)
	checkAllSolution(t, nil, []impl.Term{x, y, z}, []impl.Term{half, half, pair(x, y)}, bind(0, half), bind(1, half), bind(2, pair(half, half)))
	checkNoneForAll(t, "parts of 2499 and 2501 nodes", nil, []impl.Term{x, y, z}, []impl.Term{half, more, pair(x, y)})
	checkNoneForAll(t, "parts of 2501 and 2499 nodes", nil, []impl.Term{x, y, z}, []impl.Term{more, half, pair(x, y)})
	soon(t, "UnifyAll of chains", func() {
		for n := 1; n < 450; n = n*3/2 + 1 {
			var l, r []impl.Term
			var want []impl.Binding
			for i := range n {
				l, r = append(l, variable(i)), append(r, pair(variable(i+1), variable(i+1)))
				if n < 12 {
					want = append(want, bind(i, full(n-i, variable(n))))
				}
			}
			got, ok := impl.UnifyAll(nil, l, r)
			if ok != (n < 12) || !sameSubst(got, want) {
				t.Errorf("UnifyAll of %d equations is %s, %v", n, briefSubst(got), ok)
			}
			slices.Reverse(l)
			slices.Reverse(r)
			got, ok = impl.UnifyAll(nil, r, l)
			if ok != (n < 12) || !sameSubst(got, want) {
				t.Errorf("UnifyAll of %d equations in the other order is %s, %v", n, briefSubst(got), ok)
			}
		}
	})
}

func TestUnifyAllRefuses(t *testing.T) {
	a, x := symbol("a"), variable(0)
	for name, bad := range badTerms() {
		for _, s := range [][]impl.Binding{nil, {bind(1, x)}} {
			checkNoneForAll(t, name, s, []impl.Term{bad}, []impl.Term{bad})
			checkNoneForAll(t, name, s, []impl.Term{x, bad}, []impl.Term{a, x})
			checkNoneForAll(t, name, s, []impl.Term{x, bad, a}, []impl.Term{a, bad, a})
			checkNoneForAll(t, name, s, []impl.Term{a, a, variable(4)}, []impl.Term{a, a, bad})
		}
		if got, ok := impl.UnifyAll(nil, nil, []impl.Term{bad}); ok || len(got) != 0 {
			t.Errorf("%s: UnifyAll of lists of different lengths is %s, %v", name, briefSubst(got), ok)
		}
	}
	for name, bad := range badSubsts() {
		checkNoneForAll(t, name, bad, nil, nil)
		checkNoneForAll(t, name, bad, []impl.Term{a}, []impl.Term{a})
		checkNoneForAll(t, name, bad, []impl.Term{x, variable(5)}, []impl.Term{a, x})
	}
}

func checkUnifier(t *testing.T, s []impl.Binding, a impl.Term, b impl.Term, want bool) {
	t.Helper()
	if got := impl.IsUnifier(s, a, b); got != want {
		t.Errorf("IsUnifier(%s, %s, %s) is %v", briefSubst(s), brief(a), brief(b), got)
	}
	if got := impl.IsUnifier(s, b, a); got != want {
		t.Errorf("IsUnifier(%s, %s, %s) is %v", briefSubst(s), brief(b), brief(a), got)
	}
}

func TestIsUnifier(t *testing.T) {
	for _, c := range []struct {
		s, a, b string
		want    bool
	}{
		{"", "a", "a", true},
		{"", "a", "b", false},
		{"", "?0", "?0", true},
		{"", "?0", "?1", false},
		{"", "?0", "a", false},
		{"", "(a ?0 . 1)", "(a ?0 . 1)", true},
		{"", "1", "a", false},
		{"", "()", "(())", false},
		// What Unify gives.
		{"?0 a ?1 a", "(?0 ?1)", "(?1 a)", true},
		{"?1 ?0", "?0", "?1", true},
		{"?0 (a b) ?1 a ?2 b", "(?0 ?0)", "((?1 b) (a ?2))", true},
		// A substitution that is more special.
		{"?0 a ?1 a", "?0", "?1", true},
		{"?0 (a) ?1 (a) ?7 b", "?0", "?1", true},
		{"?1 (?0 a) ?2 ?0 ?3 a", "?1", "(?2 ?3)", true},
		{"?0 b ?1 (b a) ?2 b ?3 a", "?1", "(?2 ?3)", true},
		// One that is more general, or another one.
		{"", "(?0 ?1)", "(?1 a)", false},
		{"?1 ?0", "(?0 ?1)", "(?1 a)", false},
		{"?1 a", "(?0 ?1)", "(?1 a)", false},
		{"?0 a ?1 b", "(?0 ?1)", "(?1 a)", false},
		{"?0 (a b)", "?0", "(a ?2)", false},
		{"?2 ?1", "?0", "?1", false},
		{"?0 a", "?0", "?1", false},
		// Terms are taken as they are after one replacement.
		{"?1 (?0)", "?1", "(?0)", true},
		{"?1 (?0)", "?1", "((?0))", false},
		{"?1 1", "?1", "1", true},
		{"?1 2", "1", "2", false},
		{"?5 ?3", "?5", "?3", true},
		{"?5 ?3", "?5", "?5", true},
		{"?100000 a", "?100000", "a", true},
	} {
		checkUnifier(t, subst(c.s), term(c.a), term(c.b), c.want)
	}
}

func TestIsUnifierUpToMaxTerm(t *testing.T) {
	a, x, y := symbol("a"), variable(0), variable(1)
	half, more := balanced(2499, a), balanced(2501, a)
	s := substOf(bind(0, half), bind(1, half))
	checkUnifier(t, s, pair(x, x), pair(y, y), true)
	checkUnifier(t, s, pair(x, y), pair(half, half), true)
	checkUnifier(t, s, x, half, true)
	checkUnifier(t, s, pair(x, y), pair(half, more), false)
	checkUnifier(t, s, pair(x, pair(a, x)), pair(y, pair(a, y)), false)
	checkUnifier(t, s, pair(a, pair(x, x)), pair(a, pair(x, x)), false)
	large := substOf(bind(0, balanced(4999, a)))
	checkUnifier(t, large, x, x, true)
	checkUnifier(t, large, x, balanced(4999, a), true)
	checkUnifier(t, large, pair(x, a), pair(x, a), false)
	// One side is too large and the other one is not, or is the empty list.
	checkUnifier(t, large, pair(x, x), a, false)
	checkUnifier(t, large, pair(x, x), empty(), false)
	checkUnifier(t, large, balanced(4999, y), balanced(4999, y), true)
	checkUnifier(t, large, balanced(4999, x), balanced(4999, x), false)
	soon(t, "IsUnifier of much larger terms", func() {
		for range 100 {
			checkUnifier(t, large, balanced(4999, x), pairs(2499, true, x, x), false)
		}
	})
}

func TestIsUnifierRefuses(t *testing.T) {
	a, x := symbol("a"), variable(0)
	for name, bad := range badTerms() {
		for _, s := range [][]impl.Binding{nil, {bind(0, a)}, {bind(1, x)}} {
			for _, other := range []impl.Term{a, x, variable(1), bad, empty()} {
				if impl.IsUnifier(s, bad, other) || impl.IsUnifier(s, other, bad) {
					t.Errorf("%s: IsUnifier is true", name)
				}
			}
		}
	}
	for name, bad := range badSubsts() {
		for _, term := range []impl.Term{a, x, variable(1), variable(7), empty()} {
			if impl.IsUnifier(bad, term, term) || impl.IsUnifier(bad, term, a) || impl.IsUnifier(bad, x, term) {
				t.Errorf("%s: IsUnifier is true", name)
			}
		}
	}
}

func checkNew(t *testing.T, s []impl.Binding, u []impl.Binding, want ...impl.Binding) {
	t.Helper()
	if got := impl.NewBindings(s, u); !sameSubst(got, want) {
		t.Errorf("NewBindings(%s, %s) is %s, want %s", briefSubst(s), briefSubst(u), briefSubst(got), briefSubst(want))
	}
}

func TestNewBindings(t *testing.T) {
	for _, c := range [][3]string{
		{"", "", ""},
		{"?1 a", "", ""},
		{"", "?1 a ?4 (?0)", "?1 a ?4 (?0)"},
		{"?1 a", "?0 a ?1 a", "?0 a"},
		{"?1 a", "?1 a", ""},
		{"?1 a", "?1 b", ""},
		{"?1 a", "?2 a", "?2 a"},
		{"?2 a", "?1 a", "?1 a"},
		{"?1 ?0 ?4 (?2 ?3) ?9 a", "?0 a ?1 a ?3 b ?4 (?2 b) ?5 ?2 ?9 a ?10 c", "?0 a ?3 b ?5 ?2 ?10 c"},
		{"?0 a ?3 b", "?1 a ?2 b", "?1 a ?2 b"},
		{"?1 a ?2 b ?3 c", "?2 c", ""},
		{"?0 a", "?100000 a", "?100000 a"},
		{"?100000 a", "?0 a ?99999 b ?100000 c", "?0 a ?99999 b"},
		// A binding whose term contains what s binds is new as well.
		{"?1 a", "?3 (?1 b)", "?3 (?1 b)"},
		{"?3 (?1 b)", "?1 a", "?1 a"},
		{"?1 a", "?2 1", "?2 1"},
	} {
		checkNew(t, subst(c[0]), subst(c[1]), subst(c[2])...)
	}
	for _, s := range goodSubsts() {
		checkNew(t, s, s)
		checkNew(t, nil, s, s...)
		checkNew(t, []impl.Binding{}, s, s...)
		checkNew(t, s, nil)
	}
	full := manyBindings(1, 400, symbol("a"))
	checkNew(t, full[200:], full, full[:200]...)
	checkNew(t, full[:399], full, full[399:]...)
	checkNew(t, full, manyBindings(201, 400, variable(0)), manyBindings(401, 200, variable(0))...)
}

func TestNewBindingsOfAllSmallSubsts(t *testing.T) {
	lists := smallSubsts()
	for _, s := range lists {
		for _, u := range lists {
			var want []impl.Binding
			for _, b := range u {
				if !boundIn(s, b.Var) {
					want = append(want, b)
				}
			}
			checkNew(t, s, u, want...)
		}
	}
}

func TestNewBindingsRefuses(t *testing.T) {
	a := symbol("a")
	for name, bad := range badSubsts() {
		for _, s := range [][]impl.Binding{nil, {bind(7, a)}, {bind(0, a), bind(1, a), bind(2, a), bind(3, a)}, bad} {
			if got := impl.NewBindings(s, bad); len(got) != 0 {
				t.Errorf("%s: NewBindings of it has %d bindings", name, len(got))
			}
			if got := impl.NewBindings(bad, s); len(got) != 0 {
				t.Errorf("%s: NewBindings without it has %d bindings", name, len(got))
			}
		}
	}
}

func checkJoined(t *testing.T, s []impl.Binding, u []impl.Binding, want ...impl.Binding) {
	t.Helper()
	for _, l := range [][2][]impl.Binding{{s, u}, {u, s}} {
		if got, ok := impl.JoinSubst(l[0], l[1]); !ok || !sameSubst(got, want) {
			t.Errorf("JoinSubst(%s, %s) is %s, %v, want %s", briefSubst(l[0]), briefSubst(l[1]), briefSubst(got), ok, briefSubst(want))
		}
	}
}

func checkNotJoined(t *testing.T, name string, s []impl.Binding, u []impl.Binding) {
	t.Helper()
	for _, l := range [][2][]impl.Binding{{s, u}, {u, s}} {
		if got, ok := impl.JoinSubst(l[0], l[1]); ok || len(got) != 0 {
			t.Errorf("%s: JoinSubst is %s, %v", name, briefSubst(got), ok)
		}
	}
}

func TestJoinSubst(t *testing.T) {
	for _, c := range [][3]string{
		{"", "", ""},
		{"?1 a", "", "?1 a"},
		// No variable in common.
		{"?1 a", "?0 b", "?0 b ?1 a"},
		{"?1 a ?5 (?4)", "?0 b ?3 ?2", "?0 b ?1 a ?3 ?2 ?5 (?4)"},
		// The same bindings.
		{"?1 a", "?1 a", "?1 a"},
		{"?1 a ?2 b", "?2 b ?3 c", "?1 a ?2 b ?3 c"},
		{"?1 (?0 ?2)", "?1 (?0 ?2)", "?1 (?0 ?2)"},
		// Bindings with a common instance.
		{"?1 ?0", "?1 a", "?0 a ?1 a"},
		{"?1 (?0 b)", "?1 (a ?2)", "?0 a ?1 (a b) ?2 b"},
		{"?1 (?0 ?2)", "?1 (?2 ?3)", "?1 (?0 ?0) ?2 ?0 ?3 ?0"},
		{"?5 (?0 . ?1) ?6 ?1", "?5 (a b) ?6 (b)", "?0 a ?1 (b) ?5 (a b) ?6 (b)"},
		// Terms that are variables of the other list.
		{"?2 ?1", "?1 ?0", "?1 ?0 ?2 ?0"},
		{"?2 ?1", "?2 ?0", "?1 ?0 ?2 ?0"},
		{"?2 ?1", "?1 a", "?1 a ?2 a"},
		{"?1 ?0 ?3 ?2", "?2 ?1", "?1 ?0 ?2 ?0 ?3 ?0"},
		{"?1 ?0 ?3 ?2", "?3 ?1", "?1 ?0 ?2 ?0 ?3 ?0"},
		{"?0 (?1)", "?1 (?2)", "?0 ((?2)) ?1 (?2)"},
		{"?0 (?3) ?1 (?3)", "?3 (?2) ?4 ?2", "?0 ((?2)) ?1 ((?2)) ?3 (?2) ?4 ?2"},
		{"?0 (?1) ?2 (?3)", "?1 (?2 ?4) ?3 a", "?0 (((a) ?4)) ?1 ((a) ?4) ?2 (a) ?3 a"},
	} {
		checkJoined(t, subst(c[0]), subst(c[1]), subst(c[2])...)
	}
	for _, s := range goodSubsts() {
		checkJoined(t, s, s, s...)
		if len(s) < 10 {
			checkJoined(t, s, nil, s...)
			checkJoined(t, s, []impl.Binding{}, s...)
		}
	}
}

func TestJoinSubstWithoutAResult(t *testing.T) {
	for _, c := range [][2]string{
		{"?1 a", "?1 b"},
		{"?1 a", "?1 ()"},
		{"?1 a", "?1 (a)"},
		{"?1 1", "?1 2"},
		{"?1 (a ?0)", "?1 (b ?0)"},
		{"?1 (?0 ?0)", "?1 (a b)"},
		{"?1 ?0 ?2 ?0", "?1 a ?2 b"},
		{"?2 ?1", "?1 a ?2 b"},
		{"?0 a ?1 b ?2 c", "?0 a ?1 b ?2 d"},
		{"?0 a ?1 b ?2 c", "?0 b ?1 b ?2 c"},
		// A variable would have to contain itself.
		{"?0 (?1)", "?1 (?0)"},
		{"?1 ?0", "?0 (?1)"},
		{"?0 (?1) ?2 (?3)", "?1 (?2) ?3 (?0)"},
		{"?0 (?1)", "?0 (?2) ?1 (?2)"},
		{"?3 ?1", "?1 (?3)"},
	} {
		checkNotJoined(t, c[0]+" and "+c[1], subst(c[0]), subst(c[1]))
	}
}

func TestJoinSubstUpToTheLimits(t *testing.T) {
	a, x, y := symbol("a"), variable(0), variable(1)
	half, more := balanced(2499, y), balanced(2501, y)
	checkJoined(t, substOf(bind(2, pair(x, x))), substOf(bind(0, half)), bind(0, half), bind(2, pair(half, half)))
	checkNotJoined(t, "two parts of 2501 nodes", substOf(bind(2, pair(x, x))), substOf(bind(0, more)))
	checkJoined(t, substOf(bind(2, balanced(4999, x))), substOf(bind(2, balanced(4999, y))), bind(1, x), bind(2, balanced(4999, x)))
	for _, n := range []int{0, 1, 200, 399, 400} {
		first, second := manyBindings(1, n, x), manyBindings(1000, 400-n, a)
		checkJoined(t, first, second, slices.Concat(first, second)...)
		checkNotJoined(t, "one binding more", first, append(second, bind(2000, a)))
	}
	checkJoined(t, manyBindings(1, 250, a), manyBindings(151, 250, a), manyBindings(1, 400, a)...)
	checkNotJoined(t, "401 bindings", manyBindings(1, 250, a), manyBindings(152, 250, a))
	checkNotJoined(t, "a variable more", manyBindings(1, 400, x), manyBindings(1, 400, a))
	checkJoined(t, manyBindings(1, 399, x), manyBindings(1, 399, a), manyBindings(0, 400, a)...)
	soon(t, "JoinSubst of chains", func() {
		for _, n := range []int{5, 6, 20, 190} {
			// Each list is a substitution, and both together are a chain.
			var s, u, want []impl.Binding
			for i := 0; i < 2*n; i += 2 {
				s = append(s, bind(i, pair(variable(i+1), variable(i+1))))
				u = append(u, bind(i+1, pair(variable(i+2), variable(i+2))))
			}
			if 2*n > 11 {
				checkNotJoined(t, "a long chain", s, u)
				continue
			}
			for i := range 2 * n {
				want = append(want, bind(i, full(2*n-i, variable(2*n))))
			}
			checkJoined(t, s, u, want...)
		}
	})
}

func TestJoinSubstRefuses(t *testing.T) {
	a := symbol("a")
	for name, bad := range badSubsts() {
		checkNotJoined(t, name, bad, nil)
		checkNotJoined(t, name, bad, bad)
		checkNotJoined(t, name, bad, substOf(bind(7, a)))
		checkNotJoined(t, name, bad, substOf(bind(0, a), bind(1, a), bind(2, a), bind(3, a)))
	}
}
