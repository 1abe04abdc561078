package tests

// Chapter 5, substitutions: P9 for ComposeSubst and MoreGeneral, and P1 for
// what they say of each other and of ApplySubst.

import (
	"slices"
	"testing"

	"loop.example/g03210/impl"
)

func checkComposed(t *testing.T, s []impl.Binding, u []impl.Binding, want ...impl.Binding) {
	t.Helper()
	if got, ok := impl.ComposeSubst(s, u); !ok || !sameSubst(got, want) {
		t.Errorf("ComposeSubst(%s, %s) is %s, %v, want %s", briefSubst(s), briefSubst(u), briefSubst(got), ok, briefSubst(want))
	}
}

func checkNotComposed(t *testing.T, name string, s []impl.Binding, u []impl.Binding) {
	t.Helper()
	if got, ok := impl.ComposeSubst(s, u); ok || len(got) != 0 {
		t.Errorf("%s: ComposeSubst has %d bindings, %v", name, len(got), ok)
	}
}

func TestComposeSubst(t *testing.T) {
	a, b, x, y, z := symbol("a"), symbol("b"), variable(0), variable(1), variable(2)
	checkComposed(t, nil, nil)
	checkComposed(t, []impl.Binding{}, nil)
	for name, s := range goodSubsts() {
		checkComposed(t, s, nil, s...)
		checkComposed(t, nil, s, s...)
		checkComposed(t, s, s, s...)
		if t.Failed() {
			t.Fatal(name)
		}
	}
	checkComposed(t, substOf(bind(1, x)), substOf(bind(0, a)), bind(0, a), bind(1, a))
	checkComposed(t, substOf(bind(2, pair(x, y))), substOf(bind(0, a), bind(1, b)), bind(0, a), bind(1, b), bind(2, pair(a, b)))
	checkComposed(t, substOf(bind(2, y)), substOf(bind(1, x)), bind(1, x), bind(2, x))
	checkComposed(t, substOf(bind(3, pair(z, z))), substOf(bind(2, pair(x, a))), bind(2, pair(x, a)), bind(3, pair(pair(x, a), pair(x, a))))
	// The bindings of t lie before, between and behind those of s.
	s, u := substOf(bind(2, a), bind(5, b)), substOf(bind(0, a), bind(3, x), bind(9, b))
	checkNotComposed(t, "a chain in t", s, u)
	u = substOf(bind(0, a), bind(3, b), bind(4, y), bind(9, y))
	checkComposed(t, s, u, bind(0, a), bind(2, a), bind(3, b), bind(4, y), bind(5, b), bind(9, y))
	checkComposed(t, u, s, bind(0, a), bind(2, a), bind(3, b), bind(4, y), bind(5, b), bind(9, y))
	// Where both bind a variable, s does.
	checkComposed(t, substOf(bind(1, a)), substOf(bind(1, b)), bind(1, a))
	checkComposed(t, substOf(bind(1, a), bind(3, x)), substOf(bind(0, b), bind(1, b), bind(3, a)), bind(0, b), bind(1, a), bind(3, b))
	checkComposed(t, substOf(bind(1, x)), substOf(bind(1, a)), bind(1, x))
	checkComposed(t, substOf(bind(0, pair(y, a))), substOf(bind(0, pair(z, a)), bind(1, b)), bind(0, pair(b, a)), bind(1, b))
}

// A binding of a variable to itself would need a t that is no substitution.
func TestComposeSubstBackToItself(t *testing.T) {
	a, x, y := symbol("a"), variable(0), variable(1)
	checkNotComposed(t, "t maps back", substOf(bind(1, x)), substOf(bind(0, y)))
	checkNotComposed(t, "s maps upwards", substOf(bind(0, y)), substOf(bind(1, x)))
	checkNotComposed(t, "t has a variable itself", substOf(bind(1, a)), substOf(bind(1, y)))
	checkNotComposed(t, "t maps another variable to itself", substOf(bind(1, a)), substOf(bind(2, variable(2))))
	checkNotComposed(t, "t maps back in a pair", substOf(bind(1, x)), substOf(bind(0, pair(y, a))))
	checkComposed(t, substOf(bind(2, y)), substOf(bind(1, x), bind(2, x)), bind(1, x), bind(2, x))
}

func TestComposeSubstWithoutAResult(t *testing.T) {
	a, x, y, z := symbol("a"), variable(0), variable(1), variable(2)
	checkNotComposed(t, "a variable that s binds, as a term", substOf(bind(1, a)), substOf(bind(2, y)))
	checkNotComposed(t, "the same in a pair", substOf(bind(1, a)), substOf(bind(2, pair(a, y))))
	checkNotComposed(t, "the same with a smaller variable", substOf(bind(1, a)), substOf(bind(0, pair(y, a))))
	checkNotComposed(t, "a variable in itself", substOf(bind(1, pair(x, a))), substOf(bind(0, pair(y, a))))
	checkNotComposed(t, "a variable in itself through a pair", substOf(bind(2, pair(x, y))), substOf(bind(1, pair(z, z))))
	checkNotComposed(t, "a later variable of s", substOf(bind(1, pair(x, a)), bind(3, a)), substOf(bind(0, variable(100000)), bind(2, pair(variable(3), a))))
	checkNotComposed(t, "a variable of s inside a term of s", substOf(bind(1, x), bind(3, a)), substOf(bind(0, pair(a, variable(3)))))
	checkNotComposed(t, "the same far away", substOf(bind(5, x), bind(100000, a)), substOf(bind(0, pairs(2499, true, a, variable(100000)))))
	checkComposed(t, substOf(bind(1, a)), substOf(bind(2, x)), bind(1, a), bind(2, x))
}

func TestComposeSubstUpToMaxTerm(t *testing.T) {
	a, x, y := symbol("a"), variable(0), variable(1)
	two := substOf(bind(2, pair(x, x)))
	half, more := balanced(2499, y), balanced(2501, y)
	checkComposed(t, two, substOf(bind(0, half)), bind(0, half), bind(2, pair(half, half)))
	checkNotComposed(t, "two parts of 2501 nodes", two, substOf(bind(0, more)))
	checkNotComposed(t, "one of three terms is too large", substOf(bind(2, a), bind(3, pair(x, x)), bind(4, a)), substOf(bind(0, more)))
	checkNotComposed(t, "the last term is too large", substOf(bind(2, a), bind(3, x), bind(4, pair(a, x))), substOf(bind(0, balanced(4999, y))))
	checkComposed(t, substOf(bind(2, a), bind(3, x)), substOf(bind(0, balanced(4999, y))), bind(0, balanced(4999, y)), bind(2, a), bind(3, balanced(4999, y)))
	many := manyBindings(3, 397, balanced(4999, x))
	checkNotComposed(t, "many terms that are much too large", many, substOf(bind(0, balanced(4999, y))))
	checkComposed(t, many, substOf(bind(0, a)), append(substOf(bind(0, a)), manyBindings(3, 397, balanced(4999, a))...)...)
	// A term that is replaced is not looked at.
	checkComposed(t, substOf(bind(2, a)), substOf(bind(2, pairs(2499, false, x, y))), bind(2, a))
}

func TestComposeSubstUpToMaxBindings(t *testing.T) {
	a, x := symbol("a"), variable(0)
	for _, n := range []int{1, 199, 200, 399, 400} {
		first, second := manyBindings(1, n, x), manyBindings(1000, 400-n, a)
		checkComposed(t, first, second, slices.Concat(first, second)...)
		checkComposed(t, second, first, slices.Concat(first, second)...)
		checkNotComposed(t, "one binding more", first, append(second, bind(2000, a)))
		checkNotComposed(t, "one binding more before", append(second, bind(2000, a)), first)
	}
	full := manyBindings(1, 400, a)
	checkComposed(t, full, manyBindings(1, 400, x), full...)
	checkComposed(t, full, manyBindings(100, 300, x), full...)
	checkNotComposed(t, "401 bindings", full, manyBindings(2, 400, symbol("b")))
	checkNotComposed(t, "800 bindings", full, manyBindings(401, 400, a))
	checkNotComposed(t, "variable 0 is one more", full, substOf(bind(0, a)))
	checkNotComposed(t, "MaxVar is one more", full, largestSubst()[399:])
}

func TestComposeSubstRefuses(t *testing.T) {
	a, x := symbol("a"), variable(0)
	for name, bad := range badSubsts() {
		checkNotComposed(t, name, bad, nil)
		checkNotComposed(t, name, nil, bad)
		checkNotComposed(t, name, bad, bad)
		checkNotComposed(t, name, substOf(bind(7, a)), bad)
		checkNotComposed(t, name, bad, substOf(bind(7, a)))
		// Where the other list binds the same variables, nothing bad would be left.
		checkNotComposed(t, name, substOf(bind(0, a), bind(1, a), bind(2, a), bind(3, a)), bad)
		checkNotComposed(t, name, bad, substOf(bind(0, a), bind(4, x)))
	}
}

// composeByDefinition is for small valid lists.
func composeByDefinition(s []impl.Binding, u []impl.Binding) ([]impl.Binding, bool) {
	var l []impl.Binding
	for v := range 10 {
		to := applyByDefinition(u, applyByDefinition(s, variable(v)))
		if !same(to, variable(v)) {
			l = append(l, bind(v, to))
		}
	}
	return l, substOkByDefinition(l)
}

// moreGeneralByDefinition is for small valid lists.
func moreGeneralByDefinition(s []impl.Binding, u []impl.Binding) bool {
	for _, b := range s {
		if !same(applyByDefinition(u, variable(b.Var)), applyByDefinition(u, b.To)) {
			return false
		}
	}
	return true
}

func TestComposeAllSmallSubsts(t *testing.T) {
	lists := smallSubsts()
	good := 0
	for _, s := range lists {
		for _, u := range lists {
			want, ok := composeByDefinition(s, u)
			if !ok {
				checkNotComposed(t, briefSubst(s)+" and "+briefSubst(u), s, u)
				continue
			}
			good++
			checkComposed(t, s, u, want...)
		}
	}
	if all := len(lists) * len(lists); all < 5000 || good < all/10 || good > all*9/10 {
		t.Errorf("%d of %d compositions succeed", good, all)
	}
}

// P1: the composition has the effect of one substitution after the other.
func TestCompositionsHaveTheEffectOfBoth(t *testing.T) {
	lists := smallSubsts()
	terms := allTerms([]impl.Term{variable(0), variable(1), variable(2), variable(3), symbol("a")}, 3)
	for _, s := range lists {
		for _, u := range lists {
			both, ok := impl.ComposeSubst(s, u)
			if !ok {
				continue
			}
			for _, term := range terms {
				first, _ := impl.ApplySubst(s, term)
				second, _ := impl.ApplySubst(u, first)
				checkApplied(t, both, term, second)
			}
		}
	}
}

// P1: the same for large results, which exist for both ways or for none.
func TestLargeCompositionsHaveTheEffectOfBoth(t *testing.T) {
	a, x, y := symbol("a"), variable(0), variable(1)
	good, bad := 0, 0
	for size := 1; size < 40; size += 2 {
		s := substOf(bind(2, balanced(size, x)), bind(3, pair(y, x)))
		u := substOf(bind(0, balanced(4*size+1, a)))
		both, ok := impl.ComposeSubst(s, u)
		if !ok {
			t.Fatalf("ComposeSubst fails for %d nodes", size)
		}
		for n := 1; n < 400; n += 30 {
			for _, term := range []impl.Term{pairs(n, true, variable(2), variable(3)), balanced(2*n+1, variable(2)), pairs(n, false, x, y)} {
				first, ok := impl.ApplySubst(s, term)
				second, fine := impl.ApplySubst(u, first)
				if !ok || !fine {
					bad++
					checkNotApplied(t, "a large result", both, term)
					continue
				}
				good++
				checkApplied(t, both, term, second)
			}
		}
	}
	if good < 100 || bad < 100 {
		t.Errorf("%d terms have a result and %d none", good, bad)
	}
}

func checkMoreGeneral(t *testing.T, s []impl.Binding, u []impl.Binding, want bool) {
	t.Helper()
	if got := impl.MoreGeneral(s, u); got != want {
		t.Errorf("MoreGeneral(%s, %s) is %v", briefSubst(s), briefSubst(u), got)
	}
}

func TestMoreGeneral(t *testing.T) {
	a, b, x, y, z := symbol("a"), symbol("b"), variable(0), variable(1), variable(2)
	for _, s := range goodSubsts() {
		checkMoreGeneral(t, s, s, true)
		checkMoreGeneral(t, nil, s, true)
		checkMoreGeneral(t, []impl.Binding{}, s, true)
		checkMoreGeneral(t, s, nil, len(s) == 0)
	}
	checkMoreGeneral(t, substOf(bind(1, x)), substOf(bind(0, a), bind(1, a)), true)
	checkMoreGeneral(t, substOf(bind(1, x)), substOf(bind(0, a), bind(1, b)), false)
	checkMoreGeneral(t, substOf(bind(0, a), bind(1, a)), substOf(bind(1, x)), false)
	checkMoreGeneral(t, substOf(bind(2, y)), substOf(bind(1, x), bind(2, x)), true)
	checkMoreGeneral(t, substOf(bind(1, x), bind(2, x)), substOf(bind(2, y)), false)
	checkMoreGeneral(t, substOf(bind(2, x)), substOf(bind(1, x)), false)
	checkMoreGeneral(t, substOf(bind(1, a)), substOf(bind(1, b)), false)
	checkMoreGeneral(t, substOf(bind(1, a)), substOf(bind(1, a), bind(2, b)), true)
	checkMoreGeneral(t, substOf(bind(1, a), bind(2, b)), substOf(bind(1, a)), false)
	checkMoreGeneral(t, substOf(bind(1, a), bind(2, b)), substOf(bind(2, b)), false)
	checkMoreGeneral(t, substOf(bind(2, pair(x, y))), substOf(bind(1, b), bind(2, pair(x, b))), true)
	checkMoreGeneral(t, substOf(bind(2, pair(x, y))), substOf(bind(1, b), bind(2, pair(x, a))), false)
	// The same terms come from other equations.
	checkMoreGeneral(t, substOf(bind(0, pair(z, a))), substOf(bind(0, pair(b, a)), bind(2, b)), true)
	checkMoreGeneral(t, substOf(bind(1, x), bind(2, x)), substOf(bind(0, a), bind(1, a), bind(2, a), bind(3, a)), true)
	checkMoreGeneral(t, substOf(bind(0, number(1))), substOf(bind(0, number(2))), false)
}

func TestMoreGeneralUpToMaxTerm(t *testing.T) {
	x, y, z := variable(0), variable(1), variable(2)
	s := substOf(bind(2, pair(x, y)))
	half, more := balanced(2499, variable(5)), balanced(2501, variable(5))
	checkMoreGeneral(t, s, substOf(bind(0, half), bind(1, half), bind(2, pair(half, half))), true)
	checkMoreGeneral(t, s, substOf(bind(0, half), bind(1, half), bind(2, pair(half, balanced(2499, variable(6))))), false)
	checkMoreGeneral(t, s, substOf(bind(0, half), bind(1, more), bind(2, pair(half, half))), false)
	checkMoreGeneral(t, s, substOf(bind(0, more), bind(1, more)), false)
	checkMoreGeneral(t, substOf(bind(1, balanced(4999, x))), substOf(bind(0, balanced(4999, z)), bind(1, balanced(4999, z))), false)
	// A term that cannot be made is not equal to the empty list either.
	checkMoreGeneral(t, s, substOf(bind(0, half), bind(1, more), bind(2, empty())), false)
	checkMoreGeneral(t, substOf(bind(2, empty())), substOf(bind(0, half), bind(1, more), bind(2, empty())), true)
	checkMoreGeneral(t, manyBindings(1, 399, balanced(4999, x)), append(substOf(bind(0, empty())), manyBindings(1, 399, balanced(4999, empty()))...), true)
}

func TestMoreGeneralRefuses(t *testing.T) {
	a := symbol("a")
	for name, bad := range badSubsts() {
		for _, s := range [][]impl.Binding{nil, {bind(0, a)}, {bind(1, a)}, {bind(1, a), bind(2, a), bind(3, a)}} {
			if impl.MoreGeneral(bad, s) || impl.MoreGeneral(s, bad) {
				t.Errorf("%s: MoreGeneral is true", name)
			}
		}
		if impl.MoreGeneral(bad, bad) {
			t.Errorf("%s: MoreGeneral of the same list is true", name)
		}
	}
}

// P1: a substitution satisfies the equations of another one exactly if it
// changes nothing to apply that one before, and so do all its compositions.
func TestMoreGeneralAgreesWithCompositions(t *testing.T) {
	lists := smallSubsts()
	general := 0
	for _, s := range lists {
		for _, u := range lists {
			want := moreGeneralByDefinition(s, u)
			checkMoreGeneral(t, s, u, want)
			both, ok := impl.ComposeSubst(s, u)
			if want != (ok && sameSubst(both, u)) {
				t.Errorf("ComposeSubst(%s, %s) is %s, %v, but MoreGeneral %v", briefSubst(s), briefSubst(u), briefSubst(both), ok, want)
			}
			if ok && !impl.MoreGeneral(s, both) {
				t.Errorf("MoreGeneral(%s, %s) is false", briefSubst(s), briefSubst(both))
			}
			if want {
				general++
			}
		}
	}
	if general < 2*len(lists) {
		t.Errorf("MoreGeneral is true for %d pairs of %d lists", general, len(lists))
	}
}
