package tests

// Chapter 10, disequalities: P9 for CompareDisequalities and MinimalDisequalities.

import (
	"fmt"
	"slices"
	"testing"

	"loop.example/g03210/impl"
)

func TestCompareDisequalities(t *testing.T) {
	ascending := append([][]impl.Binding{nil}, substs("?0 (),?0 () ?1 a,?0 () ?1 b,?0 () ?2 a,?0 a,?0 a ?1 (),?0 a ?1 a,?0 a ?1 a ?2 a,?0 a ?1 a ?2 a ?3 a,?0 a ?1 a ?2 b,?0 a ?1 a ?7 a,?0 a ?1 b,?0 a ?1 1,?0 a ?1 (a),?0 a ?1 (a a),?0 a ?1 (b)")...)
	ascending = append(ascending, substs("?0 a ?5 (),?0 a ?5 ?1,?0 a ?5 ?1 ?6 ?1,?0 a ?5 ?3,?0 a ?5 a,?0 a ?100000 (),?0 aa,?0 b,?0 -10,?0 -9,?0 9,?0 10,?0 (()),?0 (?1),?0 (?1) ?2 a,?0 (?2),?0 (?3),?0 (?10),?0 (a),?0 (a . ?2),?0 (a . b),?0 (a b)")...)
	ascending = append(ascending, substs("?1 (),?1 ?0,?1 ?0 ?2 ?0,?1 ?0 ?3 ?0,?1 a,?2 (),?2 ?0,?2 ?1,?2 ?1 ?3 ?0,?2 ?1 ?3 ?1,?2 a,?9 a,?10 a,?99999 b,?100000 (),?100000 ?0,?100000 ?99999,?100000 a")...)
	for i, d := range ascending {
		checkOrder(t, d, d, 0)
		checkOrder(t, d, spacedSubst(d), 0)
		for _, e := range ascending[i+1:] {
			checkOrder(t, d, e, -1)
		}
	}
	for _, d := range [][]impl.Binding{nil, {}, make([]impl.Binding, 0, 3)} {
		checkOrder(t, d, nil, 0)
		checkOrder(t, d, []impl.Binding{}, 0)
		checkOrder(t, d, subst("?0 ()"), -1)
	}
	// What lies in the spare capacity is not looked at.
	whole := subst("?1 a ?2 b ?3 c")
	checkOrder(t, whole[:2], subst("?1 a ?2 b"), 0)
	checkOrder(t, whole[:2], whole, -1)
}

func TestCompareLargeDisequalities(t *testing.T) {
	a, b := symbol("a"), symbol("b")
	whole := manyBindings(1, 400, a)
	checkOrder(t, whole, whole, 0)
	checkOrder(t, whole[:399], whole, -1)
	checkOrder(t, whole, append(slices.Clone(whole[:399]), bind(400, b)), -1)
	checkOrder(t, whole, append(slices.Clone(whole[:399]), bind(401, a)), -1)
	checkOrder(t, whole, manyBindings(1, 1, b), -1)
	checkOrder(t, whole, manyBindings(2, 400, a), -1)
	for _, left := range []bool{false, true} {
		checkOrder(t, substOf(bind(5, pairs(2499, left, a, a))), substOf(bind(5, pairs(2499, left, a, b))), -1)
		checkOrder(t, substOf(bind(5, pairs(2499, left, a, a))), substOf(bind(5, pairs(2499, left, a, a))), 0)
		checkOrder(t, substOf(bind(5, pairs(2499, left, a, b)), bind(6, a)), substOf(bind(5, pairs(2499, left, a, b)), bind(6, b)), -1)
	}
	largest := largestSubst()
	soon(t, "CompareDisequalities of the largest substitution", func() {
		checkOrder(t, largest, largest, 0)
		checkOrder(t, largest[:399], largest, -1)
		checkOrder(t, largest, append(slices.Clone(largest[:399]), bind(100000, pair(b, b))), sign(impl.CompareTerms(largest[399].To, pair(b, b)) < 0))
	})
}

func TestCompareDisequalitiesOfAllSmallSubsts(t *testing.T) {
	lists := smallSubsts()
	for _, d := range lists {
		for _, e := range lists {
			checkOrder(t, d, e, compareSubsts(d, e))
		}
	}
	sorted := slices.SortedFunc(slices.Values(lists), impl.CompareDisequalities)
	for i := 1; i < len(sorted); i++ {
		if compareSubsts(sorted[i-1], sorted[i]) != -1 {
			t.Errorf("%s is sorted before %s", briefSubst(sorted[i-1]), briefSubst(sorted[i]))
		}
	}
}

func TestCompareDisequalitiesRefuses(t *testing.T) {
	a := symbol("a")
	for name, bad := range badSubsts() {
		for _, d := range [][]impl.Binding{nil, {}, {bind(0, a)}, {bind(1, a)}, {bind(1, a), bind(2, a), bind(3, a)}, {bind(7, a)}, bad, {bind(1, symbol("B"))}} {
			for _, l := range [][2][]impl.Binding{{bad, d}, {d, bad}} {
				if got := impl.CompareDisequalities(l[0], l[1]); got != 2 {
					t.Errorf("%s: CompareDisequalities is %d", name, got)
				}
			}
		}
	}
}

func TestMinimalDisequalities(t *testing.T) {
	for _, c := range [][2]string{
		{"", ""}, {"?0 a", "?0 a"}, {"?1 ?0 ?2 (a)", "?1 ?0 ?2 (a)"},
		// Equal ones, several times.
		{"?0 a,?0 a", "?0 a"}, {"?0 a,?0 a,?0 a,?0 a", "?0 a"}, {"?1 b,?0 a,?1 b,?0 a", "?0 a,?1 b"}, {"?0 a ?1 b,?0 a,?0 a ?1 b,?0 a", "?0 a"},
		// A more general one, on either side.
		{"?0 a,?0 a ?1 b", "?0 a"}, {"?1 b,?0 a ?1 b", "?1 b"}, {"?1 ?0,?0 a ?1 a", "?1 ?0"}, {"?2 ?1,?1 ?0 ?2 ?0", "?2 ?1"}, {"?2 (?0 ?1),?1 b ?2 (?0 b)", "?2 (?0 ?1)"}, {"?0 (?2 a),?0 (b a) ?2 b", "?0 (?2 a)"}, {"?3 (?0),?0 a ?1 b ?3 (a)", "?3 (?0)"},
		// Chains of three, and more.
		{"?0 a,?0 a ?1 b,?0 a ?1 b ?2 c", "?0 a"}, {"?2 ?1,?1 ?0 ?2 ?0,?0 a ?1 a ?2 a", "?2 ?1"}, {"?1 (?0),?0 (?2) ?1 ((?2)),?0 (a) ?1 ((a)) ?2 a", "?1 (?0)"}, {"?3 c,?2 b ?3 c,?1 a ?2 b ?3 c,?0 d ?1 a ?2 b ?3 c", "?3 c"},
		// Ones that cannot be compared.
		{"?0 a,?0 b", "?0 a,?0 b"}, {"?0 a,?1 a", "?0 a,?1 a"}, {"?1 ?0,?2 ?0,?2 ?1", "?1 ?0,?2 ?0,?2 ?1"}, {"?0 a,?1 ?0", "?0 a,?1 ?0"}, {"?0 a ?1 b,?0 a ?1 c", "?0 a ?1 b,?0 a ?1 c"}, {"?0 a ?1 b,?1 b ?2 c,?0 a ?2 c", "?0 a ?1 b,?0 a ?2 c,?1 b ?2 c"},
		{"?2 (?0 ?1),?0 a ?2 (?1 a)", "?0 a ?2 (?1 a),?2 (?0 ?1)"}, {"?0 a,?1 b ?2 c", "?0 a,?1 b ?2 c"}, {"?5 ?1,?0 a ?1 b", "?0 a ?1 b,?5 ?1"}, {"?1 ?0,?0 a ?1 b", "?0 a ?1 b,?1 ?0"},
		// Some of each.
		{"?1 b ?2 c,?0 a,?0 a ?1 b,?1 b", "?0 a,?1 b"}, {"?0 a ?1 a,?1 ?0,?0 b ?1 a,?2 b", "?0 b ?1 a,?1 ?0,?2 b"}, {"?3 ?2,?0 a ?2 b ?3 b,?0 a,?2 c ?3 b", "?0 a,?2 c ?3 b,?3 ?2"}, {"?1 ?0 ?2 ?0,?2 ?1,?1 ?0,?2 ?0", "?1 ?0,?2 ?0,?2 ?1"},
		{"?10 a,?9 a,?100000 a,?2 a", "?2 a,?9 a,?10 a,?100000 a"}, {"?0 (a),?0 1,?0 (),?0 a,?0 -1", "?0 (),?0 a,?0 -1,?0 1,?0 (a)"},
	} {
		checkMinimalInAllOrders(t, substs(c[0]), substs(c[1])...)
	}
}

// Nothing can fulfill the empty disequality, so that it is more general than all others.
func TestMinimalDisequalitiesWithTheEmptyOne(t *testing.T) {
	for _, d := range [][]impl.Binding{nil, {}, make([]impl.Binding, 0, 4), subst("?0 a")[:0]} {
		for _, c := range []string{"?0 a", "?0 a,?1 b", "?100000 (a),?1 ?0 ?2 ?0,?0 a ?1 b", "?0 a,?0 a"} {
			checkMinimalInAllOrders(t, append(substs(c), d), nil)
		}
		checkMinimal(t, [][]impl.Binding{d}, nil)
		checkMinimal(t, [][]impl.Binding{d, nil, d, {}}, nil)
		checkMinimal(t, [][]impl.Binding{manyBindings(0, 400, symbol("a")), d}, nil)
	}
	for _, l := range [][][]impl.Binding{nil, {}, make([][]impl.Binding, 0, 3)} {
		if got := impl.MinimalDisequalities(l); len(got) != 0 {
			t.Errorf("MinimalDisequalities of an empty list is %s", briefSubsts(got))
		}
	}
	// What lies in the spare capacity is not looked at.
	l := substs("?0 a ?1 b,?1 b,,?0 a")
	checkMinimal(t, l[:1], l[0])
	checkMinimal(t, l[:2], l[1])
	checkMinimal(t, l[:3], nil)
}

func TestMinimalDisequalitiesOfSmallSubsts(t *testing.T) {
	lists := smallSubsts()
	all, fewer := 0, 0
	check := func(l ...[]impl.Binding) {
		want := minimalByDefinition(l)
		checkMinimal(t, l, want...)
		all++
		if len(want) < len(l) {
			fewer++
		}
	}
	for i, d := range lists {
		check(d)
		for j, e := range lists {
			check(d, e)
			check(d, e, lists[(3*i+5*j+1)%len(lists)])
			check(e, lists[(i+j)%len(lists)], d, lists[(7*i+j)%len(lists)], e)
		}
	}
	if fewer < all/20 || fewer > all*19/20 {
		t.Errorf("%d of %d lists have elements that are not minimal", fewer, all)
	}
	checkMinimal(t, lists, nil)
	for i := range lists {
		rest := slices.DeleteFunc(slices.Concat(lists[i:], lists[:i]), func(s []impl.Binding) bool { return len(s) < 1+i%3 })
		checkMinimal(t, rest, minimalByDefinition(rest)...)
	}
}

func TestMinimalDisequalitiesUpToMaxBindings(t *testing.T) {
	a, b, x := symbol("a"), symbol("b"), variable(0)
	whole, other := manyBindings(1, 400, a), append(manyBindings(1, 399, a), bind(400, b))
	checkMinimal(t, [][]impl.Binding{whole}, whole)
	checkMinimal(t, [][]impl.Binding{whole, whole, whole}, whole)
	checkMinimal(t, [][]impl.Binding{other, whole}, whole, other)
	checkMinimal(t, [][]impl.Binding{other, whole, whole[:399]}, whole[:399])
	checkMinimal(t, [][]impl.Binding{other, whole, whole[399:]}, other, whole[399:])
	checkMinimal(t, [][]impl.Binding{other, manyBindings(1, 400, x), whole}, manyBindings(1, 400, x), whole, other)
	checkMinimal(t, [][]impl.Binding{append(substOf(bind(0, a)), whole[:399]...), manyBindings(1, 399, x)}, manyBindings(1, 399, x))
	var prefixes [][]impl.Binding
	for n := 1; n <= 400; n++ {
		prefixes = append(prefixes, whole[:n])
	}
	soon(t, "MinimalDisequalities of many lists", func() {
		checkMinimal(t, prefixes, whole[:1])
		slices.Reverse(prefixes)
		checkMinimal(t, prefixes, whole[:1])
		// None is more general than another one.
		var apart [][]impl.Binding
		for n := range 300 {
			apart = append(apart, append(slices.Clone(whole[:n+100]), bind(1000, number(-n))))
		}
		if got := impl.MinimalDisequalities(apart); len(got) != 300 || !sameSubst(got[0], apart[299]) || !sameSubst(got[299], apart[0]) {
			t.Errorf("MinimalDisequalities has %d of 300 elements", len(got))
		}
	})
}

func TestMinimalDisequalitiesOfLargeTerms(t *testing.T) {
	a, b, x, y, z := symbol("a"), symbol("b"), variable(0), variable(1), variable(2)
	for _, left := range []bool{false, true} {
		deep := func(leaf impl.Term) []impl.Binding { return substOf(bind(9, pairs(2499, left, a, leaf))) }
		checkMinimalInAllOrders(t, [][]impl.Binding{deep(b), deep(number(1)), deep(x)}, deep(x), deep(b), deep(number(1)))
		checkMinimalInAllOrders(t, [][]impl.Binding{append(substOf(bind(0, b)), deep(b)...), deep(x)}, deep(x))
		checkMinimalInAllOrders(t, [][]impl.Binding{append(substOf(bind(0, a)), deep(b)...), deep(x)}, append(substOf(bind(0, a)), deep(b)...), deep(x))
	}
	// Where a side becomes too large, an element is not more general.
	s := substOf(bind(2, pair(x, y)))
	half, more := balanced(2499, variable(5)), balanced(2501, variable(5))
	checkMinimalInAllOrders(t, [][]impl.Binding{s, {bind(0, half), bind(1, half), bind(2, pair(half, half))}}, s)
	checkMinimalInAllOrders(t, [][]impl.Binding{s, {bind(0, half), bind(1, more), bind(2, pair(half, half))}}, substOf(bind(0, half), bind(1, more), bind(2, pair(half, half))), s)
	checkMinimalInAllOrders(t, [][]impl.Binding{s, {bind(0, half), bind(1, more), bind(2, empty())}}, substOf(bind(0, half), bind(1, more), bind(2, empty())), s)
	checkMinimalInAllOrders(t, [][]impl.Binding{{bind(1, balanced(4999, x))}, {bind(0, balanced(4999, z)), bind(1, balanced(4999, z))}}, substOf(bind(0, balanced(4999, z)), bind(1, balanced(4999, z))), substOf(bind(1, balanced(4999, x))))
	largest := largestSubst()
	same := append(substOf(bind(0, a)), manyBindings(largest[1].Var, 399, balanced(4999, a))...)
	soon(t, "MinimalDisequalities of the largest substitutions", func() {
		checkMinimal(t, [][]impl.Binding{largest, same, largest[1:], largest, same}, largest[1:])
		checkMinimal(t, [][]impl.Binding{same, largest, same}, same, largest)
	})
}

// Each pair of elements differs only in the last binding, so that comparing all
// pairs part by part would take much longer than going through all elements.
func TestMinimalDisequalitiesThatDifferLate(t *testing.T) {
	b := symbol("b")
	var fixed, open [][]impl.Binding
	for i := range 100 {
		last := bind(90000, number(-i))
		fixed = append(fixed, append(manyBindings(1, 399-i, balanced(199, b)), last))
		// The first i variables of each term are bound to b.
		tree := leaves(balanced(299, b), func(k int) impl.Term {
			if k < i {
				return b
			}
			return variable(k)
		})
		open = append(open, slices.Concat(manyBindings(0, i, b), manyBindings(1000, 240, tree), substOf(last)))
	}
	soon(t, "MinimalDisequalities of lists that differ late", func() {
		for _, l := range [][][]impl.Binding{fixed, open} {
			want := slices.SortedFunc(slices.Values(l), compareSubsts)
			if got := impl.MinimalDisequalities(l); !sameSubsts(got, want) {
				t.Errorf("MinimalDisequalities has %d of %d elements", len(got), len(want))
			}
			for i := range l {
				l[i] = l[i][:len(l[i])-1]
			}
			least := slices.MinFunc(l, func(d []impl.Binding, e []impl.Binding) int { return len(d) - len(e) })
			checkMinimal(t, l, least)
		}
	})
}

func TestMinimalDisequalitiesRefuses(t *testing.T) {
	for name, bad := range badSubsts() {
		good := substs("?1 a,?2 b,?1 a ?2 b,?0 a")
		for i := range len(good) + 1 {
			for _, l := range [][][]impl.Binding{slices.Insert(slices.Clone(good), i, bad), slices.Insert(slices.Insert(slices.Clone(good), i, bad), 0, nil), slices.Insert(slices.Insert(slices.Clone(good), 0, bad), i, bad)} {
				if got := impl.MinimalDisequalities(l); len(got) != 0 {
					t.Errorf("%s at %d: MinimalDisequalities has %d elements", name, i, len(got))
				}
			}
		}
		for _, l := range [][][]impl.Binding{{bad}, {bad, bad}, {nil, bad}, {bad, nil}} {
			if got := impl.MinimalDisequalities(l); len(got) != 0 {
				t.Errorf("%s: MinimalDisequalities has %d elements", name, len(got))
			}
		}
	}
}

// Many elements, of which few are left or all.
func TestMinimalDisequalitiesOfManyLists(t *testing.T) {
	var apart, above [][]impl.Binding
	for i := range 1500 {
		d := substOf(bind(i%7, symbol(fmt.Sprintf("s%d", i))))
		apart = append(apart, d)
		above = append(above, append(slices.Clone(d), bind(10, number(i))), d)
	}
	want := slices.SortedFunc(slices.Values(apart), compareSubsts)
	soon(t, "MinimalDisequalities of thousands of lists", func() {
		for _, l := range [][][]impl.Binding{apart, above, slices.Repeat(apart, 3)} {
			if got := impl.MinimalDisequalities(l); !sameSubsts(got, want) {
				t.Errorf("MinimalDisequalities has %d of %d elements, want %d", len(got), len(l), len(want))
			}
		}
	})
}
