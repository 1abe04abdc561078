package tests

// Chapter 10, disequalities: P9 for DisequalityHolds.

import (
	"slices"
	"testing"

	"loop.example/g03210/impl"
)

func TestDisequalityHolds(t *testing.T) {
	for _, c := range [][2]string{
		{"?0 a", "?0 b"}, {"?0 a", "?0 ()"}, {"?0 1", "?0 2"}, {"?0 (a)", "?0 (a a)"}, {"?0 (a)", "?0 a"}, {"?100000 a", "?100000 b"}, {"?1 ?0", "?0 a ?1 b"}, {"?1 (?0)", "?0 a ?1 (b)"}, {"?2 (?0 ?1)", "?0 a ?1 b ?2 (a c)"},
		// The first of several bindings, the last, one between, or all.
		{"?0 a ?1 b", "?0 b ?1 b"}, {"?0 a ?1 b", "?0 a ?1 a"}, {"?0 a ?1 b ?2 c", "?0 a ?1 a ?2 c"}, {"?0 a ?1 b ?2 c", "?0 c ?1 a ?2 b"}, {"?0 a ?1 b ?2 c ?3 d", "?0 a ?1 b ?2 c ?3 c"},
		// Values that leave variables, and values for only some variables.
		{"?0 a", ""}, {"?0 a", "?1 a"}, {"?0 a", "?0 ?1"}, {"?0 a", "?0 ?0"}, {"?0 (?1)", "?0 (a)"}, {"?0 (?1)", "?1 a"}, {"?0 (?1)", "?0 (?2)"}, {"?1 ?0", ""}, {"?1 ?0", "?0 a"}, {"?1 ?0", "?1 a"}, {"?1 ?0", "?0 ?2 ?1 ?3"}, {"?0 a ?1 b", "?0 a"}, {"?0 a ?1 b", "?1 b"},
		// All values at the same time.
		{"?1 ?0", "?0 ?1 ?1 ?0"}, {"?1 ?0", "?0 ?1 ?1 ?2 ?2 ?1"}, {"?0 (?1)", "?0 (?1) ?1 ?2"}, {"?2 (?0)", "?0 ?2 ?2 (?0)"},
	} {
		checkHolds(t, subst(c[0]), values(c[1]), true)
	}
	for _, c := range [][2]string{
		{"?0 a", "?0 a"}, {"?0 ()", "?0 ()"}, {"?0 -7", "?0 -7"}, {"?0 (a . b)", "?0 (a . b)"}, {"?100000 a", "?100000 a"}, {"?1 ?0", "?0 a ?1 a"}, {"?1 (?0)", "?0 a ?1 (a)"}, {"?2 (?0 ?1)", "?0 a ?1 b ?2 (a b)"}, {"?0 a ?1 b", "?0 a ?1 b"}, {"?0 a ?1 b ?2 c", "?0 a ?1 b ?2 c ?3 d"},
		// Values that leave variables, and values for only some variables.
		{"?1 ?0", "?1 ?0"}, {"?1 ?0", "?0 ?1"}, {"?1 ?0", "?0 ?7 ?1 ?7"}, {"?1 ?0", "?0 (?0) ?1 (?0)"}, {"?0 (?1)", "?0 (?1)"}, {"?0 (?1)", "?0 (?2) ?1 ?2"}, {"?2 ?0 ?3 ?1", "?2 ?0 ?3 ?1"}, {"?5 (?3 ?4)", "?3 a ?5 (a ?4)"},
		// All values at the same time.
		{"?1 ?0", "?0 ?2 ?1 ?2 ?2 a"}, {"?0 (?1)", "?0 (?2) ?1 ?2 ?2 a"}, {"?0 (?1)", "?0 (?0) ?1 ?0"},
		// The empty disequality.
		{"", ""}, {"", "?0 a"}, {"", "?0 ?1 ?1 ?0"},
	} {
		checkHolds(t, subst(c[0]), values(c[1]), false)
	}
}

func TestDisequalityHoldsForItsOwnTerms(t *testing.T) {
	for name, d := range goodSubsts() {
		if name == "the largest list" {
			continue // TestDisequalityHoldsUpToTheLimits has it
		}
		checkHolds(t, d, nil, len(d) > 0)
		checkHolds(t, d, []impl.Binding{}, len(d) > 0)
		checkHolds(t, d, d, false)
		checkHolds(t, nil, d, false)
		if len(d) > 0 {
			checkHolds(t, d, d[1:], true)
			checkHolds(t, d, append(slices.Clone(d[:len(d)-1]), bind(d[len(d)-1].Var, symbol("zz"))), true)
			checkHolds(t, d[:1], d, false)
		}
	}
}

// A binding of which a side becomes too large does not count.
func TestDisequalityHoldsUpToTheLimits(t *testing.T) {
	a, b, x, y := symbol("a"), symbol("b"), variable(0), variable(1)
	half, more := balanced(2499, a), balanced(2501, a)
	two := substOf(bind(9, pair(x, x)))
	checkHolds(t, two, substOf(bind(0, half)), true)
	checkHolds(t, two, substOf(bind(0, half), bind(9, pair(half, half))), false)
	checkHolds(t, two, substOf(bind(0, half), bind(9, pair(half, balanced(2499, b)))), true)
	checkHolds(t, two, substOf(bind(0, more)), false)
	checkHolds(t, two, substOf(bind(0, more), bind(9, a)), false)
	checkHolds(t, two, substOf(bind(0, more), bind(9, balanced(4999, a))), false)
	// The others count, before it and behind it.
	checkHolds(t, append(substOf(bind(3, a)), two...), substOf(bind(0, more), bind(3, b)), true)
	checkHolds(t, append(substOf(bind(3, a)), two...), substOf(bind(0, more), bind(3, a)), false)
	checkHolds(t, append(two, bind(10, y)), substOf(bind(0, more), bind(1, a), bind(10, b)), true)
	checkHolds(t, append(two, bind(10, y)), substOf(bind(0, more), bind(1, a), bind(10, a)), false)
	checkHolds(t, append(two, bind(10, pair(y, y))), substOf(bind(0, more), bind(1, more)), false)
	checkHolds(t, append(two, bind(10, pair(y, y))), substOf(bind(0, more), bind(1, half)), true)
	// The values themselves can be as large as terms are.
	large := balanced(4999, a)
	checkHolds(t, substOf(bind(1, x)), substOf(bind(0, large), bind(1, large)), false)
	checkHolds(t, substOf(bind(1, x)), substOf(bind(0, large), bind(1, balanced(4999, b))), true)
	checkHolds(t, substOf(bind(1, large)), substOf(bind(1, large)), false)
	checkHolds(t, substOf(bind(1, balanced(4999, x))), substOf(bind(0, b)), true)
	checkHolds(t, substOf(bind(1, balanced(4999, x))), substOf(bind(0, pair(b, b))), false)
	checkHolds(t, substOf(bind(1, balanced(4999, x))), substOf(bind(0, a), bind(1, large)), false)
	for _, left := range []bool{false, true} {
		deep := substOf(bind(5, pairs(2498, left, a, x)))
		checkHolds(t, deep, substOf(bind(0, pair(a, b)), bind(5, pairs(2498, left, a, pair(a, b)))), false)
		checkHolds(t, deep, substOf(bind(0, pair(a, b)), bind(5, pairs(2498, left, a, pair(a, a)))), true)
		checkHolds(t, deep, substOf(bind(0, pair(a, pair(a, b)))), false)
	}
	many := manyBindings(1, 400, x)
	checkHolds(t, many, many, false)
	checkHolds(t, many, manyBindings(1, 399, x), true)
	checkHolds(t, many, manyBindings(0, 400, a), true)
	checkHolds(t, many[:399], manyBindings(0, 400, a), false)
	checkHolds(t, many[:399], append(manyBindings(0, 399, a), bind(399, b)), true)
	largest := largestSubst()
	soon(t, "DisequalityHolds of the largest substitution", func() {
		checkHolds(t, largest, largest, false)
		checkHolds(t, largest, largest[:399], true)
		checkHolds(t, largest, substOf(bind(0, pair(a, a))), false)
	})
}

func TestDisequalityHoldsRefuses(t *testing.T) {
	a := symbol("a")
	for name, bad := range badSubsts() {
		for _, l := range [][]impl.Binding{nil, {bind(0, a)}, {bind(1, a)}, {bind(0, symbol("b")), bind(1, number(1)), bind(2, empty()), bind(3, number(7))}, values("?0 ?1 ?1 ?0"), bad} {
			if impl.DisequalityHolds(bad, l) {
				t.Errorf("%s: DisequalityHolds is true", name)
			}
		}
	}
	for name, bad := range badBindings() {
		for _, d := range [][]impl.Binding{nil, {bind(0, a)}, {bind(1, a)}, {bind(1, symbol("b")), bind(2, symbol("b")), bind(3, symbol("b"))}, {bind(7, variable(5))}, values("?0 ?1")} {
			if impl.DisequalityHolds(d, bad) {
				t.Errorf("values, %s: DisequalityHolds is true", name)
			}
		}
	}
	// Values need not be a substitution.
	for name, l := range goodValues() {
		if len(l) < 400 && !impl.DisequalityHolds(subst("?98 a"), l) {
			t.Errorf("values, %s: DisequalityHolds is false", name)
		}
	}
}

func TestDisequalityHoldsForAllSmallValues(t *testing.T) {
	by := terms("a ?0 ?1 (a . a) (?0 . a)")
	yes, no := 0, 0
	lists := allBindingLists([]int{0, 1, 2, 3}, by)
	for i, d := range smallSubsts() {
		for j := i % 3; j < len(lists); j += 3 {
			want := holdsByDefinition(d, lists[j])
			checkHolds(t, d, lists[j], want)
			if want {
				yes++
			} else {
				no++
			}
		}
	}
	if yes < 1000 || no < 1000 {
		t.Errorf("%d hold and %d do not", yes, no)
	}
}
