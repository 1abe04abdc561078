package tests

// Chapter 10, disequalities: P9 for NormalDisequality.

import (
	"slices"
	"testing"

	"loop.example/g03210/impl"
)

func TestNormalDisequality(t *testing.T) {
	for _, c := range [][3]string{
		// No variable in common.
		{"", "?0 a", "?0 a"}, {"", "?1 a ?3 ?2 ?4 (b ?2)", "?1 a ?3 ?2 ?4 (b ?2)"}, {"?1 a", "?0 b", "?0 b"}, {"?5 a", "?100000 (?0)", "?100000 (?0)"},
		// Some bindings are in s already.
		{"?1 a", "?1 a ?2 b", "?2 b"}, {"?2 b", "?1 a ?2 b", "?1 a"}, {"?1 a ?2 b ?3 c", "?2 b ?4 d", "?4 d"}, {"?1 (?0) ?3 a", "?1 (?0) ?2 ?0 ?3 a", "?2 ?0"}, {"?1 a ?2 b", "?0 c ?1 a ?2 b ?3 d", "?0 c ?3 d"},
		// Bindings that join into new ones.
		{"?1 ?0", "?1 a", "?0 a"}, {"?1 (?0 b)", "?1 (a ?2)", "?0 a ?2 b"}, {"?1 (?0 ?2)", "?1 (?2 ?3)", "?2 ?0 ?3 ?0"}, {"?5 (?0 . ?1) ?6 ?1", "?5 (a b) ?6 (b)", "?0 a ?1 (b)"},
		// Variables of the terms are bound by the other list.
		{"?2 ?1", "?1 ?0", "?1 ?0"}, {"?1 ?0", "?2 ?1", "?2 ?0"}, {"?2 ?1", "?2 ?0", "?1 ?0"}, {"?2 ?0", "?2 ?1", "?1 ?0"}, {"?2 ?1", "?1 a", "?1 a"}, {"?1 a", "?2 ?1", "?2 a"}, {"?1 a", "?2 (?1 b)", "?2 (a b)"}, {"?1 (?2)", "?2 a", "?2 a"},
		{"?1 ?0 ?3 ?2", "?2 ?1", "?2 ?0"}, {"?1 ?0 ?3 ?2", "?3 ?1", "?2 ?0"}, {"?0 (?1)", "?1 (?2)", "?1 (?2)"}, {"?1 (?2)", "?0 (?1)", "?0 ((?2))"}, {"?0 (?1) ?2 (?3)", "?1 (?2 ?4) ?3 a", "?1 ((a) ?4) ?3 a"},
		// The variables change places, so that the least one stands for the others.
		{"?2 ?1", "?3 ?2", "?3 ?1"}, {"?3 ?1", "?3 ?2", "?2 ?1"}, {"?4 ?3", "?4 ?0", "?3 ?0"}, {"?4 ?0", "?4 ?3", "?3 ?0"},
	} {
		checkNormal(t, subst(c[0]), subst(c[1]), 0, subst(c[2])...)
	}
}

func TestNormalDisequalityThatHoldsAlready(t *testing.T) {
	for _, c := range [][2]string{
		// Contradictions.
		{"?1 a", "?1 b"}, {"?1 a", "?1 ()"}, {"?1 1", "?1 2"}, {"?1 a", "?1 (a)"}, {"?1 (a ?0)", "?1 (b ?0)"}, {"?1 (?0 ?0)", "?1 (a b)"}, {"?2 ?1", "?1 a ?2 b"}, {"?1 a ?2 b", "?2 ?1"}, {"?1 ?0 ?2 ?0", "?1 a ?2 b"},
		// Only one of several bindings contradicts.
		{"?0 a ?1 b ?2 c", "?0 a ?1 b ?2 d"}, {"?0 a ?1 b ?2 c", "?0 b ?1 b ?2 c"}, {"?1 b", "?0 a ?1 c ?2 d"}, {"?0 a ?1 b", "?1 c ?7 d"},
		// A variable would have to contain itself.
		{"?0 (?1)", "?1 (?0)"}, {"?1 ?0", "?0 (?1)"}, {"?0 (?1) ?2 (?3)", "?1 (?2) ?3 (?0)"}, {"?0 (?1)", "?0 (?2) ?1 (?2)"}, {"?3 ?1", "?1 (?3)"},
	} {
		checkNormal(t, subst(c[0]), subst(c[1]), 1)
		checkNormal(t, subst(c[1]), subst(c[0]), 1)
	}
}

func TestNormalDisequalityThatCannotHold(t *testing.T) {
	for name, s := range goodSubsts() {
		if name == "the largest list" {
			continue // TestNormalDisequalityUpToMaxBindings has it
		}
		checkNothingNormal(t, name, s, nil, 2)
		checkNothingNormal(t, name, s, []impl.Binding{}, 2)
		checkNothingNormal(t, name, s, s, 2)
		checkNothingNormal(t, name, s, s[:len(s)/2], 2)
		checkNothingNormal(t, name, s, s[len(s)/2:], 2)
		if len(s) < 100 {
			for i := range s {
				checkNormal(t, s, s[i:i+1], 2)
			}
		}
	}
	for _, c := range [][2]string{
		{"?1 a ?2 a", "?2 a"}, {"?1 a ?3 ?2", "?3 ?2"}, {"?2 ?1 ?3 ?1", "?3 ?2"}, {"?1 a ?2 a", "?2 ?1"}, {"?0 b ?1 (b)", "?1 (?0)"}, {"?1 (a b) ?4 (b) ?5 a", "?1 (?5 . ?4)"}, {"?0 (?2) ?1 (?2)", "?1 ?0"},
	} {
		checkNormal(t, subst(c[0]), subst(c[1]), 2)
	}
}

// Under a part of a list, the rest of it is left.
func TestNormalDisequalityUnderAPart(t *testing.T) {
	for _, s := range goodSubsts() {
		for i := range s[:min(len(s), 3)] {
			rest := slices.Concat(s[:i], s[i+1:])
			if len(s) > 1 && len(s) < 100 {
				checkNormal(t, s[i:i+1], s, 0, rest...)
				checkNormal(t, rest, s, 0, s[i])
			}
		}
	}
}

func TestNormalDisequalityUpToMaxBindings(t *testing.T) {
	a, x := symbol("a"), variable(0)
	for _, n := range []int{1, 200, 399} {
		first, second := manyBindings(1, n, x), manyBindings(1000, 400-n, a)
		checkNormal(t, first, second, 0, second...)
		checkNormal(t, second, first, 0, first...)
		checkNormal(t, first, append(second, bind(2000, a)), 1)
		checkNormal(t, append(second, bind(2000, a)), first, 1)
	}
	whole := manyBindings(1, 400, a)
	checkNormal(t, nil, whole, 0, whole...)
	checkNormal(t, whole, nil, 2)
	checkNormal(t, whole, whole, 2)
	checkNormal(t, whole, whole[399:], 2)
	checkNormal(t, whole[:399], whole, 0, whole[399:]...)
	checkNormal(t, whole, substOf(bind(500, a)), 1)
	checkNormal(t, substOf(bind(500, a)), whole, 1)
	checkNormal(t, whole[:250], manyBindings(151, 250, a), 0, manyBindings(251, 150, a)...)
	checkNormal(t, whole[:250], manyBindings(152, 250, a), 1)
	checkNormal(t, manyBindings(1, 400, x), whole, 1)
	checkNormal(t, manyBindings(1, 399, x), whole[:399], 0, bind(0, a))
	checkNormal(t, whole[:399], manyBindings(1, 399, x), 0, bind(0, a))
	largest := largestSubst()
	soon(t, "NormalDisequality of the largest substitution", func() {
		checkNothingNormal(t, "the same", largest, largest, 2)
		checkNothingNormal(t, "one binding more", largest, substOf(bind(0, a)), 1)
		if got, code := impl.NormalDisequality(nil, largest); code != 0 || !sameSubst(got, largest) {
			t.Errorf("NormalDisequality of the largest substitution is %s, %d", briefSubst(got), code)
		}
	})
}

func TestNormalDisequalityUpToMaxTerm(t *testing.T) {
	x, y := variable(0), variable(1)
	half, more := balanced(2499, y), balanced(2501, y)
	checkNormal(t, substOf(bind(2, pair(x, x))), substOf(bind(0, half)), 0, bind(0, half))
	checkNormal(t, substOf(bind(0, half)), substOf(bind(2, pair(x, x))), 0, bind(2, pair(half, half)))
	checkNormal(t, substOf(bind(2, pair(x, x))), substOf(bind(0, more)), 1)
	checkNormal(t, substOf(bind(0, more)), substOf(bind(2, pair(x, x))), 1)
	checkNormal(t, substOf(bind(2, balanced(4999, x))), substOf(bind(2, balanced(4999, y))), 0, bind(1, x))
	checkNormal(t, substOf(bind(2, balanced(4999, y))), substOf(bind(2, balanced(4999, x))), 0, bind(1, x))
	checkNormal(t, substOf(bind(2, balanced(4999, y))), substOf(bind(2, balanced(4997, x))), 1)
	soon(t, "NormalDisequality of chains", func() {
		for _, n := range []int{5, 6, 20, 190} {
			// Each list is a substitution, and both together are a chain.
			var s, d []impl.Binding
			for i := 0; i < 2*n; i += 2 {
				s = append(s, bind(i, pair(variable(i+1), variable(i+1))))
				d = append(d, bind(i+1, pair(variable(i+2), variable(i+2))))
			}
			got, code := impl.NormalDisequality(s, d)
			if n > 5 && (code != 1 || len(got) > 0) || n <= 5 && (code != 0 || len(got) != n) {
				t.Errorf("NormalDisequality of two chains of %d has %d bindings and the code %d", n, len(got), code)
			}
		}
	})
}

func TestNormalDisequalityRefuses(t *testing.T) {
	a := symbol("a")
	for name, bad := range badSubsts() {
		for _, s := range [][]impl.Binding{nil, {bind(7, a)}, {bind(0, a), bind(1, a), bind(2, a), bind(3, a)}, {bind(1, number(3))}, bad, {bind(1, symbol("B"))}} {
			checkNothingNormal(t, name, bad, s, 3)
			checkNothingNormal(t, name, s, bad, 3)
		}
	}
	// A list of values is no substitution.
	checkNothingNormal(t, "a variable for a greater one", nil, values("?0 ?1"), 3)
	checkNothingNormal(t, "the same under the values", values("?1 ?1"), nil, 3)
}

func TestNormalDisequalityOfAllSmallSubsts(t *testing.T) {
	lists := smallSubsts()
	counts := [3]int{}
	for _, s := range lists {
		for _, d := range lists {
			l, r := sidesOf(d)
			want, code := leftByDefinition(s, l, r)
			counts[code]++
			checkNormal(t, s, d, code, want...)
		}
	}
	if slices.Min(counts[:]) < 500 {
		t.Errorf("the codes occur %d times", counts)
	}
}
