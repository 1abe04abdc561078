package tests

// Chapter 10, disequalities: P2, what they say of ground values.

import (
	"slices"
	"testing"

	"loop.example/g03210/impl"
)

// groundValues has all ways to give the variables below n values from u.
func groundValues(n int, u []impl.Term) [][]impl.Binding {
	all := [][]impl.Binding{nil}
	for v := range n {
		var longer [][]impl.Binding
		for _, l := range all {
			for _, to := range u {
				longer = append(longer, append(slices.Clone(l), bind(v, to)))
			}
		}
		all = longer
	}
	return all
}

// fulfilling returns those values for which the equations of s hold.
func fulfilling(s []impl.Binding, all [][]impl.Binding) [][]impl.Binding {
	var l [][]impl.Binding
	for _, values := range all {
		if !holdsByDefinition(s, values) {
			l = append(l, values)
		}
	}
	return l
}

// The values are ground for all variables below 4, and have parts that are values too.
func someGroundValues() [][]impl.Binding {
	return groundValues(4, terms("a (a . a) ((a . a) . a) b"))
}

func differ(t *testing.T, a impl.Term, b impl.Term, l []impl.Binding) bool {
	t.Helper()
	left, ok := impl.Instantiate(a, l)
	right, fine := impl.Instantiate(b, l)
	if !ok || !fine {
		t.Errorf("%s or %s has no instance for %s", brief(a), brief(b), briefSubst(l))
	}
	return !same(left, right)
}

// P2: of all ground values for which the equations of s hold, what is left says
// that the terms differ; with the code 1 they always do, and with 2 never.
func TestWhatIsLeftSaysThatTheTermsDiffer(t *testing.T) {
	all := someGroundValues()
	list := allTerms([]impl.Term{variable(0), variable(1), variable(3), symbol("a")}, 3)
	list = append(list, terms("(?2 ?0) ((?1 . a) . ?2) (?3 ?1 . ?0) b")...)
	counts := [3][2]int{}
	for i, s := range smallSubsts() {
		good := fulfilling(s, all)
		for j := i % 4; j < len(list); j += 4 {
			for k := (i / 4) % 5; k < len(list); k += 5 {
				a, b := list[j], list[k]
				d, code := impl.Disequality(s, a, b)
				if code > 2 {
					t.Fatalf("Disequality(%s, %s, %s) has the code %d", briefSubst(s), brief(a), brief(b), code)
				}
				for _, l := range good {
					want := differ(t, a, b, l)
					if got := impl.DisequalityHolds(d, l) || code == 1; got != want {
						t.Errorf("%s and %s under %s differ is %v for %s, but %s, %d is left", brief(a), brief(b), briefSubst(s), want, briefSubst(l), briefSubst(d), code)
					}
					counts[code][boolAsInt(want)]++
				}
			}
		}
	}
	if counts[0][0] < 1000 || counts[0][1] < 1000 || counts[1][1] < 1000 || counts[2][0] < 1000 || counts[1][0] > 0 || counts[2][1] > 0 {
		t.Errorf("the codes occur for %d values", counts)
	}
}

func boolAsInt(b bool) int {
	if b {
		return 1
	}
	return 0
}

// P2: the same for what is left of a disequality under a substitution.
func TestWhatIsLeftSaysWhatTheDisequalitySays(t *testing.T) {
	all := someGroundValues()
	lists := smallSubsts()
	counts := [3][2]int{}
	for i, s := range lists {
		good := fulfilling(s, all)
		for j := i % 3; j < len(lists); j += 3 {
			left, code := impl.NormalDisequality(s, lists[j])
			for _, l := range good {
				want := impl.DisequalityHolds(lists[j], l)
				if got := impl.DisequalityHolds(left, l) || code == 1; got != want {
					t.Errorf("%s holds is %v for %s, but %s, %d is left of it under %s", briefSubst(lists[j]), want, briefSubst(l), briefSubst(left), code, briefSubst(s))
				}
				counts[code][boolAsInt(want)]++
			}
		}
	}
	if counts[0][0] < 1000 || counts[0][1] < 1000 || counts[1][1] < 1000 || counts[2][0] < 1000 || counts[1][0] > 0 || counts[2][1] > 0 {
		t.Errorf("the codes occur for %d values", counts)
	}
}

// P2: minimal disequalities say the same as all of them.
func TestMinimalDisequalitiesSayTheSame(t *testing.T) {
	all := someGroundValues()
	lists := smallSubsts()
	hold := func(l [][]impl.Binding, values []impl.Binding) bool {
		return !slices.ContainsFunc(l, func(d []impl.Binding) bool { return !impl.DisequalityHolds(d, values) })
	}
	counts := [2]int{}
	for i := range lists {
		for _, l := range [][][]impl.Binding{{lists[i], lists[(i*5+1)%127], lists[(i*7+3)%127]}, {lists[i], lists[(i+1)%127], lists[(i+2)%127], lists[(i*3)%127], lists[(i+40)%127]}, lists[i : i+1], lists[i/2 : i]} {
			minimal := impl.MinimalDisequalities(l)
			for j := i % 3; j < len(all); j += 3 {
				want := hold(l, all[j])
				if got := hold(minimal, all[j]); got != want {
					t.Errorf("%s hold is %v for %s, but not %s", briefSubsts(l), want, briefSubst(all[j]), briefSubsts(minimal))
				}
				counts[boolAsInt(want)]++
			}
		}
	}
	if counts[0] < 5000 || counts[1] < 5000 {
		t.Errorf("the lists hold and do not hold %d times", counts)
	}
}

// P2: a more general disequality holds for fewer values.
func TestMoreGeneralDisequalitiesHoldForFewerValues(t *testing.T) {
	all := someGroundValues()
	lists := smallSubsts()
	pairs := 0
	for _, d := range lists {
		for _, e := range lists {
			if !impl.MoreGeneral(d, e) {
				continue
			}
			pairs++
			for _, l := range all {
				if impl.DisequalityHolds(d, l) && !impl.DisequalityHolds(e, l) {
					t.Errorf("%s is more general than %s, but only it holds for %s", briefSubst(d), briefSubst(e), briefSubst(l))
				}
			}
			// Only a list with more bindings has a more general one that is not equal.
			if c := impl.CompareDisequalities(d, e); c != 0 && len(d) >= len(e) {
				t.Errorf("%s is more general than %s", briefSubst(d), briefSubst(e))
			}
			checkMinimal(t, [][]impl.Binding{e, d}, d)
		}
	}
	if pairs < 300 {
		t.Errorf("only %d pairs", pairs)
	}
}

// P2: it does not matter whether a disequality is normalized under each of two
// substitutions, one after the other, or only under the second one, which has
// the effect of both.
func TestWhatIsLeftInSteps(t *testing.T) {
	lists := smallSubsts()
	counts := [3]int{}
	for i, s := range lists {
		for j, u := range lists {
			both, ok := impl.JoinSubst(s, u)
			if !ok {
				continue
			}
			d := lists[(5*i+11*j)%len(lists)]
			want, code := impl.NormalDisequality(both, d)
			counts[code]++
			first, n := impl.NormalDisequality(s, d)
			if n == 0 {
				first, n = impl.NormalDisequality(both, first)
			}
			if n != code || !sameSubst(first, want) {
				t.Errorf("%s, %d is left of %s under %s, but %s, %d in steps", briefSubst(want), code, briefSubst(d), briefSubst(both), briefSubst(first), n)
			}
			// What is left belongs to the free variables, and to no others.
			for _, b := range want {
				if boundIn(both, b.Var) || slices.ContainsFunc(varsByDefinition(b.To), func(v int) bool { return boundIn(both, v) }) {
					t.Errorf("%s is left under %s", briefSubst(want), briefSubst(both))
				}
			}
		}
	}
	if slices.Min(counts[:]) < 300 {
		t.Errorf("the codes occur %d times", counts)
	}
}

// P2: a requirement of two terms is the disequality of their solution.
func TestTermsAndSubstitutionsLeaveTheSame(t *testing.T) {
	list := allTerms([]impl.Term{variable(0), variable(1), variable(2), symbol("a")}, 3)
	for i, s := range smallSubsts() {
		for j := i % 3; j < len(list); j += 3 {
			a, b := list[j], list[(7*i+5*j)%len(list)]
			got, code := impl.Disequality(s, a, b)
			first, n := impl.Disequality(nil, a, b)
			if n == 0 {
				first, n = impl.NormalDisequality(s, first)
			}
			if n != code || !sameSubst(got, first) {
				t.Errorf("Disequality(%s, %s, %s) is %s, %d, but in steps %s, %d", briefSubst(s), brief(a), brief(b), briefSubst(got), code, briefSubst(first), n)
			}
			if code == 0 {
				l, r := sidesOf(got)
				checkLeft(t, s, listOf(l...), listOf(r...), 0, got...)
			}
			// The terms can be applied before.
			left, _ := impl.ApplySubst(s, a)
			right, _ := impl.ApplySubst(s, b)
			if again, n := impl.Disequality(s, left, right); n != code || !sameSubst(again, got) {
				t.Errorf("Disequality(%s, %s, %s) is %s, %d", briefSubst(s), brief(left), brief(right), briefSubst(again), n)
			}
		}
	}
}

// The text of what is left gives it back, and the other functions agree with it.
func TestWhatIsLeftIsASubstitution(t *testing.T) {
	lists := smallSubsts()
	looked := 0
	for i, s := range lists {
		for j, d := range lists {
			left, code := impl.NormalDisequality(s, d)
			both, ok := impl.JoinSubst(s, d)
			general := impl.MoreGeneral(d, s)
			if ok != (code == 0 || code == 2) || general != (code == 2) || ok && general != sameSubst(both, s) {
				t.Errorf("NormalDisequality(%s, %s) has the code %d", briefSubst(s), briefSubst(d), code)
			}
			if (code == 0) != (len(left) > 0) || !impl.SubstOk(left) {
				t.Errorf("NormalDisequality(%s, %s) is %s, %d", briefSubst(s), briefSubst(d), briefSubst(left), code)
			}
			if read, ok := impl.ParseSubst(impl.FormatSubst(left)); !ok || impl.CompareDisequalities(read, left) != 0 {
				t.Errorf("the text of %s is %q", briefSubst(left), impl.FormatSubst(left))
			}
			if code == 0 {
				looked++
				checkJoined(t, s, left, both...)
				checkNew(t, s, both, left...)
				checkHolds(t, left, both, false)
				checkHolds(t, left, lists[(i+j)%len(lists)], !impl.MoreGeneral(left, lists[(i+j)%len(lists)]))
			}
		}
	}
	if looked < 3000 {
		t.Errorf("something is left of only %d", looked)
	}
}

// The names of the variables matter only by their order.
func TestWhatIsLeftOfRenamedVariables(t *testing.T) {
	lists := smallSubsts()
	shift := func(s []impl.Binding, n int) []impl.Binding {
		var l []impl.Binding
		for _, b := range s {
			to, ok := impl.ShiftTerm(b.To, n)
			if !ok {
				t.Fatalf("ShiftTerm(%s, %d) fails", brief(b.To), n)
			}
			l = append(l, bind(b.Var+n, to))
		}
		return l
	}
	for _, n := range []int{1, 50, 99997} {
		for i, s := range lists {
			for j := i % 5; j < len(lists); j += 5 {
				left, code := impl.NormalDisequality(s, lists[j])
				checkNormal(t, shift(s, n), shift(lists[j], n), code, shift(left, n)...)
				checkOrder(t, shift(s, n), shift(lists[j], n), impl.CompareDisequalities(s, lists[j]))
			}
		}
	}
}
