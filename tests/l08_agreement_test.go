package tests

// Chapter 9, ground terms and universes: P1, terms, substitutions, matching and
// names agree with ground terms.

import (
	"slices"
	"testing"

	"loop.example/g03210/impl"
)

// valuesIn reports whether MatchTerm finds values for p that are all in u.
func valuesIn(p impl.Term, t impl.Term, u []impl.Term) bool {
	l, ok := impl.MatchTerm(p, t)
	return ok && !slices.ContainsFunc(l, func(b impl.Binding) bool { return !contains(u, b.To) })
}

// P1: the ground instances are exactly the ground terms that match with values
// from the universe.
func TestGroundInstancesAreThoseThatMatch(t *testing.T) {
	patterns := allTerms([]impl.Term{variable(4), variable(1), symbol("a"), symbol("b")}, 5)
	found, all := 0, 0
	for _, u := range [][]impl.Term{terms("a"), terms("a b"), terms("a (a . b)"), terms("() a (b . a) ((a . b) . b)")} {
		list := impl.GroundTerms(distinct(append(terms("a b"), u...)), 5)
		if len(list) < 20 {
			t.Errorf("GroundTerms has %d terms", len(list))
		}
		for _, p := range patterns {
			got := impl.GroundInstances(p, u)
			for _, term := range list {
				want := valuesIn(p, term, u)
				all++
				if want {
					found++
				}
				if contains(got, term) != want {
					t.Errorf("GroundInstances(%s, %s) contains %s: %v", brief(p), briefList(u), brief(term), !want)
				}
			}
			for _, term := range got {
				if !impl.IsGround(term) || !impl.IsInstance(term, p) || !valuesIn(p, term, u) {
					t.Errorf("GroundInstances(%s, %s) contains %s", brief(p), briefList(u), brief(term))
				}
			}
			checkAscending(t, got)
		}
	}
	if found < 1000 || found > all/2 {
		t.Errorf("%d of %d are ground instances", found, all)
	}
}

func checkAscending(t *testing.T, l []impl.Term) {
	t.Helper()
	for i := 1; i < len(l); i++ {
		if impl.CompareTerms(l[i-1], l[i]) != -1 {
			t.Errorf("%s comes before %s", brief(l[i-1]), brief(l[i]))
		}
	}
}

// P1: the ground instances of an instance of a term are ground instances of the
// term. Its values have to be from a universe as well; where they are not from
// the same one, those of each ground instance are one.
func TestGroundInstancesOfInstances(t *testing.T) {
	list := allTerms([]impl.Term{variable(0), variable(1), symbol("a"), symbol("b")}, 5)
	within, other := 0, 0
	u := terms("a b (a . b)")
	for _, p := range list {
		all := impl.GroundInstances(p, u)
		for _, term := range list {
			if !impl.IsInstance(term, p) {
				continue
			}
			for _, g := range impl.GroundInstances(term, u) {
				if contains(all, g) {
					within++
				} else if valuesIn(p, g, u) {
					t.Errorf("%s is an instance of %s and has the ground instance %s, which is not one of %s", brief(term), brief(p), brief(g), brief(p))
				} else {
					other++
				}
				checkOwnInstance(t, p, g)
			}
		}
	}
	if within < 1000 || other < 1000 {
		t.Errorf("%d ground instances with values from the universe and %d with other ones", within, other)
	}
}

// checkOwnInstance looks whether g is one of the ground instances of p for the
// universe of the values with which it is made, and so for larger ones.
func checkOwnInstance(t *testing.T, p impl.Term, g impl.Term) {
	t.Helper()
	l, ok := impl.MatchTerm(p, g)
	if !ok || !impl.IsGround(g) {
		t.Errorf("%s is no ground instance of %s", brief(g), brief(p))
	}
	u := terms("a")
	for _, b := range l {
		u = append(u, b.To)
	}
	if u = distinct(u); !impl.UniverseOk(u) || !contains(impl.GroundInstances(p, u), g) {
		t.Errorf("%s is no ground instance of %s for %s", brief(g), brief(p), briefList(u))
	}
}

// P1: an instance with values that are variables or from the universe has no
// other ground instances, whatever the names of the variables are.
func TestGroundInstancesUnderValues(t *testing.T) {
	u := terms("a 1 (b)")
	by := append([]impl.Term{variable(0), variable(1), variable(9)}, u...)
	list := append(allTerms([]impl.Term{variable(0), variable(1), symbol("c")}, 5), terms("(?0 ?1 ?2 ?3) ((?2 . ?0) (?1) . ?2)")...)
	for i, l := range allBindingLists([]int{0, 1, 2, 3}, by) {
		for j := i % 23; j < len(list); j += 23 {
			p := list[j]
			term, ok := impl.Instantiate(p, l)
			if !ok {
				t.Errorf("Instantiate(%s, %s) fails", brief(p), briefSubst(l))
			}
			all := impl.GroundInstances(p, u)
			some := impl.GroundInstances(term, u)
			if len(some) == 0 || len(some) > len(all) {
				t.Errorf("%s has %d ground instances, and %s %d", brief(term), len(some), brief(p), len(all))
			}
			for _, g := range some {
				if !contains(all, g) {
					t.Errorf("%s is a ground instance of %s, but not of %s", brief(g), brief(term), brief(p))
				}
			}
			if impl.IsVariant(p, term) && !sameTerms(some, all) {
				t.Errorf("the variants %s and %s have other ground instances", brief(p), brief(term))
			}
		}
	}
}

// P1: applying a substitution with terms from the universe leaves those ground
// instances in which the variables have these values.
func TestGroundInstancesUnderSubstitutions(t *testing.T) {
	u := terms("a b (a)")
	list := allTerms([]impl.Term{variable(0), variable(2), variable(5), symbol("a")}, 5)
	substs := allBindingLists([]int{0, 2, 5}, u)
	for i, s := range substs {
		for j := i % 3; j < len(list); j += 3 {
			p := list[j]
			term, ok := impl.ApplySubst(s, p)
			if !ok {
				t.Errorf("ApplySubst(%s, %s) fails", briefSubst(s), brief(p))
			}
			want := slices.DeleteFunc(impl.GroundInstances(p, u), func(g impl.Term) bool { return !keeps(s, p, g) })
			checkInstances(t, term, u, want)
		}
	}
}

// keeps reports whether the ground instance g of p has the terms that s gives
// to the variables of p.
func keeps(s []impl.Binding, p impl.Term, g impl.Term) bool {
	l, _ := impl.MatchTerm(p, g)
	return !slices.ContainsFunc(l, func(b impl.Binding) bool {
		return boundIn(s, b.Var) && !same(applyByDefinition(s, variable(b.Var)), b.To)
	})
}

// P1: the names of the variables do not matter.
func TestGroundInstancesOfRenamedTerms(t *testing.T) {
	u := terms("a (b . a)")
	for i, p := range allTerms([]impl.Term{variable(3), variable(0), variable(1), symbol("b")}, 5) {
		want := impl.GroundInstances(p, u)
		shifted, ok := impl.ShiftTerm(p, 99997-i)
		if !ok {
			t.Errorf("ShiftTerm(%s, %d) fails", brief(p), 99997-i)
		}
		checkInstances(t, shifted, u, want)
		checkInstances(t, namedAlone(p), u, want)
		read, _ := impl.ParseTerm(impl.FormatTerm(p))
		checkInstances(t, read, u, want)
		bound := impl.VarBound([]impl.Term{p})
		if impl.IsGround(p) != (bound == 0) || impl.IsGround(p) != (len(impl.TermVars(p)) == 0) {
			t.Errorf("IsGround(%s) is %v, and VarBound %d", brief(p), impl.IsGround(p), bound)
		}
	}
}

// P1: two terms that have no variables in common have exactly those ground
// instances in common that their unifier has, where the values are from the universe.
func TestGroundInstancesOfUnifiers(t *testing.T) {
	u := terms("a b")
	left := allTerms([]impl.Term{variable(0), variable(1), symbol("a")}, 5)
	right := allTerms([]impl.Term{variable(2), variable(3), symbol("b")}, 5)
	common, none := 0, 0
	for _, a := range left {
		for _, b := range right {
			var want []impl.Term
			for _, g := range impl.GroundInstances(a, u) {
				if contains(impl.GroundInstances(b, u), g) {
					want = append(want, g)
				}
			}
			s, ok := impl.Unify(nil, a, b)
			if !ok {
				none++
				if len(want) > 0 {
					t.Errorf("%s and %s have %s in common, but no unifier", brief(a), brief(b), briefList(want))
				}
				continue
			}
			common++
			both, _ := impl.ApplySubst(s, a)
			got := slices.DeleteFunc(impl.GroundInstances(both, u), func(g impl.Term) bool { return !valuesIn(a, g, u) || !valuesIn(b, g, u) })
			if !sameTerms(got, want) {
				t.Errorf("%s and %s have %s in common, but their unifier gives %s", brief(a), brief(b), briefList(want), briefList(got))
			}
		}
	}
	if common < 500 || none < 500 {
		t.Errorf("%d pairs have a unifier and %d have none", common, none)
	}
}

// P1: terms are ground instances of their generalization for the universe of their parts.
func TestGroundInstancesOfGeneralizations(t *testing.T) {
	list := impl.GroundTerms(terms("a b"), 5)
	looked := 0
	for i, a := range list {
		for j, b := range list {
			l := []impl.Term{a, b, list[(i+7*j)%len(list)]}
			g, ok := impl.Generalize(l)
			u := impl.SubtermsOf(l)
			if len(u) > 8 {
				continue
			}
			looked++
			if !ok || !impl.UniverseOk(u) {
				t.Errorf("the parts of %s are %s, and the generalization is %s", briefList(l), briefList(u), brief(g))
			}
			all := impl.GroundInstances(g, u)
			for _, term := range l {
				if !contains(all, term) {
					t.Errorf("%s is no ground instance of %s for %s", brief(term), brief(g), briefList(u))
				}
			}
		}
	}
	if looked < 100 {
		t.Errorf("only %d lists have few parts", looked)
	}
}

// Parts of parts are parts, and parts of ground terms are ground. What is built
// from atoms without pairs among them has no other parts.
func TestSubtermsOfGroundTerms(t *testing.T) {
	for _, u := range smallUniverses() {
		for _, size := range []int{1, 3, 5} {
			if len(u) > 6 && size == 5 {
				continue
			}
			l := impl.GroundTerms(u, size)
			checkAscending(t, l)
			parts := impl.SubtermsOf(l)
			checkAscending(t, parts)
			checkSubterms(t, parts, parts)
			for _, term := range append(slices.Clone(u), l...) {
				if !contains(parts, term) || !impl.IsGround(term) {
					t.Errorf("%s is no part, or not ground", brief(term))
				}
			}
			if !slices.ContainsFunc(u, func(a impl.Term) bool { return a.Kind == impl.KPair }) && !sameTerms(parts, l) {
				t.Errorf("GroundTerms(%s, %d) has other parts", briefList(u), size)
			}
			if impl.UniverseOk(l) != (len(l) <= 8) || impl.UniverseOk(parts) != (len(parts) <= 8) {
				t.Errorf("UniverseOk of %d terms and %d parts", len(l), len(parts))
			}
		}
	}
}

// The terms of size 3 and 5 are the ground instances of the pairs of variables.
func TestGroundTermsAreGroundInstances(t *testing.T) {
	for _, u := range smallUniverses() {
		three := append(slices.Clone(u), impl.GroundInstances(term("(?0 . ?1)"), u)...)
		checkBuilt(t, u, 3, distinct(three))
		if len(u) > 6 {
			continue
		}
		five := append(three, impl.GroundInstances(term("(?0 ?1 . ?2)"), u)...)
		checkBuilt(t, u, 5, distinct(append(five, impl.GroundInstances(term("((?0 . ?1) . ?2)"), u)...)))
	}
}

// All parts of a term are what its variables can be replaced by.
func TestSubtermsAgreeWithTerms(t *testing.T) {
	for i, a := range smallTerms() {
		v := 3 + i%5
		whole, ok := impl.ReplaceVar(pair(variable(v), pair(symbol("z"), variable(v))), v, a)
		if !ok {
			t.Errorf("ReplaceVar by %s fails", brief(a))
		}
		parts := impl.SubtermsOf([]impl.Term{whole})
		for _, part := range impl.SubtermsOf([]impl.Term{a}) {
			if !contains(parts, part) {
				t.Errorf("%s is a part of %s, but not of %s", brief(part), brief(a), brief(whole))
			}
		}
		var vars []int
		for _, part := range parts {
			if part.Kind == impl.KVar {
				vars = append(vars, part.Int)
			}
		}
		if !slices.Equal(vars, impl.TermVars(whole)) {
			t.Errorf("the parts of %s have the variables %d", brief(whole), vars)
		}
		items, tail := impl.ItemsOf(a)
		for _, item := range append(items, tail) {
			if !contains(parts, item) {
				t.Errorf("%s is no part of %s", brief(item), brief(a))
			}
		}
	}
}
