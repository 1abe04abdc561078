package tests

// Chapter 8, canonical names: P1, variants, generalizations, substitutions and
// texts agree with the names.

import (
	"slices"
	"testing"

	"loop.example/g03210/impl"
)

// namedAlone returns the canonical form of one term.
func namedAlone(t impl.Term) impl.Term {
	l := impl.Canonical([]impl.Term{t})
	if len(l) != 1 {
		panic("no canonical form")
	}
	return l[0]
}

// P1: terms are variants exactly if their canonical forms are equal.
func TestVariantsHaveEqualCanonicalForms(t *testing.T) {
	list := allTerms([]impl.Term{variable(1), variable(0), variable(2), symbol("a")}, 5)
	list = append(list, allTerms([]impl.Term{variable(100000), variable(0)}, 7)...)
	variants := 0
	for _, a := range list {
		for _, b := range list {
			want := same(namedAlone(a), namedAlone(b))
			if want {
				variants++
			}
			if got := impl.IsVariant(a, b); got != want {
				t.Errorf("IsVariant(%s, %s) is %v, and the canonical forms are %s and %s", brief(a), brief(b), got, brief(namedAlone(a)), brief(namedAlone(b)))
			}
		}
	}
	if all := len(list) * len(list); variants < 2*len(list) || variants > all/2 {
		t.Errorf("%d of %d are variants", variants, all)
	}
}

// The same for lists, whose terms share variables, by the terms of these lists.
func TestVariantListsHaveEqualCanonicalForms(t *testing.T) {
	lists := smallLists()
	var whole []impl.Term
	var named [][]impl.Term
	for _, l := range lists {
		whole, named = append(whole, listOf(l...)), append(named, impl.Canonical(l))
	}
	for i := range lists {
		for j := i % 5; j < len(lists); j += 5 {
			want := impl.IsVariant(whole[i], whole[j])
			if got := sameTerms(named[i], named[j]); got != want {
				t.Errorf("equal canonical forms of %s and %s: %v", briefList(lists[i]), briefList(lists[j]), got)
			}
		}
		checkSameNames(t, named[i], namedAlone(whole[i]))
	}
}

func checkSameNames(t *testing.T, l []impl.Term, list impl.Term) {
	t.Helper()
	if want, _ := impl.ItemsOf(list); !sameTerms(l, want) {
		t.Errorf("the terms are %s, but those of the list %s", briefList(l), briefList(want))
	}
}

// P1 for large terms, also with as many variables as values can have.
func TestLargeVariantsHaveEqualCanonicalForms(t *testing.T) {
	for _, n := range []int{1, 2, 40, 399, 400} {
		upwards, far, mixed := variables(0, n), variables(50000, n), variables(n, n)
		slices.Reverse(mixed)
		for _, l := range [][]impl.Term{upwards, far, mixed} {
			a := listOf(append(l, l...)...)
			checkVariant(t, a, spacedOut(0, n), true)
			checkCanonical(t, []impl.Term{a}, []impl.Term{spacedOut(0, n)})
			other := slices.Clone(l)
			other[n-1] = symbol("a")
			if b := listOf(append(l, other...)...); same(namedAlone(b), spacedOut(0, n)) || impl.IsVariant(a, b) {
				t.Errorf("%d variables, one of them not again: these are variants", n)
			}
		}
	}
	// More variables still have names.
	for _, n := range []int{401, 1249} {
		shifted, ok := impl.ShiftTerm(spacedOut(0, n), 777)
		if !ok || !same(namedAlone(shifted), namedAlone(spacedOut(0, n))) || !same(namedAlone(shifted), spacedOut(0, n)) {
			t.Errorf("%d variables: the canonical forms differ", n)
		}
	}
}

// P1: the generalization is its own canonical form, whatever the order and the
// names of the variables of each element are.
func TestGeneralizationsAreCanonical(t *testing.T) {
	list := allTerms([]impl.Term{variable(3), variable(1), symbol("a")}, 5)
	list = append(list, terms("(?9 ?4 ?9 (b) ?0) (?4 ?4 ?4 (c) ?0) (b a . ?7) (?5 (?6 ?5))")...)
	for i, a := range list {
		checkGeneral(t, []impl.Term{a}, namedAlone(a))
		for j, b := range list {
			if (i+j)%3 == 0 {
				checkCanonicalGeneral(t, a, b, list[(7*i+j)%len(list)])
			}
		}
	}
}

func checkCanonicalGeneral(t *testing.T, a impl.Term, b impl.Term, c impl.Term) {
	t.Helper()
	g, ok := impl.Generalize([]impl.Term{a, b, c})
	if !ok || !same(namedAlone(g), g) {
		t.Errorf("Generalize(%s, %s, %s) is %s, %v", brief(a), brief(b), brief(c), brief(g), ok)
	}
	shifted, _ := impl.ShiftTerm(b, 11)
	l := []impl.Term{namedAlone(a), shifted, c}
	for _, order := range orders(3) {
		checkGeneral(t, []impl.Term{l[order[0]], l[order[1]], l[order[2]]}, g)
	}
}

// P1: the generalization is more general than its terms and less than any other
// one; one that is as little general has the same canonical form.
func TestLeastGeneralTermsHaveOneCanonicalForm(t *testing.T) {
	list := append(allTerms([]impl.Term{variable(2), symbol("a")}, 5), terms("(?5 ?1) (?1 ?5 ?1) ((a) (a)) (b a b)")...)
	others := allTerms([]impl.Term{variable(2), variable(0), variable(1), symbol("a")}, 5)
	found := 0
	for i, a := range list {
		for j, b := range list[:i+1] {
			l := []impl.Term{a, b, list[(5*i+j)%len(list)]}
			g, _ := impl.Generalize(l)
			for _, other := range others {
				if slices.ContainsFunc(l, func(t impl.Term) bool { return !impl.IsInstance(t, other) }) {
					continue
				}
				if least := impl.IsInstance(other, g); least != same(namedAlone(other), g) {
					t.Errorf("%s has the canonical form %s, and %s is the generalization of %s", brief(other), brief(namedAlone(other)), brief(g), briefList(l))
				} else if least {
					found++
				}
				if !impl.IsInstance(g, other) {
					t.Errorf("%s is no instance of %s", brief(g), brief(other))
				}
			}
		}
	}
	if found < 500 {
		t.Errorf("only %d terms are as little general", found)
	}
}

// The functions that look at variables agree with each other, and with values
// that give the variables their new names, and back.
func TestNamesAgreeWithEachOther(t *testing.T) {
	for _, l := range smallLists() {
		vars := impl.OrderedVars(l)
		sorted := slices.Clone(vars)
		slices.Sort(sorted)
		if want := impl.TermVars(listOf(l...)); !slices.Equal(sorted, want) {
			t.Errorf("OrderedVars(%s) is %d, and TermVars %d", briefList(l), vars, want)
		}
		if bound := impl.VarBound(l); len(vars) > 0 && bound != sorted[len(vars)-1]+1 || len(vars) == 0 && bound != 0 {
			t.Errorf("VarBound(%s) is %d, and OrderedVars %d", briefList(l), bound, vars)
		}
		var there, back []impl.Binding
		for i, v := range vars {
			there, back = append(there, bind(v, variable(i))), append(back, bind(i, variable(v)))
		}
		slices.SortFunc(there, func(a impl.Binding, b impl.Binding) int { return a.Var - b.Var })
		named := impl.Canonical(l)
		for i := range l {
			checkInstance(t, l[i], there, named[i])
			checkInstance(t, named[i], back, l[i])
		}
		checkBound(t, named, len(vars))
		var indices []int
		for i := range vars {
			indices = append(indices, i)
		}
		checkOrdered(t, named, indices)
	}
}

// Variables that are shifted or exchanged have the same names, in the same order.
func TestNamesOfRenamedTerms(t *testing.T) {
	exchange := values("?0 ?5 ?1 ?2 ?2 ?0 ?3 ?1 ?5 ?3")
	for i, l := range smallLists() {
		n := []int{0, 1, 7, 99990}[i%4]
		vars := impl.OrderedVars(l)
		var shifted, exchanged []impl.Term
		for _, term := range l {
			s, ok := impl.ShiftTerm(term, n)
			if !ok {
				t.Errorf("ShiftTerm(%s, %d) fails", brief(term), n)
			}
			checkVariant(t, term, s, true)
			shifted = append(shifted, s)
			exchanged = append(exchanged, applyByDefinition(exchange, term))
		}
		if bound := impl.VarBound(l); bound > 0 {
			checkBound(t, shifted, bound+n)
		}
		var moved, swapped []int
		for _, v := range vars {
			moved, swapped = append(moved, v+n), append(swapped, applyByDefinition(exchange, variable(v)).Int)
		}
		checkOrdered(t, shifted, moved)
		checkOrdered(t, exchanged, swapped)
		checkCanonical(t, shifted, impl.Canonical(l))
		checkCanonical(t, exchanged, impl.Canonical(l))
	}
}

func TestReifyAgreesWithSubstitutions(t *testing.T) {
	list := append(smallTerms(), listOf(variables(0, 6)...), balanced(4999, variable(2)), balanced(4999, variable(1)), balanced(2501, variable(3)), pairs(2499, true, variable(1), variable(0)))
	good, bad := 0, 0
	for i, s := range append(smallSubsts(), manyBindings(0, 400, pair(symbol("a"), variable(400)))) {
		for j := i % 11; j < len(list); j += 11 {
			l := []impl.Term{list[j], list[(3*j+i)%len(list)]}
			var applied []impl.Term
			for _, term := range l {
				if to, ok := impl.ApplySubst(s, term); ok {
					applied = append(applied, to)
				}
			}
			if len(applied) < 2 {
				bad++
				checkNotReified(t, "a term that cannot be applied", s, l)
				continue
			}
			good++
			checkReified(t, s, l, impl.Canonical(applied))
		}
	}
	if good < 1000 || bad < 20 {
		t.Errorf("%d lists have names and %d have none", good, bad)
	}
}

// P1: what two terms have in common once their variables are set apart does not
// depend on how far, nor on the order; it is an instance of both.
func TestNamesOfCommonInstances(t *testing.T) {
	list := allTerms([]impl.Term{variable(1), variable(0), symbol("a")}, 5)
	found := 0
	for _, a := range list {
		for _, b := range list {
			want, ok := commonInstance(a, b, impl.VarBound([]impl.Term{a}))
			if more, fine := commonInstance(a, b, 50); fine != ok || !same(more, want) {
				t.Errorf("%s and %s have %s, %v in common, but %s, %v", brief(a), brief(b), brief(want), ok, brief(more), fine)
			}
			if other, fine := commonInstance(b, a, 99999); fine != ok || !same(other, want) {
				t.Errorf("%s and %s have %s, %v in common, but the other way %s, %v", brief(a), brief(b), brief(want), ok, brief(other), fine)
			}
			if !ok {
				continue
			}
			found++
			if !impl.IsInstance(want, a) || !impl.IsInstance(want, b) || !same(namedAlone(want), want) {
				t.Errorf("%s is not what %s and %s have in common", brief(want), brief(a), brief(b))
			}
			// The one that is an instance of the other one is all that they have in common.
			if impl.IsInstance(a, b) != same(want, namedAlone(a)) {
				t.Errorf("%s and %s have %s in common", brief(a), brief(b), brief(want))
			}
		}
	}
	if all := len(list) * len(list); found < all/10 || found > all*9/10 {
		t.Errorf("%d of %d have something in common", found, all)
	}
}

func commonInstance(a impl.Term, b impl.Term, n int) (impl.Term, bool) {
	b, ok := impl.ShiftTerm(b, n)
	if !ok {
		panic("not shifted")
	}
	s, ok := impl.Unify(nil, a, b)
	if !ok {
		return empty(), false
	}
	l, ok := impl.Reify(s, []impl.Term{a, b})
	if !ok || len(l) != 2 || !same(l[0], l[1]) {
		panic("not equal once they are unified")
	}
	return l[0], true
}

// P1: the texts of canonical forms are equal exactly if the forms are.
func TestTextsOfCanonicalForms(t *testing.T) {
	texts := map[string][]impl.Term{}
	for _, l := range smallLists() {
		named := impl.Canonical(l)
		text := impl.FormatTerms(named)
		if got, ok := impl.ParseTerms(text); !ok || !sameTerms(got, named) {
			t.Errorf("ParseTerms(%q) is %s, %v, want %s", text, briefList(got), ok, briefList(named))
		}
		if had, ok := texts[text]; ok && !sameTerms(had, named) {
			t.Errorf("%q is the text of %s and %s", text, briefList(had), briefList(named))
		}
		texts[text] = named
	}
	if len(texts) < 100 {
		t.Errorf("only %d texts", len(texts))
	}
}
