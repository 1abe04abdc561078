package tests

// Chapter 7, matching and generalization: P1, and what chapter 1 says of all functions.

import (
	"slices"
	"testing"

	"loop.example/g03210/impl"
)

func TestMatchAllSmallTerms(t *testing.T) {
	list := allTerms([]impl.Term{variable(0), variable(1), symbol("a"), number(1)}, 5)
	good := 0
	for _, p := range list {
		for _, term := range list {
			if checkMatchByDefinition(t, p, term) {
				good++
			}
		}
	}
	if all := len(list) * len(list); good < all/50 || good > all*49/50 {
		t.Errorf("%d of %d terms are instances", good, all)
	}
}

func TestMatchSmallTermsOfThreeVariables(t *testing.T) {
	patterns := allTerms([]impl.Term{variable(2), variable(0), variable(1)}, 7)
	list := append(allTerms([]impl.Term{variable(0), symbol("a")}, 5), terms("(a a . a) ((a) a) (?0 a ?0) ((a . ?0) . (a . ?0)) ((a a) (a a)) ((?0) ?0 . ?0)")...)
	good := 0
	for i, p := range patterns {
		for j, term := range list {
			if (i+j)%2 == 0 && checkMatchByDefinition(t, p, term) {
				good++
			}
		}
	}
	if good < 300 {
		t.Errorf("only %d terms are instances", good)
	}
}

func checkMatchByDefinition(t *testing.T, p impl.Term, term impl.Term) bool {
	t.Helper()
	want := matchesByDefinition(p, term)
	if len(want) == 0 {
		checkNoMatch(t, brief(p)+" and "+brief(term), p, term)
		return false
	}
	if len(want) > 1 {
		t.Errorf("%s has two lists of values for %s", brief(p), brief(term))
	}
	checkMatch(t, p, term, want[0]...)
	return true
}

func TestVariantsOfAllSmallTerms(t *testing.T) {
	list := allTerms([]impl.Term{variable(0), variable(1), symbol("a")}, 5)
	list = append(list, allTerms([]impl.Term{variable(2), variable(1)}, 5)...)
	good := 0
	for _, a := range list {
		for _, b := range list {
			want := len(matchesByDefinition(a, b)) > 0 && len(matchesByDefinition(b, a)) > 0
			if want {
				good++
			}
			checkVariant(t, a, b, want)
			if want != (impl.IsInstance(a, b) && impl.IsInstance(b, a)) {
				t.Errorf("IsInstance does not agree with IsVariant of %s and %s", brief(a), brief(b))
			}
			// Variants are the same once their variables are numbered anew.
			if want != same(generalByDefinition([]impl.Term{a}), generalByDefinition([]impl.Term{b})) {
				t.Errorf("%s and %s are variants, or are not", brief(a), brief(b))
			}
		}
	}
	if all := len(list) * len(list); good < 2*len(list) || good > all/2 {
		t.Errorf("%d of %d are variants", good, all)
	}
}

// P1: matching finds the values that an instance was made with, and instances
// of large terms are matched as well.
func TestMatchingFindsTheValuesOfInstances(t *testing.T) {
	list := allTerms([]impl.Term{variable(0), variable(1), variable(2), symbol("a")}, 5)
	list = append(list, listOf(variables(0, 3)...), balanced(99, variable(1)), pairs(300, false, variable(0), variable(2)))
	by := []impl.Term{symbol("a"), variable(0), variable(1), pair(variable(1), variable(0)), balanced(15, variable(2))}
	for i, l := range allBindingLists([]int{0, 1, 2}, by) {
		for j, p := range list {
			if (i+j)%4 > 0 {
				continue
			}
			term, ok := impl.Instantiate(p, l)
			if !ok {
				t.Errorf("Instantiate(%s, %s) fails", brief(p), briefSubst(l))
			}
			checkMatch(t, p, term, completed(l, varsByDefinition(p))...)
		}
	}
}

// completed gives exactly the variables vars values: what l gives them, or themselves.
func completed(l []impl.Binding, vars []int) []impl.Binding {
	var all []impl.Binding
	for _, v := range vars {
		all = append(all, bind(v, applyByDefinition(l, variable(v))))
	}
	return all
}

// P1: matching against a ground term is unification, and a term with other
// variables has an instance exactly if it has a unifier that leaves t as it is.
func TestMatchingAgreesWithUnification(t *testing.T) {
	patterns := allTerms([]impl.Term{variable(3), variable(4), symbol("a")}, 5)
	list := allTerms([]impl.Term{variable(0), variable(1), symbol("a")}, 5)
	good := 0
	for _, p := range patterns {
		for _, term := range list {
			l, ok := impl.MatchTerm(p, term)
			s, fine := impl.Unify(nil, p, term)
			fine = fine && !slices.ContainsFunc(s, func(b impl.Binding) bool { return b.Var < 3 })
			if ok != fine || ok && !sameSubst(l, s) {
				t.Errorf("MatchTerm(%s, %s) is %s, %v, and Unify %s, %v", brief(p), brief(term), briefSubst(l), ok, briefSubst(s), fine)
			}
			if ok {
				good++
			}
		}
	}
	if good < 500 {
		t.Errorf("only %d terms are instances", good)
	}
}

// P1: instances of instances are instances.
func TestInstancesOfInstances(t *testing.T) {
	list := allTerms([]impl.Term{variable(0), variable(1), symbol("a")}, 5)
	for _, a := range list {
		if !impl.IsInstance(a, variable(0)) || !impl.IsInstance(a, a) || !impl.IsVariant(a, a) {
			t.Errorf("%s is no instance of a variable or of itself", brief(a))
		}
	}
	chains := 0
	for _, a := range list {
		instances := slices.DeleteFunc(slices.Clone(list), func(b impl.Term) bool { return !impl.IsInstance(b, a) })
		for _, b := range instances {
			for _, c := range list {
				if impl.IsInstance(c, b) {
					chains++
					if !impl.IsInstance(c, a) {
						t.Errorf("IsInstance(%s, %s) is false", brief(c), brief(a))
					}
				}
			}
		}
	}
	if chains < 1000 {
		t.Errorf("only %d instances of instances", chains)
	}
}

func TestGeneralizeAllPairsOfSmallTerms(t *testing.T) {
	list := allTerms([]impl.Term{variable(0), variable(1), symbol("a"), number(1), empty()}, 5)
	for _, a := range list {
		checkGeneral(t, []impl.Term{a}, generalByDefinition([]impl.Term{a}))
		for _, b := range list {
			l := []impl.Term{a, b}
			checkGeneral(t, l, generalByDefinition(l))
		}
	}
}

func TestGeneralizeSmallTermsOfTwoAtoms(t *testing.T) {
	list := allTerms([]impl.Term{symbol("a"), symbol("b")}, 7)
	for _, a := range list {
		for _, b := range list {
			for _, c := range list[:7] {
				l := []impl.Term{a, b, pair(c, pair(c, a))}
				checkGeneral(t, l, generalByDefinition(l))
				l = []impl.Term{pair(a, pair(c, b)), pair(b, pair(a, a)), pair(c, pair(c, b))}
				checkGeneral(t, l, generalByDefinition(l))
			}
		}
	}
}

// P1: all elements are instances of their generalization, which is an instance
// of everything else of which they are.
func TestGeneralizationsAreTheLeastOnes(t *testing.T) {
	list := allTerms([]impl.Term{variable(0), symbol("a")}, 5)
	list = append(list, terms("(?0 ?1) (?1 ?0 ?1) ((a) (a)) ((a . ?0) (a . ?0)) (b a b)")...)
	others := allTerms([]impl.Term{variable(0), variable(1), variable(2), symbol("a")}, 5)
	for i, a := range list {
		for _, b := range list[:i+1] {
			l := []impl.Term{a, b, list[(i*7+3)%len(list)]}[:2+i%2]
			g, ok := impl.Generalize(l)
			if !ok {
				t.Errorf("Generalize of %s and %s fails", brief(a), brief(b))
			}
			instances := func(p impl.Term) bool {
				return !slices.ContainsFunc(l, func(t impl.Term) bool { return !impl.IsInstance(t, p) })
			}
			if !instances(g) {
				t.Errorf("an element is no instance of %s", brief(g))
			}
			for _, other := range others {
				if instances(other) && !impl.IsInstance(g, other) {
					t.Errorf("%s is a less general one than %s for %s", brief(other), brief(g), brief(listOf(l...)))
				}
			}
		}
	}
}

// P1: a generalization depends neither on the order of the elements nor on how
// often they occur, and that of generalizations is that of all elements.
func TestGeneralizationsOfGeneralizations(t *testing.T) {
	list := terms("(a b a) (b b b) (c (d) (d)) (?0 ?1 ?0) (?1 ?1 ?0) (a (b a) (b a)) ((a) b (a)) (a b) a (a b . ?3) (?3 ?3 ?3) (a a a a)")
	for i, a := range list {
		for j, b := range list {
			for k, c := range list {
				l := []impl.Term{a, b, c}
				want, ok := impl.Generalize(l)
				if !ok {
					t.Errorf("Generalize of %s fails", brief(listOf(l...)))
				}
				if i < j && j < k {
					for _, order := range orders(3) {
						checkGeneral(t, []impl.Term{l[order[0]], l[order[1]], l[order[2]]}, want)
					}
					checkGeneral(t, slices.Repeat(l, 13), want)
				}
				two, _ := impl.Generalize(l[:2])
				checkGeneral(t, []impl.Term{two, c}, want)
				checkGeneral(t, []impl.Term{c, two, two}, want)
				checkGeneral(t, []impl.Term{want}, want)
			}
		}
	}
}

type matching struct {
	p, t impl.Term
	l    []impl.Binding
	some []impl.Term
}

// matchings returns new memory each time, with shared parts in the terms if share is true.
func matchings(share bool) []matching {
	var all []matching
	for _, c := range [][4]string{
		{"?0", "a", "", "a"},
		{"?0", "(a b)", "?0 (a b)", "(a b) (a b)"},
		{"(?1 ?0 ?1)", "((a ?0) (b) (a ?0))", "?0 (?1 a) ?1 (?0 b)", "((a) b) ((c) b) ((?0) b)"},
		{"(?0 ?0 . ?2)", "((a) (a) (b c))", "?0 (a) ?2 ((a) (a)) ?3 (a)", "(a a (b)) (b b (b))"},
		{"(a (b) . ?5)", "(a (b) c d)", "?4 (a b)", "(a (b) c) (a (b) d)"},
		{"(?0 ?0)", "((a b) (a c))", "?0 (?0 ?0)", "((a b) (a b)) (c c)"},
		{"((a ?1) (?2 b))", "((a (1)) ((2) b))", "?1 ((1) . 2) ?2 ?1", "((a . b) (1)) ((c . b) (1))"},
	} {
		m := matching{term(c[0]), term(c[1]), values(c[2]), terms(c[3])}
		if share {
			part := pair(symbol("a"), pair(variable(0), empty()))
			m.p, m.t = pair(m.p, pair(variable(7), pair(variable(6), variable(7)))), pair(m.t, pair(part, pair(part, part)))
			m.l = append(m.l, bind(6, part), bind(7, pair(part, part)))
			m.some = append(m.some, m.some[0], pair(part, part), pair(part, part))
		}
		all = append(all, m)
	}
	return all
}

// results has what all functions return, those that fail included.
func (m matching) results() ([]impl.Term, [][]impl.Binding) {
	var found []impl.Term
	var lists [][]impl.Binding
	keepTerm := func(t impl.Term, ok bool) {
		if ok {
			found = append(found, t)
		} else if !same(t, empty()) {
			panic("a term with false")
		}
	}
	keepList := func(l []impl.Binding, ok bool) {
		if !ok && len(l) > 0 {
			panic("values with false")
		}
		lists = append(lists, l)
	}
	keepTerm(impl.Instantiate(m.p, m.l))
	keepTerm(impl.Instantiate(m.t, m.l))
	keepTerm(impl.Instantiate(m.t, nil))
	keepList(impl.MatchTerm(m.p, m.t))
	keepList(impl.MatchTerm(m.t, m.p))
	keepList(impl.MatchTerm(variable(3), m.t))
	keepTerm(impl.Generalize(m.some))
	keepTerm(impl.Generalize([]impl.Term{m.p, m.t}))
	keepTerm(impl.Generalize([]impl.Term{m.t}))
	keepTerm(impl.Generalize([]impl.Term{m.t, m.t}))
	impl.ValuesOk(m.l)
	impl.IsInstance(m.t, m.p)
	impl.IsVariant(m.p, m.t)
	return found, lists
}

func (m matching) show() string {
	return showAll(m.p) + showAll(m.t) + showSubst(m.l) + showAll(impl.Term{Args: m.some})
}

func TestMatchingChangesNoArgument(t *testing.T) {
	for _, share := range []bool{false, true} {
		for i, m := range matchings(share) {
			m.p, m.t, m.l, m.some = spaced(m.p), spaced(m.t), spacedSubst(m.l), spaced(impl.Term{Args: m.some}).Args
			before := m.show()
			found, lists := m.results()
			for _, term := range found {
				if !impl.TermOk(term) {
					t.Errorf("matching %d has a result that is no term", i)
				}
			}
			for _, l := range lists {
				if !impl.ValuesOk(l) {
					t.Errorf("matching %d has a result that is no list of values", i)
				}
			}
			if m.show() != before {
				t.Errorf("matching %d changes an argument", i)
			}
		}
	}
}

// The arguments may share parts with each other, but not with a result.
func TestResultsOfMatchingAreNew(t *testing.T) {
	for _, share := range []bool{false, true} {
		for i, m := range matchings(share) {
			before := m.show()
			found, lists := m.results()
			again, more := m.results()
			found, lists = append(found, again...), append(lists, more...)
			checkSubstsApart(t, "the results", found, lists...)
			checkNewMatching(t, m, found, lists)
			for _, term := range found {
				ruin(term)
			}
			for _, l := range lists {
				for _, b := range l {
					ruin(b.To)
				}
			}
			if m.show() != before {
				t.Errorf("matching %d: a change of a result changes an argument", i)
			}
		}
	}
}

func checkNewMatching(t *testing.T, m matching, found []impl.Term, lists [][]impl.Binding) {
	t.Helper()
	mine, others := map[*impl.Term]int{}, map[*impl.Term]int{}
	cellsOf(mine, found)
	for _, l := range lists {
		cellsOfSubst(mine, l)
	}
	cellsOf(others, []impl.Term{m.p, m.t})
	cellsOf(others, m.some)
	cellsOfSubst(others, m.l)
	for cell := range mine {
		if others[cell] > 0 {
			t.Error("a result shares memory with an argument")
			return
		}
	}
}

// The empty list of parts of an atom may have spare capacity, which is not kept.
func TestMatchingKeepsNoSpareCapacity(t *testing.T) {
	a := impl.Term{Kind: impl.KSym, Name: "a", Args: make([]impl.Term, 0, 3)}
	x := impl.Term{Kind: impl.KVar, Int: 0, Args: make([]impl.Term, 0, 3)}
	for _, m := range []matching{
		{variable(0), a, substOf(bind(0, a)), []impl.Term{a, a}},
		{x, x, substOf(bind(0, x)), []impl.Term{x, x}},
		{pair(x, a), pair(a, a), substOf(bind(0, a), bind(1, x)), []impl.Term{pair(x, a), pair(a, a)}},
		{a, a, nil, []impl.Term{a}},
	} {
		found, lists := m.results()
		for _, l := range lists {
			for _, b := range l {
				found = append(found, b.To)
			}
		}
		for _, term := range found {
			for _, part := range partsOf(term) {
				if part.Kind != impl.KPair && cap(part.Args) > 0 {
					t.Errorf("a result has an atom with room for parts: %s", brief(term))
				}
			}
		}
	}
}

func TestMatchingKeepsNoState(t *testing.T) {
	var before []string
	for range 3 {
		var now []string
		for _, share := range []bool{false, true} {
			for _, m := range matchings(share) {
				found, lists := m.results()
				for _, term := range found {
					now = append(now, show(term))
				}
				for _, l := range lists {
					now = append(now, briefSubst(l))
				}
			}
		}
		if before != nil && !slices.Equal(before, now) {
			t.Errorf("the results are %q, and then %q", before, now)
		}
		before = now
	}
}

// Terms that share their Args are the same as terms that do not.
func TestMatchingOfSharedArgs(t *testing.T) {
	a, x, y := symbol("a"), variable(0), pair(variable(1), symbol("a"))
	soon(t, "MatchTerm and Generalize of shared parts", func() {
		for depth := 1; depth < 14; depth++ {
			left, right, want := x, y, a
			for range depth {
				left, right, want = pair(left, left), pair(right, right), pair(want, want)
			}
			if !impl.TermOk(right) {
				checkNoMatch(t, "too large", left, right)
				checkNotGeneralized(t, "too large", []impl.Term{left, right})
				continue
			}
			checkMatch(t, left, right, bind(0, y))
			checkNoMatch(t, "another leaf", pair(left, x), pair(right, a))
			checkNoMatch(t, "the other order", right, left)
			checkVariant(t, left, right, false)
			checkInstance(t, left, substOf(bind(0, a)), want)
			checkGeneral(t, []impl.Term{left, right, left}, full(depth, x))
		}
	})
}
