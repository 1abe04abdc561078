package tests

// Chapter 6, unification: P1, and what chapter 1 says of all functions.

import (
	"slices"
	"testing"

	"loop.example/g03210/impl"
)

// checkByDefinition compares Unify with the definition, and reports whether there is a solution.
func checkByDefinition(t *testing.T, s []impl.Binding, a impl.Term, b impl.Term) bool {
	t.Helper()
	want, ok := solutionByDefinition(s, []impl.Term{a}, []impl.Term{b})
	got, fine := impl.Unify(s, a, b)
	if fine != ok || !sameSubst(got, want) {
		t.Errorf("Unify(%s, %s, %s) is %s, %v, want %s, %v", briefSubst(s), brief(a), brief(b), briefSubst(got), fine, briefSubst(want), ok)
	}
	return ok
}

func checkShare(t *testing.T, good int, all int) {
	t.Helper()
	if all < 5000 || good < all/20 || good > all*19/20 {
		t.Errorf("%d of %d have a solution", good, all)
	}
}

func TestUnifyAllSmallTerms(t *testing.T) {
	list := allTerms([]impl.Term{variable(0), variable(1), variable(2), symbol("a"), number(1)}, 5)
	good := 0
	for _, a := range list {
		for _, b := range list {
			if checkByDefinition(t, nil, a, b) {
				good++
			}
		}
	}
	checkShare(t, good, len(list)*len(list))
}

func TestUnifySmallTermsOfTwoVariables(t *testing.T) {
	list := allTerms([]impl.Term{variable(0), variable(1)}, 7)
	list = append(list, pair(pair(variable(2), variable(3)), pair(variable(4), variable(2))))
	good := 0
	for _, a := range list {
		for _, b := range list {
			if checkByDefinition(t, nil, a, b) {
				good++
			}
		}
	}
	checkShare(t, good, len(list)*len(list))
}

func TestUnifyWithAllSmallSubsts(t *testing.T) {
	list := allTerms([]impl.Term{variable(0), variable(1), variable(2), variable(3), symbol("a")}, 3)
	list = append(list, pair(variable(1), pair(variable(2), variable(3))), pair(pair(symbol("a"), variable(0)), variable(1)))
	good, all := 0, 0
	for _, s := range smallSubsts() {
		for _, a := range list {
			for _, b := range list {
				all++
				if checkByDefinition(t, s, a, b) {
					good++
				}
			}
		}
	}
	checkShare(t, good, all)
}

func TestUnifyAllSmallLists(t *testing.T) {
	list := allTerms([]impl.Term{variable(0), variable(1), variable(2), symbol("a")}, 3)
	good, all := 0, 0
	for _, s := range [][]impl.Binding{nil, subst("?2 ?1"), subst("?0 (?1 . ?2)")} {
		for _, a := range list {
			for _, b := range list {
				for _, c := range list {
					l, r := []impl.Term{a, variable(1)}, []impl.Term{b, c}
					want, ok := solutionByDefinition(s, l, r)
					got, fine := impl.UnifyAll(s, l, r)
					if fine != ok || !sameSubst(got, want) {
						t.Errorf("UnifyAll(%s, %s, %s) is %s, %v", briefSubst(s), brief(listOf(l...)), brief(listOf(r...)), briefSubst(got), fine)
					}
					all++
					if ok {
						good++
					}
				}
			}
		}
	}
	checkShare(t, good, all)
}

// P1: Unify finds a unifier that has the effect of s, of which every such
// unifier is an instance, if there is one.
func TestUnifiersAreInstances(t *testing.T) {
	lists := smallSubsts()
	list := allTerms([]impl.Term{variable(0), variable(1), variable(2), symbol("a")}, 3)
	unifiers := 0
	for i, s := range lists {
		for j, a := range list {
			// Every second pair of terms has one of two lists.
			for k := i % 2; k < j; k += 2 {
				unifiers += checkUnifiers(t, s, a, list[k], lists)
			}
		}
	}
	if unifiers < 5000 {
		t.Errorf("only %d unifiers", unifiers)
	}
}

func checkUnifiers(t *testing.T, s []impl.Binding, a impl.Term, b impl.Term, lists [][]impl.Binding) int {
	t.Helper()
	got, ok := impl.Unify(s, a, b)
	if ok && (!impl.SubstOk(got) || !impl.IsUnifier(got, a, b) || !impl.MoreGeneral(s, got)) {
		t.Errorf("Unify(%s, %s, %s) is %s", briefSubst(s), brief(a), brief(b), briefSubst(got))
	}
	unifiers := 0
	for _, u := range lists {
		if !same(applyByDefinition(u, a), applyByDefinition(u, b)) || !moreGeneralByDefinition(s, u) {
			continue
		}
		unifiers++
		if !ok || !impl.MoreGeneral(got, u) || !impl.IsUnifier(u, a, b) {
			t.Errorf("Unify(%s, %s, %s) is %s, %v, but %s is a unifier", briefSubst(s), brief(a), brief(b), briefSubst(got), ok, briefSubst(u))
		}
	}
	return unifiers
}

// P1: the answer does not show in which order the equations come, nor whether
// they are solved one after the other, nor which side is which.
func TestTheOrderOfEquationsIsNotSeen(t *testing.T) {
	lists := []string{
		"(?0 ?1) (?2 a) ?3 (?1 b)", "?0 (?1 . ?2) ?4 (?4 ?5)", "?3 ?2 ?1 ?0", "(?3 ?3) (a ?2) ?1 ?5",
		"a (?0) ?1 (?1 ?2)", "?5 ?5 (?1 b) ?4", "(?0 . ?4) (?3 . ?2) (?1 . ?1) ()", "?1 ?3 ?5 ?0",
	}
	good, bad := 0, 0
	for _, s := range [][]impl.Binding{nil, subst("?4 ?2 ?5 (?3)"), subst("?1 (?0 ?2) ?3 a")} {
		for _, left := range lists {
			for _, right := range lists {
				l, r := terms(left), terms(right)
				want, ok := impl.UnifyAll(s, l, r)
				if ok {
					good++
					checkAllSolution(t, s, l, r, want...)
				} else {
					bad++
					checkNoneForAll(t, left+" and "+right, s, l, r)
				}
				inSteps(t, s, l, r, want, ok)
			}
		}
	}
	if good < 20 || bad < 20 {
		t.Errorf("%d lists have a solution and %d have none", good, bad)
	}
}

func inSteps(t *testing.T, s []impl.Binding, l []impl.Term, r []impl.Term, want []impl.Binding, ok bool) {
	t.Helper()
	for _, order := range orders(len(l)) {
		got, fine := slices.Clone(s), true
		for _, i := range order {
			if fine {
				got, fine = impl.Unify(got, l[i], r[i])
			}
		}
		if fine != ok || !sameSubst(got, want) {
			t.Errorf("Unify of %s and %s in the order %v is %s, %v, want %s", brief(listOf(l...)), brief(listOf(r...)), order, briefSubst(got), fine, briefSubst(want))
		}
	}
	// One equation of two lists says the same.
	got, fine := impl.Unify(s, listOf(l...), listOf(r...))
	if fine != ok || !sameSubst(got, want) {
		t.Errorf("Unify of %s and %s is %s, %v, want %s", brief(listOf(l...)), brief(listOf(r...)), briefSubst(got), fine, briefSubst(want))
	}
}

// P1: the join is the least common instance, and has the bindings of s and the new ones.
func TestJoinsAreLeastCommonInstances(t *testing.T) {
	lists := smallSubsts()
	good := 0
	for _, s := range lists {
		for _, u := range lists {
			want, ok := solutionByDefinition(slices.Concat(s, u), nil, nil)
			got, fine := impl.JoinSubst(s, u)
			if fine != ok || !sameSubst(got, want) {
				t.Errorf("JoinSubst(%s, %s) is %s, %v", briefSubst(s), briefSubst(u), briefSubst(got), fine)
			}
			if fine {
				good++
			}
			if fine && (!impl.SubstOk(got) || !impl.MoreGeneral(s, got) || !impl.MoreGeneral(u, got)) {
				t.Errorf("JoinSubst(%s, %s) is %s, not an instance of both", briefSubst(s), briefSubst(u), briefSubst(got))
			}
			if general := moreGeneralByDefinition(s, u); general != (fine && sameSubst(got, u)) {
				t.Errorf("JoinSubst(%s, %s) is %s, %v, but MoreGeneral is %v", briefSubst(s), briefSubst(u), briefSubst(got), fine, general)
			}
		}
	}
	checkShare(t, good, len(lists)*len(lists))
}

func TestCommonInstancesAreInstancesOfJoins(t *testing.T) {
	lists := smallSubsts()
	common := 0
	for _, u := range lists {
		var general [][]impl.Binding
		for _, s := range lists {
			if moreGeneralByDefinition(s, u) {
				general = append(general, s)
			}
		}
		for _, s := range general {
			for _, other := range general {
				common++
				if got, ok := impl.JoinSubst(s, other); !ok || !impl.MoreGeneral(got, u) {
					t.Errorf("JoinSubst(%s, %s) is %s, %v, but %s is an instance of both", briefSubst(s), briefSubst(other), briefSubst(got), ok, briefSubst(u))
				}
			}
		}
	}
	if common < 2000 {
		t.Errorf("only %d common instances", common)
	}
}

// A solution joined with the bindings that it was made of stays as it is.
func TestSolutionsKeepWhatTheyAreMadeOf(t *testing.T) {
	list := allTerms([]impl.Term{variable(0), variable(1), variable(3), symbol("a")}, 3)
	for _, s := range smallSubsts() {
		for _, a := range list {
			b := pair(variable(2), a)
			got, ok := impl.Unify(s, variable(3), b)
			if !ok {
				continue
			}
			checkJoined(t, s, got, got...)
			checkSolution(t, got, variable(3), b, got...)
			if first, ok := impl.Unify(nil, variable(3), b); ok {
				checkJoined(t, s, first, got...)
			}
			// What s binds is bound, so that the others are the new ones.
			if n := len(impl.NewBindings(s, got)); n != len(got)-len(s) {
				t.Errorf("NewBindings(%s, %s) has %d bindings", briefSubst(s), briefSubst(got), n)
			}
		}
	}
}

type unification struct {
	s, u []impl.Binding
	l, r []impl.Term
}

// unifications returns new memory each time, with shared parts in the terms if share is true.
func unifications(share bool) []unification {
	var all []unification
	for _, c := range [][4]string{
		{"", "", "", ""},
		{"", "?0 a", "?0 ?1 (?2 ?3)", "(a b) (?0 ?0) (?1 . ?1)"},
		{"?9 (?1 ?1 ?2)", "?1 (?0) ?5 (b)", "?1 ?2 ?4", "(?0 b) ?1 ?9"},
		{"?5 (?3 ?2) ?6 ?4", "?4 (a) ?6 (a)", "?3 (?2 . ?4)", "(a b) (?3 . ?6)"},
		{"?5 (?3)", "?5 (?4)", "(?5 a) ?3", "(?5 b) ?3"},
		{"?5 (?3)", "?3 (?5 a)", "?3 ?5", "(?5) (a b)"},
		{"?1 a ?2 (b c)", "?2 (b c) ?3 (b c)", "?2 ?3 ?4", "(b . ?7) ?7 ?3"},
	} {
		c := unification{subst(c[0]), subst(c[1]), terms(c[2]), terms(c[3])}
		if share && len(c.l) > 0 {
			part := pair(symbol("a"), pair(variable(0), empty()))
			c.l = append(c.l, part, pair(part, part), c.l[0])
			c.r = append(c.r, pair(variable(8), variable(7)), pair(part, variable(6)), c.l[0])
		}
		all = append(all, c)
	}
	return all
}

func (c unification) lists() [][]impl.Binding {
	var all [][]impl.Binding
	keep := func(l []impl.Binding, ok bool) {
		if !ok && len(l) > 0 {
			panic("bindings without a solution")
		}
		all = append(all, l)
	}
	keep(impl.UnifyAll(c.s, c.l, c.r))
	for i := range c.l {
		keep(impl.Unify(c.s, c.l[i], c.r[i]))
		impl.IsUnifier(c.s, c.l[i], c.r[i])
	}
	keep(impl.JoinSubst(c.s, c.u))
	keep(impl.NewBindings(c.s, c.u), true)
	keep(impl.NewBindings(c.u, c.s), true)
	return all
}

func (c unification) show() string {
	return showSubst(c.s) + showSubst(c.u) + showAll(impl.Term{Args: c.l}) + showAll(impl.Term{Args: c.r})
}

func TestUnificationChangesNoArgument(t *testing.T) {
	for _, share := range []bool{false, true} {
		for i, c := range unifications(share) {
			c.s, c.u = spacedSubst(c.s), spacedSubst(c.u)
			c.l, c.r = spaced(impl.Term{Args: c.l}).Args, spaced(impl.Term{Args: c.r}).Args
			before := c.show()
			for _, s := range c.lists() {
				if !impl.SubstOk(s) {
					t.Errorf("unification %d has a result that is no substitution", i)
				}
			}
			if c.show() != before {
				t.Errorf("unification %d changes an argument", i)
			}
		}
	}
}

// The arguments may share parts with each other, but not with a result.
func TestResultsOfUnificationAreNew(t *testing.T) {
	for _, share := range []bool{false, true} {
		for i, c := range unifications(share) {
			before := c.show()
			results := append(c.lists(), c.lists()...)
			checkSubstsApart(t, "the results", nil, results...)
			checkNoneOf(t, results, c)
			for _, s := range results {
				for _, b := range s {
					ruin(b.To)
				}
			}
			if c.show() != before {
				t.Errorf("unification %d: a change of a result changes an argument", i)
			}
		}
	}
}

func checkNoneOf(t *testing.T, results [][]impl.Binding, c unification) {
	t.Helper()
	mine, others := map[*impl.Term]int{}, map[*impl.Term]int{}
	for _, s := range results {
		cellsOfSubst(mine, s)
	}
	cellsOfSubst(others, c.s)
	cellsOfSubst(others, c.u)
	cellsOf(others, c.l)
	cellsOf(others, c.r)
	for cell := range mine {
		if others[cell] > 0 {
			t.Error("a result shares memory with an argument")
			return
		}
	}
}

// ruin overwrites everything in a term.
func ruin(t impl.Term) {
	for i := range t.Args {
		ruin(t.Args[i])
		t.Args[i] = symbol("ruined")
	}
}

// The empty list of parts of an atom may have spare capacity, which is not kept.
func TestUnificationKeepsNoSpareCapacity(t *testing.T) {
	a := impl.Term{Kind: impl.KSym, Name: "a", Args: make([]impl.Term, 0, 3)}
	s := substOf(bind(1, a), bind(3, pair(variable(0), a)))
	c := unification{s, substOf(bind(2, a)), []impl.Term{variable(0)}, []impl.Term{a}}
	for _, got := range c.lists() {
		checkSubstsApart(t, "a result", nil, got)
		checkNoneOf(t, [][]impl.Binding{got}, unification{l: []impl.Term{a}})
		for _, b := range got {
			if b.To.Kind == impl.KPair {
				b.To = b.To.Args[1]
			}
			if cap(b.To.Args) > 0 {
				t.Errorf("a result has an atom with room for parts: %s", brief(b.To))
			}
		}
	}
}

func TestUnificationKeepsNoState(t *testing.T) {
	var before []string
	for range 3 {
		var now []string
		for _, share := range []bool{false, true} {
			for _, c := range unifications(share) {
				for _, got := range c.lists() {
					now = append(now, briefSubst(got))
				}
			}
		}
		if before != nil && !slices.Equal(before, now) {
			t.Errorf("the results are %q, and then %q", before, now)
		}
		before = now
	}
}

// Terms that share their Args are the same as terms that do not.
func TestUnifySharedArgs(t *testing.T) {
	a, x, y := symbol("a"), variable(0), variable(1)
	soon(t, "Unify of shared parts", func() {
		for depth := 1; depth < 13; depth++ {
			left, right := x, pair(y, a)
			for range depth {
				left, right = pair(left, left), pair(right, right)
			}
			got, ok := impl.Unify(nil, left, right)
			if size := impl.TermSize(right); ok != (size > 0) || ok && !sameSubst(got, substOf(bind(0, pair(y, a)))) {
				t.Errorf("depth %d: Unify is %s, %v", depth, briefSubst(got), ok)
			}
			if _, ok := impl.Unify(nil, left, pair(right, a)); ok {
				t.Errorf("depth %d: Unify of another form is true", depth)
			}
		}
	})
	part := pair(a, x)
	checkSolution(t, substOf(bind(2, part), bind(3, part)), pair(part, part), pair(part, pair(a, y)), bind(1, x), bind(2, part), bind(3, part))
	checkSolution(t, nil, part, part)
}
