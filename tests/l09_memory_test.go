package tests

// Chapter 10, disequalities: what chapter 1 says of all functions.

import (
	"fmt"
	"slices"
	"testing"

	"loop.example/g03210/impl"
)

// A differing has arguments for all functions.
type differing struct {
	s, d []impl.Binding
	l    []impl.Term
	all  [][]impl.Binding
}

// differings returns new memory each time, with shared parts if share is true.
func differings(share bool) []differing {
	var all []differing
	for _, c := range [][4]string{
		{"", "", "", ""},
		{"", "?0 a", "?0 a (?1 . b) (?0 c)", "?0 a,?0 a ?1 b,,?2 c"},
		{"?9 (?1 ?1 ?2)", "?1 (?0) ?5 (b)", "?1 (?0 b) ?2 ?9 ?4 (c ?1)", "?5 (b) ?7 c,?1 (?0) ?5 (b),?5 (b),?6 (?5 . d)"},
		{"?5 (?3 ?2) ?6 ?4", "?4 (a) ?6 (a)", "?3 (a ?6) (?2 . ?4) (?5 (b ?6))", "?3 (a) ?4 c,?3 (a),?3 (a),?2 (?0 (d . ?1))"},
		{"?1 a ?2 (b c)", "?2 (b c) ?3 (b (c))", "?2 (b . ?7) ?3 ?1 ((?1) . ?4) b", "?2 (b c),?3 (?0 (?1)),?0 (d) ?3 ((d) (?1)) ?8 a"},
		{"?5 (?3)", "?5 (?4)", "(?5 a) (?3 . ?7) ?5 (b)", "?5 (?4),?5 (?3),?2 (?1 (a))"},
	} {
		g := differing{subst(c[0]), subst(c[1]), terms(c[2]), substs(c[3])}
		if share {
			part := pair(symbol("a"), pair(variable(0), symbol("b")))
			g.l = append(g.l, part, pair(part, variable(8)), pair(part, pair(part, variable(7))))
			g.d = append(g.d, bind(20, part), bind(21, pair(part, part)))
			g.s = append(g.s, bind(22, part))
			g.all = append(g.all, g.d, g.s, g.d, substOf(bind(20, part)), substOf(bind(30, pair(part, part)), bind(31, part)))
		}
		all = append(all, g)
	}
	return all
}

// results has what all functions return that return bindings, and the codes.
func (g differing) results() ([][]impl.Binding, []int) {
	var lists [][]impl.Binding
	var codes []int
	keep := func(d []impl.Binding, code int) { lists, codes = append(lists, d), append(codes, code) }
	for _, a := range g.l {
		for _, b := range g.l {
			keep(impl.Disequality(g.s, a, b))
			keep(impl.Disequality(nil, a, b))
		}
	}
	for _, d := range append(slices.Clone(g.all), g.s, g.d) {
		keep(impl.NormalDisequality(g.s, d))
		keep(impl.NormalDisequality(g.d, d))
		keep(impl.NormalDisequality(nil, d))
	}
	for _, l := range [][][]impl.Binding{g.all, g.all[:len(g.all)/2], {g.s, g.d}, {g.d}, {g.d, g.d}} {
		lists = append(lists, impl.MinimalDisequalities(l)...)
	}
	return lists, codes
}

// answers has what the functions say that return no bindings.
func (g differing) answers() []int {
	var answers []int
	for _, d := range append(slices.Clone(g.all), g.s, g.d) {
		for _, e := range append(slices.Clone(g.all), g.s, g.d) {
			answers = append(answers, impl.CompareDisequalities(d, e), boolAsInt(impl.DisequalityHolds(d, e)))
		}
	}
	return answers
}

func (g differing) show() string {
	text := showSubst(g.s) + showSubst(g.d) + showAll(impl.Term{Args: g.l}) + fmt.Sprint(len(g.all), cap(g.all))
	for _, d := range g.all[:cap(g.all)] {
		text += showSubst(d)
	}
	return text
}

// spaced returns g with spare capacity behind each list, which holds something of its own.
func (g differing) spaced() differing {
	g.s, g.d, g.l = spacedSubst(g.s), spacedSubst(g.d), spaced(impl.Term{Args: g.l}).Args
	all := make([][]impl.Binding, 0, len(g.all)+2)
	for _, d := range g.all {
		all = append(all, spacedSubst(d))
	}
	rest := all[len(all):cap(all)]
	for i := range rest {
		rest[i] = subst("?7 spare")
	}
	g.all = all
	return g
}

// The order of the elements of a list stays as it is, too.
func TestDisequalitiesChangeNoArgument(t *testing.T) {
	for _, share := range []bool{false, true} {
		for i, g := range differings(share) {
			g = g.spaced()
			before := g.show()
			g.answers()
			lists, _ := g.results()
			for _, d := range lists {
				if !impl.SubstOk(d) {
					t.Errorf("differing %d has a result that is no substitution", i)
				}
			}
			if g.show() != before {
				t.Errorf("differing %d changes an argument", i)
			}
		}
	}
}

// The arguments may share parts with each other, but not with a result.
func TestResultsOfDisequalitiesAreNew(t *testing.T) {
	bindings := 0
	for _, share := range []bool{false, true} {
		for i, g := range differings(share) {
			before := g.show()
			results, _ := g.results()
			more, _ := g.results()
			results = append(results, more...)
			checkSubstsApart(t, fmt.Sprintf("differing %d", i), nil, results...)
			mine, others := map[*impl.Term]int{}, map[*impl.Term]int{}
			for _, d := range results {
				cellsOfSubst(mine, d)
				bindings += len(d)
			}
			for _, d := range append(slices.Clone(g.all), g.s, g.d) {
				cellsOfSubst(others, d)
			}
			cellsOf(others, g.l)
			for cell := range mine {
				if others[cell] > 0 {
					t.Errorf("differing %d: a result shares memory with an argument", i)
					break
				}
			}
			for _, d := range results {
				for j := range d {
					ruin(d[j].To)
					d[j] = bind(99, symbol("ruined"))
				}
			}
			if g.show() != before {
				t.Errorf("differing %d: a change of a result changes an argument", i)
			}
		}
	}
	if bindings < 500 {
		t.Errorf("the results have only %d bindings", bindings)
	}
}

// The list that MinimalDisequalities returns is new as well.
func TestMinimalDisequalitiesAreANewList(t *testing.T) {
	for _, text := range []string{"?0 a", "?0 a,?1 b", "?0 a,?1 b,?1 b,?2 c,?1 b ?3 c"} {
		l := substs(text)
		got := impl.MinimalDisequalities(l)
		whole := got[:cap(got)]
		for i := range whole {
			whole[i] = subst("?9 other")
		}
		if !sameSubsts(l, substs(text)) {
			t.Errorf("a change of the result changes the argument to %s", briefSubsts(l))
		}
	}
}

// The empty list of parts of an atom may have spare capacity, which is not kept.
func TestDisequalitiesKeepNoSpareCapacity(t *testing.T) {
	room := func() []impl.Term { return make([]impl.Term, 0, 3) }
	a, x := impl.Term{Kind: impl.KSym, Name: "a", Args: room()}, impl.Term{Kind: impl.KVar, Args: room()}
	s, d := substOf(bind(1, a), bind(3, pair(x, a))), substOf(bind(2, a), bind(4, pair(a, x)), bind(5, x), bind(6, impl.Term{Args: room()}))
	g := differing{s, d, []impl.Term{variable(7), a, x, pair(x, a), pair(variable(8), variable(9))}, [][]impl.Binding{s, d, {bind(8, a)}}}
	lists, _ := g.results()
	for _, got := range lists {
		for _, b := range got {
			for _, part := range partsOf(b.To) {
				if part.Kind != impl.KPair && cap(part.Args) > 0 {
					t.Errorf("a result has an atom with room for parts: %s", briefSubst(got))
				}
			}
		}
	}
}

func TestDisequalitiesKeepNoState(t *testing.T) {
	var before []string
	for range 3 {
		var now []string
		for _, share := range []bool{false, true} {
			for _, g := range differings(share) {
				lists, codes := g.results()
				now = append(now, fmt.Sprint(codes, g.answers()))
				for _, d := range lists {
					now = append(now, briefSubst(d))
				}
			}
		}
		if before != nil && !slices.Equal(before, now) {
			t.Error("the results change")
		}
		before = now
	}
}

// Terms that share their Args are the same as terms that do not.
func TestDisequalitiesOfSharedArgs(t *testing.T) {
	a := symbol("a")
	soon(t, "disequalities with shared parts", func() {
		open, closed := variable(0), pair(variable(1), a)
		for depth := 1; depth < 40; depth++ {
			open, closed = pair(open, open), pair(closed, closed)
			l := [][]impl.Binding{{bind(5, closed), bind(6, open)}, {bind(6, open)}}
			if !impl.TermOk(closed) {
				checkNothingLeft(t, "too large", nil, open, closed, 3)
				checkNothingNormal(t, "too large", nil, l[0], 3)
				if impl.CompareDisequalities(l[0], l[0]) != 2 || len(impl.MinimalDisequalities(l)) > 0 || impl.DisequalityHolds(l[0], nil) || impl.DisequalityHolds(subst("?9 a"), l[0]) {
					t.Errorf("depth %d: too large", depth)
				}
				continue
			}
			checkLeft(t, nil, open, closed, 0, bind(0, term("(?1 . a)")))
			checkNormal(t, l[1], substOf(bind(6, closed)), 0, bind(0, term("(?1 . a)")))
			checkOrder(t, l[0], l[1], -1)
			checkMinimal(t, l, l[1])
			checkHolds(t, l[1], substOf(bind(0, term("(?1 . a)")), bind(6, closed)), false)
			checkHolds(t, l[1], substOf(bind(0, a), bind(6, closed)), true)
			checkSubstsApart(t, "shared parts", nil, impl.MinimalDisequalities(append(l, l...))...)
		}
	})
}
