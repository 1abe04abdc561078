package tests

// Chapter 9, ground terms and universes: what chapter 1 says of all functions.

import (
	"fmt"
	"slices"
	"testing"

	"loop.example/g03210/impl"
)

type grounding struct {
	l    []impl.Term
	u    []impl.Term
	size int
}

// groundings returns new memory each time, with shared parts in the terms if share is true.
func groundings(share bool) []grounding {
	var all []grounding
	for _, c := range []struct {
		l, u string
		size int
	}{
		{"", "", 3}, {"", "a", 5}, {"?3 a", "a b", 3}, {"a () (b . 2)", "(a) (b . 1) (b . 2)", 5}, {"(?3 ?1 (b)) (?2 . ?3)", "a (a . b) (c)", 5}, {"(a a) (a a) ((a a) a a)", "() (a a)", 4},
		{"((?0) ?5) (?1 ?8) (a (b))", "b a", 5}, {"(?100000) (?4 b)", "a (b ?0)", 1}, {"(?0 (?1 (c)) ?2 ?0)", "() a 0 (a) (a . b)", 5}, {"(?0 ?1 ?2 ?3 ?4)", "1 2 3 4 5 6 7 8", 5},
	} {
		g := grounding{terms(c.l), terms(c.u), c.size}
		if share {
			part := pair(symbol("a"), pair(number(4), symbol("z")))
			g.l = append(g.l, part, pair(part, pair(variable(0), part)), pair(variable(1), variable(1)), part)
			g.l = append(g.l, g.l...)
			g.u = append(g.u, pair(part, symbol("a")), pair(part, part))
		}
		all = append(all, g)
	}
	return all
}

// results has what all functions return, those that have no value included.
func (g grounding) results() [][]impl.Term {
	all := [][]impl.Term{impl.SubtermsOf(g.l), impl.SubtermsOf(g.u), impl.GroundTerms(g.u, g.size), impl.GroundTerms(g.u, 1), impl.GroundTerms(g.l, 3)}
	for _, term := range append(slices.Clone(g.l), g.u...) {
		all = append(all, impl.GroundInstances(term, g.u), impl.GroundInstances(term, g.u[:len(g.u)/2]), impl.GroundInstances(term, g.l))
	}
	return all
}

// answers has what the functions say that return no terms.
func (g grounding) answers() string {
	text := fmt.Sprint(impl.UniverseOk(g.u), impl.UniverseOk(g.l))
	for _, term := range append(slices.Clone(g.l), g.u...) {
		text += fmt.Sprint(impl.IsGround(term))
	}
	return text
}

func (g grounding) show() string {
	return showAll(impl.Term{Args: g.l}) + showAll(impl.Term{Args: g.u})
}

func TestGroundChangesNoArgument(t *testing.T) {
	for _, share := range []bool{false, true} {
		for i, g := range groundings(share) {
			g.l, g.u = spaced(impl.Term{Args: g.l}).Args, spaced(impl.Term{Args: g.u}).Args
			before := g.show()
			g.answers()
			for _, l := range g.results() {
				if slices.ContainsFunc(l, func(t impl.Term) bool { return !impl.TermOk(t) }) {
					t.Errorf("grounding %d has a result that is no term", i)
				}
			}
			if g.show() != before {
				t.Errorf("grounding %d changes an argument", i)
			}
		}
	}
}

// The arguments may share parts with each other, but not with a result.
func TestResultsOfGroundAreNew(t *testing.T) {
	values := 0
	for _, share := range []bool{false, true} {
		for i, g := range groundings(share) {
			before := g.show()
			results := append(g.results(), g.results()...)
			checkApart(t, fmt.Sprintf("grounding %d", i), results...)
			mine, others := map[*impl.Term]int{}, map[*impl.Term]int{}
			for _, l := range results {
				cellsOf(mine, l)
				values += len(l)
			}
			cellsOf(others, g.l)
			cellsOf(others, g.u)
			for cell := range mine {
				if others[cell] > 0 {
					t.Errorf("grounding %d: a result shares memory with an argument", i)
					break
				}
			}
			for _, l := range results {
				ruin(impl.Term{Args: l})
			}
			if g.show() != before {
				t.Errorf("grounding %d: a change of a result changes an argument", i)
			}
		}
	}
	if values < 2000 {
		t.Errorf("the results have only %d terms", values)
	}
}

// The empty list of parts of an atom may have spare capacity, which is not kept.
func TestGroundKeepsNoSpareCapacity(t *testing.T) {
	room := func() []impl.Term { return make([]impl.Term, 0, 3) }
	u := []impl.Term{{Args: room()}, {Kind: impl.KSym, Name: "a", Args: room()}, {Kind: impl.KInt, Int: 7, Args: room()}}
	u = append(u, pair(u[0], u[1]))
	l := append(slices.Clone(u), impl.Term{Kind: impl.KVar, Int: 5, Args: room()})
	l = append(l, pair(l[4], l[2]), pair(u[1], u[2]))
	for _, size := range []int{1, 3, 5} {
		for _, got := range (grounding{l, u, size}).results() {
			for _, term := range got {
				for _, part := range partsOf(term) {
					if part.Kind != impl.KPair && cap(part.Args) > 0 {
						t.Errorf("a result has an atom with room for parts: %s", brief(term))
					}
				}
			}
		}
	}
}

func TestGroundKeepsNoState(t *testing.T) {
	var before []string
	for range 3 {
		var now []string
		for _, share := range []bool{false, true} {
			for _, g := range groundings(share) {
				now = append(now, g.answers())
				for _, l := range g.results() {
					now = append(now, show(impl.Term{Args: l}))
				}
			}
		}
		if before != nil && !slices.Equal(before, now) {
			t.Error("the results change")
		}
		before = now
	}
}

// Terms that share their Args are the same as terms that do not.
func TestGroundOfSharedArgs(t *testing.T) {
	soon(t, "ground terms with shared parts", func() {
		shared, open := pair(symbol("a"), number(1)), pair(variable(3), variable(0))
		for depth := 1; depth < 20; depth++ {
			shared, open = pair(shared, shared), pair(open, open)
			if !impl.TermOk(shared) {
				checkNoSubterms(t, "too large", []impl.Term{shared})
				checkNoInstances(t, "too large", open, terms("a"))
				checkNotBuilt(t, "too large", []impl.Term{shared}, 1)
				continue
			}
			want := terms("a 1 (a . 1)")
			for n := 1; n <= depth; n++ {
				want = append(want, full(n, term("(a . 1)")))
			}
			checkSubterms(t, []impl.Term{shared, shared}, distinct(want))
			checkBuilt(t, []impl.Term{shared}, 1, []impl.Term{full(depth, term("(a . 1)"))})
			checkInstances(t, open, terms("b 2"), []impl.Term{full(depth, term("(b . b)")), full(depth, term("(b . 2)")), full(depth, term("(2 . b)")), full(depth, term("(2 . 2)"))})
			checkApart(t, "shared parts", impl.SubtermsOf([]impl.Term{shared, shared}), impl.GroundInstances(open, []impl.Term{shared}), impl.GroundInstances(open, terms("b 2")))
		}
	})
}

func TestGroundOfManyTerms(t *testing.T) {
	whole := balanced(4999, empty())
	var l []impl.Term
	for i := range 400 {
		l = append(l, leaves(whole, func(k int) impl.Term { return number((i * k) % 5) }))
	}
	soon(t, "400 terms of MaxTerm nodes", func() {
		for i, term := range l {
			if !impl.IsGround(term) || impl.IsGround(pair(term, variable(0))) {
				t.Errorf("IsGround of the large term %d", i)
			}
		}
		checkUniverse(t, "400 large terms", l, false)
		checkNotBuilt(t, "400 large terms", l, 3)
		checkNoInstances(t, "400 large terms", l[0], l)
		checkAscending(t, impl.SubtermsOf(l))
		checkNoSubterms(t, "the last term is too large", append(l, pair(l[0], symbol("a"))))
		for _, term := range l[:50] {
			checkInstances(t, term, l[:1], []impl.Term{term})
		}
	})
}
