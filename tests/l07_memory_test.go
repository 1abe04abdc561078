package tests

// Chapter 8, canonical names: what chapter 1 says of all functions.

import (
	"fmt"
	"slices"
	"testing"

	"loop.example/g03210/impl"
)

type naming struct {
	s []impl.Binding
	l []impl.Term
	n int
}

// namings returns new memory each time, with shared parts in the terms if share is true.
func namings(share bool) []naming {
	var all []naming
	for _, c := range []struct {
		s, l string
		n    int
	}{
		{"", "", 0}, {"", "?3", 4}, {"", "a () (b . 2)", 7}, {"?3 a", "?3 ?2", 0}, {"?3 (?1 b)", "(?3 ?1) ?3 (?2 . ?3)", 10}, {"?1 (a) ?2 (c d)", "(?2 . ?1) ?5 (?5)", 1},
		{"?0 (?9 (?8)) ?5 ?1", "((?0) ?5) (?1 ?8) (a (b))", 99991}, {"?4 a", "(?100000) (?4 b)", 1}, {"?4 (a)", "?4 (?4 . b) c", -1},
	} {
		m := naming{subst(c.s), terms(c.l), c.n}
		if share {
			part := pair(symbol("a"), pair(variable(0), variable(20)))
			m.s = append(m.s, bind(20, pair(symbol("b"), empty())))
			m.l = append(m.l, part, pair(part, pair(part, part)), variable(20), part)
			m.l = append(m.l, m.l...)
		}
		all = append(all, m)
	}
	return all
}

// results has what all functions return, those that fail included.
func (m naming) results() ([][]impl.Term, [][]int) {
	named := [][]impl.Term{impl.Canonical(m.l)}
	for _, s := range [][]impl.Binding{m.s, nil, m.s} {
		l, ok := impl.Reify(s, m.l)
		if !ok && len(l) > 0 {
			panic("terms with false")
		}
		named = append(named, l)
	}
	for _, term := range m.l {
		for _, n := range []int{m.n, 0} {
			shifted, ok := impl.ShiftTerm(term, n)
			if ok {
				named = append(named, []impl.Term{shifted})
			} else if !same(shifted, empty()) {
				panic("a term with false")
			}
		}
	}
	impl.VarBound(m.l)
	return named, [][]int{impl.OrderedVars(m.l), impl.OrderedVars(m.l[:len(m.l)/2])}
}

func (m naming) show() string { return showSubst(m.s) + showAll(impl.Term{Args: m.l}) }

func TestNamingChangesNoArgument(t *testing.T) {
	for _, share := range []bool{false, true} {
		for i, m := range namings(share) {
			m.s, m.l = spacedSubst(m.s), spaced(impl.Term{Args: m.l}).Args
			before := m.show()
			named, lists := m.results()
			for _, l := range named {
				if slices.ContainsFunc(l, func(t impl.Term) bool { return !impl.TermOk(t) }) {
					t.Errorf("naming %d has a result that is no term", i)
				}
			}
			for _, l := range lists {
				rest := l[len(l):cap(l)]
				for j := range rest {
					rest[j] = -7
				}
			}
			if m.show() != before {
				t.Errorf("naming %d changes an argument", i)
			}
		}
	}
}

// The arguments may share parts with each other, but not with a result.
func TestResultsOfNamingAreNew(t *testing.T) {
	for _, share := range []bool{false, true} {
		for i, m := range namings(share) {
			before := m.show()
			named, lists := m.results()
			again, more := m.results()
			named, lists = append(named, again...), append(lists, more...)
			checkApart(t, fmt.Sprintf("naming %d", i), named...)
			checkNewNames(t, m, named, lists)
			for _, l := range named {
				for _, term := range l {
					ruin(term)
				}
			}
			if m.show() != before {
				t.Errorf("naming %d: a change of a result changes an argument", i)
			}
		}
	}
}

func checkNewNames(t *testing.T, m naming, named [][]impl.Term, lists [][]int) {
	t.Helper()
	mine, others := map[*impl.Term]int{}, map[*impl.Term]int{}
	for _, l := range named {
		cellsOf(mine, l)
	}
	cellsOf(others, m.l)
	cellsOfSubst(others, m.s)
	for cell := range mine {
		if others[cell] > 0 {
			t.Error("a result shares memory with an argument")
			return
		}
	}
	numbers := map[*int]bool{}
	for _, l := range lists {
		for i := range l[:cap(l)] {
			cell := &l[:cap(l)][i]
			if numbers[cell] {
				t.Error("two lists of variables share memory")
				return
			}
			numbers[cell] = true
		}
	}
}

// The empty list of parts of an atom may have spare capacity, which is not kept.
func TestNamingKeepsNoSpareCapacity(t *testing.T) {
	room := func() []impl.Term { return make([]impl.Term, 0, 3) }
	leaves := []impl.Term{{Args: room()}, {Kind: impl.KVar, Int: 5, Args: room()}, {Kind: impl.KSym, Name: "a", Args: room()}, {Kind: impl.KInt, Int: 7, Args: room()}}
	var l []impl.Term
	for _, leaf := range leaves {
		l = append(l, leaf, pair(leaf, leaf), variable(40))
		named, _ := naming{[]impl.Binding{bind(40, leaf)}, l, 3}.results()
		for _, term := range slices.Concat(named...) {
			for _, part := range partsOf(term) {
				if part.Kind != impl.KPair && cap(part.Args) > 0 {
					t.Errorf("a result has an atom with room for parts: %s", brief(term))
				}
			}
		}
	}
}

func TestNamingKeepsNoState(t *testing.T) {
	var before []string
	for range 3 {
		var now []string
		for _, share := range []bool{false, true} {
			for _, m := range namings(share) {
				named, lists := m.results()
				for _, l := range named {
					now = append(now, briefList(l))
				}
				now = append(now, fmt.Sprint(lists, impl.VarBound(m.l)))
			}
		}
		if before != nil && !slices.Equal(before, now) {
			t.Errorf("the results are %q, and then %q", before, now)
		}
		before = now
	}
}

// Terms that share their Args are the same as terms that do not.
func TestNamesOfSharedArgs(t *testing.T) {
	soon(t, "names in shared parts", func() {
		shared := pair(variable(7), variable(3))
		for depth := 2; depth < 20; depth++ {
			shared = pair(shared, shared)
			l := []impl.Term{shared, variable(3), shared}
			if !impl.TermOk(shared) {
				checkNamesRefused(t, "too large", l)
				checkNotShifted(t, "too large", shared, 0)
				continue
			}
			checkOrdered(t, l, []int{7, 3})
			checkBound(t, l, 8)
			checkCanonical(t, l, []impl.Term{full(depth-1, pair(variable(0), variable(1))), variable(1), full(depth-1, pair(variable(0), variable(1)))})
			checkShifted(t, shared, 4, full(depth-1, pair(variable(11), variable(7))))
			checkApart(t, "shared parts", impl.Canonical(l))
		}
	})
}

func TestNamesOfManyLargeTerms(t *testing.T) {
	whole := balanced(4999, empty())
	var l []impl.Term
	for i := range 400 {
		l = append(l, leaves(whole, func(k int) impl.Term { return variable((250*i + k) % 100001) }))
	}
	s := manyBindings(0, 400, pair(symbol("a"), variable(100000)))
	soon(t, "names of 400 terms of MaxTerm nodes", func() {
		if got := impl.OrderedVars(l); len(got) != 100001 || got[0] != 0 || got[100000] != 100000 {
			t.Errorf("OrderedVars has %d variables", len(got))
		}
		checkBound(t, l, 100001)
		if got := impl.Canonical(l); !sameTerms(got, l) {
			t.Error("Canonical changes names that are numbered already")
		}
		if got, ok := impl.Reify(nil, l); !ok || !sameTerms(got, l) {
			t.Error("Reify changes names that are numbered already")
		}
		checkNotReified(t, "the first term is too large", s, l)
		checkNotReified(t, "the last term is too large", s, append(l[2:40:40], l[0]))
		checkNamesRefused(t, "the last term is too large", append(l, pair(l[0], variable(0))))
		for i, term := range l[:20] {
			checkShifted(t, term, 1000, leaves(whole, func(k int) impl.Term { return variable(250*i + k + 1000) }))
		}
	})
}
