package tests

// Chapter 11, kinds and absence: what chapter 1 says of all functions.

import (
	"fmt"
	"slices"
	"testing"

	"loop.example/g03210/impl"
)

// A requiring has arguments for all functions.
type requiring struct {
	s     []impl.Binding
	kinds []impl.VarKind
	marks []impl.Mark
	terms []impl.Term
	tags  []string
}

// requirings returns new memory each time, with shared parts if share is true.
func requirings(share bool) []requiring {
	var all []requiring
	for _, c := range [][4]string{
		{"", "", "", "?0 a 1 ()"},
		{"", "0:s 3:i 7:s", "0:a 0:b 3:a 7:c", "?0 ?1 ?3 ?9 a 1 () (?0 . ?5) (b ?3)"},
		{"?9 (?1 ?1 ?2)", "0:s 1:i 2:s", "1:a 2:b 9:a 9:c", "?9 ?1 (?9 ?3) (a . ?9) ?4"},
		{"?3 ?1 ?5 ?2 ?6 z", "0:s 3:i 5:s 6:s", "0:a 3:a 5:b 5:c 6:a", "?3 ?5 ?6 ?7 (?3 ?5 . ?6) ?1"},
		{"?3 ?1 ?4 ?1 ?7 5", "1:i 3:i 4:i 7:i", "1:a 3:a 4:a 4:b 7:a", "?1 ?3 ?4 ?7 (?1 ?3 ?4 ?7) (?8 . ?0)"},
		{"?1 () ?2 (a b)", "1:s 2:i", "1:a 2:a", "?1 ?2 (?1 . ?2) ?3"},
	} {
		g := requiring{subst(c[0]), kinds(c[1]), marks(c[2]), terms(c[3]), []string{"a", "b", "c", "zz"}}
		if share {
			part := pair(symbol("b"), pair(variable(0), variable(20)))
			g.s = append(g.s, bind(21, part), bind(22, pair(part, part)), bind(23, part))
			g.kinds = append(g.kinds, kinds("30:s 31:i")...)
			g.marks = append(g.marks, marks("21:a 22:a 22:c 23:zz")...)
			g.terms = append(g.terms, part, pair(part, variable(21)), pair(part, pair(part, variable(22))))
		}
		all = append(all, g)
	}
	return all
}

// kindLists and markLists have what the functions return: an empty list where they fail.
func (g requiring) kindLists() [][]impl.VarKind {
	var lists [][]impl.VarKind
	keep := func(l []impl.VarKind, ok bool) { lists = append(lists, l) }
	for _, s := range [][]impl.Binding{nil, g.s} {
		for _, l := range [][]impl.VarKind{g.kinds, nil, g.kinds[:len(g.kinds)/2]} {
			keep(impl.RefreshKinds(s, l))
			for _, t := range g.terms {
				keep(impl.AddKind(s, l, t, impl.KSym))
				keep(impl.AddKind(s, l, t, impl.KInt))
			}
		}
	}
	return lists
}

func (g requiring) markLists() [][]impl.Mark {
	var lists [][]impl.Mark
	keep := func(l []impl.Mark, ok bool) { lists = append(lists, l) }
	for _, s := range [][]impl.Binding{nil, g.s} {
		for _, l := range [][]impl.Mark{g.marks, nil, g.marks[:len(g.marks)/2]} {
			keep(impl.RefreshMarks(s, l))
			for _, t := range g.terms {
				for _, tag := range g.tags {
					keep(impl.AddAbsence(s, l, t, tag))
				}
			}
		}
	}
	return lists
}

// answers has what the functions say that return no list.
func (g requiring) answers() []bool {
	answers := []bool{impl.KindsOk(g.kinds), impl.MarksOk(g.marks)}
	for _, t := range g.terms {
		for _, tag := range g.tags {
			answers = append(answers, impl.ContainsSymbol(t, tag))
		}
	}
	return answers
}

func (g requiring) show() string {
	return fmt.Sprint(showSubst(g.s), len(g.kinds), g.kinds[:cap(g.kinds)], len(g.marks), g.marks[:cap(g.marks)], showAll(impl.Term{Args: g.terms}), g.tags)
}

// withRoom returns l with spare capacity, which holds something of its own.
func withRoom[E any](l []E, spare E) []E {
	all := append(make([]E, 0, len(l)+3), l...)
	rest := all[len(all):cap(all)]
	for i := range rest {
		rest[i] = spare
	}
	return all
}

func (g requiring) spaced() requiring {
	g.s, g.terms = spacedSubst(g.s), spaced(impl.Term{Args: g.terms}).Args
	g.kinds, g.marks = withRoom(g.kinds, kindOf(7, impl.KInt)), withRoom(g.marks, markOf(7, "spare"))
	return g
}

func TestKindsAndMarksChangeNoArgument(t *testing.T) {
	for _, share := range []bool{false, true} {
		for i, g := range requirings(share) {
			g = g.spaced()
			before := g.show()
			g.answers()
			for _, l := range g.kindLists() {
				if !impl.KindsOk(l) {
					t.Errorf("requiring %d has a result that is no kind list: %v", i, l)
				}
			}
			for _, l := range g.markLists() {
				if !impl.MarksOk(l) {
					t.Errorf("requiring %d has a result that is no mark list: %v", i, l)
				}
			}
			if g.show() != before {
				t.Errorf("requiring %d changes an argument", i)
			}
		}
	}
}

// checkListsApart reports whether two of some lists share memory, spare
// capacity included.
func checkListsApart[E any](t *testing.T, name string, lists ...[]E) {
	t.Helper()
	cells := map[*E]bool{}
	for _, l := range lists {
		whole := l[:cap(l)]
		for i := range whole {
			if cells[&whole[i]] {
				t.Errorf("%s: lists share memory", name)
				return
			}
			cells[&whole[i]] = true
		}
	}
}

// That holds also where nothing is added, or nothing refreshed.
func TestResultsOfKindsAndMarksAreNew(t *testing.T) {
	elements := 0
	for _, share := range []bool{false, true} {
		for i, g := range requirings(share) {
			g = g.spaced()
			before := g.show()
			name := fmt.Sprintf("requiring %d", i)
			typed := append(g.kindLists(), g.kindLists()...)
			marked := append(g.markLists(), g.markLists()...)
			checkListsApart(t, name, append(typed, g.kinds)...)
			checkListsApart(t, name, append(marked, g.marks)...)
			for _, l := range typed {
				elements += len(l)
				whole := l[:cap(l)]
				for j := range whole {
					whole[j] = kindOf(-1, -1)
				}
			}
			for _, l := range marked {
				elements += len(l)
				whole := l[:cap(l)]
				for j := range whole {
					whole[j] = markOf(-1, "RUINED")
				}
			}
			if g.show() != before {
				t.Errorf("%s: a change of a result changes an argument", name)
			}
		}
	}
	if elements < 1000 {
		t.Errorf("the results have only %d elements", elements)
	}
}

func TestKindsAndMarksKeepNoState(t *testing.T) {
	var before []string
	for range 3 {
		var now []string
		for _, share := range []bool{false, true} {
			for _, g := range requirings(share) {
				now = append(now, fmt.Sprint(g.kindLists(), g.markLists(), g.answers()))
			}
		}
		if before != nil && !slices.Equal(before, now) {
			t.Error("the results change")
		}
		before = now
	}
}

// An empty list is the same as none, in all arguments.
func TestKindsAndMarksOfEmptyLists(t *testing.T) {
	for _, s := range [][]impl.Binding{nil, {}} {
		checkKindsFresh(t, s, nil)
		checkKindsFresh(t, s, []impl.VarKind{})
		checkMarksFresh(t, s, nil)
		checkMarksFresh(t, s, []impl.Mark{})
		for _, l := range [][]impl.VarKind{nil, {}} {
			checkKindAdded(t, s, l, symbol("a"), impl.KSym)
			checkKindAdded(t, s, l, variable(3), impl.KSym, kindOf(3, impl.KSym))
		}
		for _, l := range [][]impl.Mark{nil, {}} {
			checkAbsent(t, s, l, symbol("b"), "a")
			checkAbsent(t, s, l, impl.Term{Args: []impl.Term{}}, "a")
			checkAbsent(t, s, l, variable(3), "a", markOf(3, "a"))
		}
	}
}

// Terms that share their Args are the same as terms that do not.
func TestKindsAndMarksOfSharedArgs(t *testing.T) {
	soon(t, "kinds and marks with shared parts", func() {
		open, closed := pair(variable(1), variable(0)), pair(symbol("b"), number(1))
		for depth := 1; depth < 40; depth++ {
			open, closed = pair(open, open), pair(closed, closed)
			s := substOf(bind(5, open), bind(6, closed))
			if !impl.TermOk(open) {
				checkNotAbsent(t, "too large", nil, nil, open, "a")
				checkNotAbsent(t, "too large", nil, nil, closed, "a")
				checkNoKindAdded(t, "too large", nil, nil, open, impl.KSym)
				checkNoKindsFresh(t, "too large", s, nil)
				checkNoMarksFresh(t, "too large", s, nil)
				if impl.ContainsSymbol(closed, "b") {
					t.Errorf("depth %d: too large", depth)
				}
				continue
			}
			checkAbsent(t, s, marks("0:a 5:c"), variable(5), "b", marks("0:a 0:b 1:b 5:c")...)
			checkNotAbsent(t, "it has the symbol", s, nil, variable(6), "b")
			checkMarksFresh(t, s, marks("0:c 5:a 5:c 6:a"), marks("0:a 0:c 1:a 1:c")...)
			checkNoMarksFresh(t, "it has the symbol", s, marks("5:b 6:b"))
			checkNoKindsFresh(t, "a pair", s, kinds("5:i"))
			checkContains(t, closed, "b", true)
			checkContains(t, open, "b", false)
		}
	})
}

// manyVariables has MaxTerm nodes and n of every so many variables from first on.
func manyVariables(first int, step int) impl.Term {
	return leaves(balanced(4999, empty()), func(k int) impl.Term { return variable((first + step*k) % 99000) })
}

// Thousands of marks in the largest terms end soon: each term is looked at only
// a few times, and the marks are not moved again for each of them.
func TestMarksOfTheLargestTerms(t *testing.T) {
	soon(t, "marks of the largest substitution", func() {
		var s []impl.Binding
		for i := range 400 {
			s = append(s, bind(99100+i, manyVariables(i*240, 1)))
		}
		l := manyMarks(99100, 400, "a", "b")
		want := manyMarks(0, 98260, "a", "b")
		checkMarksFresh(t, s, l, want...)
		checkMarksFresh(t, s, append(slices.Clone(want), l...), want...)
		checkAbsent(t, s, want, variable(99499), "b", want...)
		checkNoMarksFresh(t, "the last one is bound to the symbol", append(s, bind(99700, symbol("zz")))[1:], append(l, markOf(99700, "zz")))
	})
	soon(t, "many tags of a large term", func() {
		tags := manyTags(300)
		s := substOf(bind(6000, manyVariables(0, 2)))
		var want []impl.Mark
		for i := range 2500 {
			want = append(want, manyMarks(2*i, 1, tags...)...)
		}
		checkMarksFresh(t, s, manyMarks(6000, 1, tags...), want...)
		checkMarksFresh(t, nil, want, want...)
		checkNoMarksFresh(t, "one symbol", substOf(bind(6000, pairs(2499, false, variable(0), symbol(tags[299])))), manyMarks(6000, 1, tags...))
	})
	soon(t, "tags of all variables", func() {
		all := manyMarks(0, 100001, "a", "b", "c")
		checkMarksFresh(t, nil, all, all...)
		checkAbsent(t, nil, all, manyVariables(0, 7), "b", all...)
		checkNoMarksFresh(t, "the last variable", subst("?100000 c"), all)
	})
}
