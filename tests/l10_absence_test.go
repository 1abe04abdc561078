package tests

// Chapter 11, kinds and absence: P9 for AddAbsence and RefreshMarks.

import (
	"slices"
	"testing"

	"loop.example/g03210/impl"
)

func TestAddAbsence(t *testing.T) {
	for _, c := range []struct{ s, l, t, tag, want string }{
		// Terms without variables.
		{"", "", "()", "a", ""}, {"", "", "b", "a", ""}, {"", "", "7", "a", ""}, {"", "", "(b (c . 1) aa)", "a", ""}, {"", "0:b 3:a", "b", "a", "0:b 3:a"}, {"", "0:b 3:a", "(3 0 . b)", "a", "0:b 3:a"},
		// With one, with several, with the same one several times.
		{"", "", "?0", "a", "0:a"}, {"", "", "?100000", "a-b", "100000:a-b"}, {"", "", "(b . ?4)", "a", "4:a"}, {"", "", "(?4 . b)", "a", "4:a"}, {"", "", "(?4 ?4 (?4) . ?4)", "a", "4:a"}, {"", "", "(?9 (?2 . ?7) ?2 ?0 ?9)", "a", "0:a 2:a 7:a 9:a"}, {"", "", "((?2 . ?1) . ?0)", "a", "0:a 1:a 2:a"},
		// Marks that are in the list already: all, some, the first, one between, the last.
		{"", "0:a", "?0", "a", "0:a"}, {"", "0:a 2:a 7:a", "(?7 ?2 ?0)", "a", "0:a 2:a 7:a"}, {"", "0:a 2:a 7:a", "?0", "a", "0:a 2:a 7:a"}, {"", "0:a 2:a 7:a", "?2", "a", "0:a 2:a 7:a"}, {"", "0:a 2:a 7:a", "?7", "a", "0:a 2:a 7:a"}, {"", "2:a 7:a", "(?0 ?2 ?5 ?7 ?9)", "a", "0:a 2:a 5:a 7:a 9:a"},
		// Before all elements, between two, behind all.
		{"", "3:a", "?2", "a", "2:a 3:a"}, {"", "3:a", "?4", "a", "3:a 4:a"}, {"", "3:a 5:a", "?4", "a", "3:a 4:a 5:a"}, {"", "3:a 5:a", "(?6 ?4 ?2)", "a", "2:a 3:a 4:a 5:a 6:a"}, {"", "0:b 100000:c", "(?100000 ?0 ?1)", "bb", "0:b 0:bb 1:bb 100000:bb 100000:c"},
		// The same variable with another tag, before and behind it.
		{"", "3:b", "?3", "a", "3:a 3:b"}, {"", "3:b", "?3", "c", "3:b 3:c"}, {"", "3:b 3:d", "?3", "c", "3:b 3:c 3:d"}, {"", "2:b 3:a 3:b 4:b", "(?3 ?2 ?4)", "c", "2:b 2:c 3:a 3:b 3:c 4:b 4:c"}, {"", "2:z 3:a", "?2", "b", "2:b 2:z 3:a"}, {"", "2:b 3:a", "?2", "z", "2:b 2:z 3:a"},
		{"", "1:ab", "?1", "a", "1:a 1:ab"}, {"", "1:a 1:b", "?1", "aa", "1:a 1:aa 1:b"}, {"", "1:a10 1:a2", "?1", "a1", "1:a1 1:a10 1:a2"}, {"", "1:a 1:a0 1:aa", "?1", "a-", "1:a 1:a- 1:a0 1:aa"},
		// What s binds variables to.
		{"?3 ?1", "", "?3", "a", "1:a"}, {"?3 ?1", "1:a", "?3", "a", "1:a"}, {"?3 b", "", "?3", "a", ""}, {"?3 b", "0:a", "(?3)", "a", "0:a"}, {"?3 (?1 . ?7)", "", "(?3 ?5)", "a", "1:a 5:a 7:a"}, {"?3 (?1 ?1) ?5 (?1 . ?0)", "", "(?5 . ?3)", "a", "0:a 1:a"}, {"?3 5 ?4 ()", "", "(?3 ?4)", "a", ""},
		// A list is not looked at through s: only t is.
		{"?3 ?1", "3:a", "?3", "b", "1:b 3:a"}, {"?3 ?1", "3:a", "?3", "a", "1:a 3:a"}, {"?3 a", "3:a", "?1", "a", "1:a 3:a"}, {"?3 a", "", "?1", "a", "1:a"}, {"?3 a", "3:a", "?3", "b", "3:a"},
		// A tag that looks like another term's text.
		{"", "", "(a-1 1 -1 () . ?1)", "a", "1:a"}, {"", "", "(a aa . ?1)", "aaa", "1:aaa"},
	} {
		checkAbsent(t, subst(c.s), marks(c.l), term(c.t), c.tag, marks(c.want)...)
	}
}

func TestAddAbsenceFails(t *testing.T) {
	for _, c := range []struct{ s, l, t, tag string }{
		// The symbol in the term.
		{"", "", "a", "a"}, {"", "", "abcdefghijkl", "abcdefghijkl"}, {"", "", "(a . ?0)", "a"}, {"", "", "(?0 . a)", "a"}, {"", "", "(?0 b ((c . a)) ?1)", "a"}, {"", "0:a", "(?0 . a)", "a"}, {"", "0:a 5:b", "(?0 ?1 a b)", "b"}, {"", "0:a 5:b", "a", "a"},
		// In what s binds a variable to.
		{"?3 a", "", "?3", "a"}, {"?3 (b . a)", "", "?3", "a"}, {"?3 a", "", "(?0 . ?3)", "a"}, {"?3 a", "", "(?3 ?0)", "a"}, {"?1 (?0) ?3 (?2 a)", "0:b 2:b", "(?1 ?2 ?3)", "a"}, {"?1 (?0) ?3 (?2 a)", "0:a 2:a", "(?1 ?2 ?3)", "a"}, {"?3 a", "3:a", "?3", "a"},
	} {
		checkNotAbsent(t, "it fails", subst(c.s), marks(c.l), term(c.t), c.tag)
	}
}

func TestAddAbsenceOfNoName(t *testing.T) {
	for _, tag := range badTags() {
		for _, s := range [][]impl.Binding{nil, subst("?3 a"), subst("?3 (?2)")} {
			for _, l := range [][]impl.Mark{nil, marks("2:a"), marks("0:a 3:b")} {
				for _, term := range append(terms("b () 7 (b . c) ?0 ?3 (?2 ?3)"), symbol(tag), pair(symbol(tag), symbol("b"))) {
					checkNotAbsent(t, "no name", s, l, term, tag)
				}
			}
		}
	}
}

func TestAddAbsenceToGoodLists(t *testing.T) {
	list := append(terms("b 7 ()"), pair(variable(100000), variable(0)), listOf(variables(0, 9)...), listOf(variable(4999), variable(5000), variable(90000), variable(91999), variable(92000)))
	for _, l := range goodMarks() {
		for _, s := range [][]impl.Binding{nil, subst("?50000 a"), subst("?4 ?2 ?5 b ?7 (c . ?50000)")} {
			for _, term := range list {
				for _, tag := range []string{"a", "bb", "t002000", "zzzzzzzzzzzz"} {
					want, _ := withMarksFast(s, l, term, tag)
					checkAbsent(t, s, l, term, tag, want...)
				}
			}
		}
	}
}

// withMarksFast is withMarks for longer lists.
func withMarksFast(s []impl.Binding, l []impl.Mark, t impl.Term, tag string) ([]impl.Mark, bool) {
	more, ok := withMarks(s, nil, t, tag)
	all := slices.Concat(l, more)
	slices.SortStableFunc(all, func(a, b impl.Mark) int { return boolAsInt(markLess(b, a)) - boolAsInt(markLess(a, b)) })
	return slices.Compact(all), ok
}

func TestAddAbsenceUnderGoodSubsts(t *testing.T) {
	l := marks("0:zz 3:b 70000:a")
	for name, s := range goodSubsts() {
		if len(s) == 0 {
			checkAbsent(t, s, l, variable(5), "zz", marks("0:zz 3:b 5:zz 70000:a")...)
			continue
		}
		for _, b := range []impl.Binding{s[0], s[len(s)/2], s[len(s)-1]} {
			for _, tag := range []string{"a", "zz", "abcdefghijkl"} {
				if hasSymbol(b.To, tag) {
					checkNotAbsent(t, name, s, l, variable(b.Var), tag)
				} else {
					want, _ := withMarks(nil, l, b.To, tag)
					checkAbsent(t, s, l, variable(b.Var), tag, want...)
				}
			}
		}
	}
}

func TestAddAbsenceUpToMaxTerm(t *testing.T) {
	a, b, x := symbol("a"), symbol("b"), variable(0)
	all := leaves(balanced(4999, empty()), func(k int) impl.Term { return variable(5000 - 2*k) })
	checkAbsent(t, nil, nil, all, "a", everySecond(2, 2500, "a")...)
	checkAbsent(t, nil, manyMarks(0, 6000, "a"), all, "a", manyMarks(0, 6000, "a")...)
	checkAbsent(t, nil, everySecond(1, 2500, "a"), all, "a", manyMarks(1, 5000, "a")...)
	checkAbsent(t, nil, nil, balanced(4999, b), "a")
	checkNotAbsent(t, "deep in it", nil, nil, leaves(balanced(4999, empty()), func(k int) impl.Term { return []impl.Term{x, a}[boolAsInt(k == 1700)] }), "a")
	for _, left := range []bool{false, true} {
		checkAbsent(t, nil, nil, pairs(2499, left, b, x), "a", markOf(0, "a"))
		checkNotAbsent(t, "deep in it", nil, nil, pairs(2499, left, b, a), "a")
		checkNotAbsent(t, "too large", nil, nil, pairs(2500, left, b, x), "a")
	}
	// A result that does not fit, and one that just does.
	half, more := balanced(2499, variable(1)), balanced(2501, variable(1))
	checkAbsent(t, substOf(bind(0, half)), nil, pair(x, x), "a", markOf(1, "a"))
	checkNotAbsent(t, "too large", substOf(bind(0, more)), nil, pair(x, x), "a")
	checkAbsent(t, substOf(bind(0, balanced(4999, b))), marks("0:b"), x, "a", marks("0:b")...)
	checkNotAbsent(t, "too large", substOf(bind(0, balanced(4999, b))), marks("0:b"), pair(x, x), "a")
	checkNotAbsent(t, "too large by one pair", substOf(bind(0, balanced(4999, b))), nil, pair(b, x), "a")
	checkNotAbsent(t, "too large", nil, nil, balanced(5001, x), "a")
}

// everySecond has n marks of every second variable.
func everySecond(first int, n int, tag string) []impl.Mark {
	var l []impl.Mark
	for i := range n {
		l = append(l, markOf(first+2*i, tag))
	}
	return l
}

func TestAddAbsenceRefuses(t *testing.T) {
	b := symbol("b")
	for name, bad := range badSubsts() {
		for _, term := range []impl.Term{b, variable(9), variable(1), {Kind: -1}} {
			checkNotAbsent(t, name, bad, nil, term, "zz")
		}
		checkNotAbsent(t, name, bad, marks("1:a 9:a"), variable(9), "zz")
		checkNotAbsent(t, name, bad, marks("9:a 1:a"), variable(9), "zz")
		checkNotAbsent(t, name, bad, nil, variable(9), "A")
	}
	for name, bad := range badTerms() {
		for _, tag := range []string{"zz", "a", "", bad.Name} {
			checkNotAbsent(t, name, nil, nil, bad, tag)
			checkNotAbsent(t, name, subst("?0 b"), marks("0:a 3:a"), bad, tag)
			checkNotAbsent(t, name, subst("?9 b"), marks("3:a 0:a"), bad, tag)
		}
	}
	for name, bad := range badMarks() {
		for _, term := range append(terms("b 1 () ?0 ?1 ?5"), variable(50), pair(variable(3), variable(50))) {
			checkNotAbsent(t, name, nil, bad, term, "a")
			checkNotAbsent(t, name, subst("?50 1 ?51 b"), bad, term, "zz")
		}
	}
	// What is no substitution, although it is a list of values.
	checkNotAbsent(t, "a variable for a greater one", values("?0 ?1"), nil, variable(2), "a")
	checkNotAbsent(t, "a variable for itself", values("?1 ?1"), nil, variable(2), "a")
}

func TestAddAbsenceOfAllSmallLists(t *testing.T) {
	list := append(allTerms([]impl.Term{variable(0), variable(1), variable(3), symbol("a")}, 3), terms("b ?2 (?2 b) 1 () (?4 (?0 . c) ?2)")...)
	counts := [2]int{}
	for i, s := range smallSubsts() {
		for j, l := range smallMarks() {
			for n := (i + j) % 11; n < len(list); n += 11 {
				tag := []string{"a", "b", "c"}[(i+j+n)%3]
				want, ok := withMarks(s, l, list[n], tag)
				counts[boolAsInt(ok)]++
				if ok {
					checkAbsent(t, s, l, list[n], tag, want...)
				} else {
					checkNotAbsent(t, brief(list[n]), s, l, list[n], tag)
				}
			}
		}
	}
	if counts[0] < 5000 || counts[1] < 5000 {
		t.Errorf("AddAbsence fails and succeeds %d times", counts)
	}
}

func TestRefreshMarks(t *testing.T) {
	for _, c := range [][3]string{
		// s that binds none of the variables.
		{"", "", ""}, {"", "0:a", "0:a"}, {"", "100000:a", "100000:a"}, {"", "0:a 0:b 3:a 7:c", "0:a 0:b 3:a 7:c"}, {"?1 a", "0:a 0:b 3:a 7:c", "0:a 0:b 3:a 7:c"}, {"?1 (?0 a) ?9 (?3 b)", "0:a 0:b 3:a 7:c", "0:a 0:b 3:a 7:c"}, {"?0 a", "", ""},
		// Some or all of them, to terms without variables.
		{"?0 c", "0:a", ""}, {"?0 ()", "0:a", ""}, {"?0 7", "0:a", ""}, {"?0 (b (aa . ab) . 1)", "0:a", ""}, {"?3 b", "0:a 0:b 3:a 7:c", "0:a 0:b 7:c"}, {"?0 c", "0:a 0:b 3:a 7:c", "3:a 7:c"}, {"?7 a", "0:a 0:b 3:a 7:c", "0:a 0:b 3:a"}, {"?0 c ?3 b ?7 (a b)", "0:a 0:b 3:a 7:c", ""},
		// To other variables, in their order.
		{"?3 ?1", "3:a", "1:a"}, {"?3 ?1", "2:b 3:a 3:c", "1:a 1:c 2:b"}, {"?9 ?0", "2:a 3:b 9:c", "0:c 2:a 3:b"}, {"?7 ?5 ?8 ?4 ?9 ?6", "7:a 8:b 9:c", "4:b 5:a 6:c"}, {"?3 ?0 ?4 ?1", "2:a 3:b 4:a 5:b", "0:b 1:a 2:a 5:b"}, {"?100000 ?99999", "100000:a", "99999:a"},
		// To terms with one, with several, with the same variable several times.
		{"?3 (?1)", "3:a", "1:a"}, {"?3 (?7 ?1 . ?4)", "3:a", "1:a 4:a 7:a"}, {"?3 (?7 ?1 . ?4)", "3:a 3:b", "1:a 1:b 4:a 4:b 7:a 7:b"}, {"?3 (?7 ?1 . ?4)", "1:b 3:a 4:c 5:a 7:a", "1:a 1:b 4:a 4:c 5:a 7:a"}, {"?3 (?1 ?1 (?1))", "3:a", "1:a"}, {"?3 (?100000 . ?0)", "3:a", "0:a 100000:a"},
		// To variables that have the mark already, or another one.
		{"?3 ?1", "1:a 3:a", "1:a"}, {"?3 ?1", "1:b 3:a", "1:a 1:b"}, {"?3 ?1", "1:a 3:b", "1:a 1:b"}, {"?3 ?1", "1:a 1:c 3:a 3:b 3:c", "1:a 1:b 1:c"}, {"?3 (?1 . ?5)", "1:a 3:a 5:a", "1:a 5:a"}, {"?3 ?1 ?4 ?1", "3:a 4:a", "1:a"}, {"?3 ?1 ?4 ?1", "3:b 4:a", "1:a 1:b"}, {"?3 (?0 ?1) ?4 (?1 ?2)", "3:b 4:a", "0:b 1:a 1:b 2:a"}, {"?3 (?0 ?1) ?4 (?1 ?2) ?5 (?2 ?0)", "0:c 3:b 4:a 5:a", "0:a 0:b 0:c 1:a 1:b 2:a"},
		{"?5 (?0 ?2) ?6 (?1 ?2) ?7 (?0 ?1)", "5:a 5:b 6:b 6:c 7:a 7:c", "0:a 0:b 0:c 1:a 1:b 1:c 2:a 2:b 2:c"},
		// What s says of other variables does not matter.
		{"?3 ?1 ?4 a", "3:a", "1:a"}, {"?0 (a) ?3 ?1", "3:a", "1:a"}, {"?3 (?1 b) ?4 a", "3:a 5:b", "1:a 5:b"},
	} {
		checkMarksFresh(t, subst(c[0]), marks(c[1]), marks(c[2])...)
	}
}

func TestRefreshMarksFails(t *testing.T) {
	for _, c := range [][2]string{
		{"?0 a", "0:a"}, {"?0 (a)", "0:a"}, {"?0 (b (?1 . a))", "0:a"}, {"?0 (?1 a ?2)", "0:a 1:b"}, {"?100000 a", "100000:a"}, {"?0 abcdefghijkl", "0:abcdefghijkl"},
		// The first of several, one between, the last.
		{"?0 a", "0:a 0:b 3:a 7:c"}, {"?0 b", "0:a 0:b 3:a 7:c"}, {"?0 (c ?3 . b)", "0:a 0:b 3:a 7:c"}, {"?3 a", "0:a 0:b 3:a 7:c"}, {"?3 (?0 a)", "0:a 0:b 3:a 7:c"}, {"?7 c", "0:a 0:b 3:a 7:c"}, {"?7 (?0 . c)", "0:a 0:b 3:a 7:c"},
		{"?0 b ?1 b ?2 a", "0:a 1:a 2:a"}, {"?0 b ?1 a ?2 b", "0:a 1:a 2:a"}, {"?0 a ?1 b ?2 b", "0:a 1:a 2:a"}, {"?3 a", "3:a 3:b 3:c"}, {"?3 b", "3:a 3:b 3:c"}, {"?3 c", "3:a 3:b 3:c"},
	} {
		checkNoMarksFresh(t, "it fails", subst(c[0]), marks(c[1]))
	}
}

func TestRefreshMarksOfGoodLists(t *testing.T) {
	for _, l := range goodMarks() {
		checkMarksFresh(t, nil, l, l...)
		checkMarksFresh(t, subst("?70000 (a)"), l, l...)
		for _, place := range []int{0, len(l) / 2, len(l) - 1} {
			if len(l) == 0 {
				continue
			}
			x := l[place]
			rest := slices.DeleteFunc(slices.Clone(l), func(y impl.Mark) bool { return y.Var == x.Var })
			checkMarksFresh(t, substOf(bind(x.Var, number(5))), l, rest...)
			checkMarksFresh(t, substOf(bind(x.Var, symbol("zzzzzzzzzzzz"))), l, rest...)
			checkNoMarksFresh(t, "one fails", substOf(bind(x.Var, pair(variable(80000), symbol(x.Tag)))), l)
		}
	}
}

func TestRefreshMarksUnderMaxBindings(t *testing.T) {
	b := symbol("b")
	checkMarksFresh(t, manyBindings(1, 400, variable(0)), manyMarks(1, 400, "a", "b"), marks("0:a 0:b")...)
	checkMarksFresh(t, manyBindings(1, 400, b), manyMarks(0, 402, "a"), marks("0:a 401:a")...)
	checkMarksFresh(t, manyBindings(5, 400, b), manyMarks(5, 400, "a", "c"))
	checkNoMarksFresh(t, "one of them has the symbol", manyBindings(1, 400, b), append(manyMarks(1, 400, "a"), markOf(400, "b")))
	checkNoMarksFresh(t, "more than MaxBindings", manyBindings(1, 401, b), manyMarks(0, 5, "a"))
	for name, s := range goodSubsts() {
		if name == "the largest list" {
			checkMarksFresh(t, s, marks("3:a 99601:a 99601:c 100000:b"), marks("0:a 0:b 0:c 3:a")...)
			continue
		}
		for _, tag := range []string{"a", "zz"} {
			var l []impl.Mark
			for _, x := range s {
				l = append(l, markOf(x.Var, tag))
			}
			if want, ok := freshMarks(s, l); ok {
				checkMarksFresh(t, s, l, want...)
			} else {
				checkNoMarksFresh(t, name, s, l)
			}
		}
	}
}

func TestRefreshMarksRefuses(t *testing.T) {
	for name, bad := range badSubsts() {
		for _, l := range [][]impl.Mark{nil, {}, marks("9:zz"), marks("1:zz 5:zz"), marks("5:zz 1:zz")} {
			checkNoMarksFresh(t, name, bad, l)
		}
	}
	for name, bad := range badMarks() {
		for _, s := range [][]impl.Binding{nil, {}, subst("?1 zz"), subst("?2 ?1"), subst("?50 a"), values("?0 ?1")} {
			checkNoMarksFresh(t, name, s, bad)
		}
	}
	checkNoMarksFresh(t, "values", values("?0 ?1"), nil)
	checkNoMarksFresh(t, "values", values("?1 ?1"), marks("2:a"))
}

func TestRefreshMarksOfAllSmallLists(t *testing.T) {
	counts := [2]int{}
	for _, s := range smallSubsts() {
		for _, l := range smallMarks() {
			want, ok := freshMarks(s, l)
			counts[boolAsInt(ok)]++
			if ok {
				checkMarksFresh(t, s, l, want...)
			} else {
				checkNoMarksFresh(t, briefSubst(s), s, l)
			}
		}
	}
	if counts[0] < 5000 || counts[1] < 5000 {
		t.Errorf("RefreshMarks fails and succeeds %d times", counts)
	}
}
