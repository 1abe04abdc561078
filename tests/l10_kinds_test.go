package tests

// Chapter 11, kinds and absence: P9 for AddKind and RefreshKinds.

import (
	"slices"
	"testing"

	"loop.example/g03210/impl"
)

func TestAddKind(t *testing.T) {
	for _, c := range []struct{ s, l, t, k, want string }{
		// A variable that is new: to no list, before all, between two, behind all.
		{"", "", "?0", "s", "0:s"}, {"", "", "?100000", "i", "100000:i"}, {"", "3:s", "?2", "i", "2:i 3:s"}, {"", "3:s", "?2", "s", "2:s 3:s"}, {"", "3:s", "?4", "i", "3:s 4:i"},
		{"", "2:s 5:i 9:s", "?0", "s", "0:s 2:s 5:i 9:s"}, {"", "2:s 5:i 9:s", "?3", "i", "2:s 3:i 5:i 9:s"}, {"", "2:s 5:i 9:s", "?8", "s", "2:s 5:i 8:s 9:s"}, {"", "2:s 5:i 9:s", "?10", "i", "2:s 5:i 9:s 10:i"},
		{"", "0:i", "?100000", "s", "0:i 100000:s"}, {"", "100000:i", "?0", "s", "0:s 100000:i"},
		// One that has the kind already: the only one, the first, one between, the last.
		{"", "0:s", "?0", "s", "0:s"}, {"", "100000:i", "?100000", "i", "100000:i"}, {"", "2:s 5:i 9:s", "?2", "s", "2:s 5:i 9:s"}, {"", "2:s 5:i 9:s", "?5", "i", "2:s 5:i 9:s"}, {"", "2:s 5:i 9:s", "?9", "s", "2:s 5:i 9:s"},
		// A term that has the kind itself.
		{"", "", "a", "s", ""}, {"", "", "0", "i", ""}, {"", "", "-7", "i", ""}, {"", "2:s 5:i", "b", "s", "2:s 5:i"}, {"", "2:s 5:i", "1000000000", "i", "2:s 5:i"}, {"", "2:s 5:i", "2", "i", "2:s 5:i"}, {"", "2:s 5:i", "5", "i", "2:s 5:i"},
		// What s binds the variable to.
		{"?3 ?1", "", "?3", "s", "1:s"}, {"?3 ?1", "", "?1", "s", "1:s"}, {"?3 ?1", "0:s 1:i", "?3", "i", "0:s 1:i"}, {"?3 ?1", "0:s 2:i", "?3", "i", "0:s 1:i 2:i"}, {"?3 ?1", "0:s 2:i", "?4", "i", "0:s 2:i 4:i"},
		{"?3 a", "", "?3", "s", ""}, {"?3 a", "0:i 5:s", "?3", "s", "0:i 5:s"}, {"?3 7", "", "?3", "i", ""}, {"?3 7", "0:i 7:s", "?3", "i", "0:i 7:s"}, {"?3 0", "0:s", "?3", "i", "0:s"},
		// A list is not looked at through s: only t is.
		{"?3 ?1", "3:s", "?3", "i", "1:i 3:s"}, {"?3 ?1", "3:s", "?1", "i", "1:i 3:s"}, {"?3 a", "3:i", "?3", "s", "3:i"}, {"?3 (a)", "3:i", "?1", "s", "1:s 3:i"}, {"?3 ?1", "1:s 3:s", "?3", "s", "1:s 3:s"},
	} {
		checkKindAdded(t, subst(c.s), kinds(c.l), term(c.t), kind(c.k), kinds(c.want)...)
	}
}

func TestAddKindFails(t *testing.T) {
	for _, c := range []struct{ s, l, t, k string }{
		// A variable that has the other kind: the only one, the first, one between, the last.
		{"", "0:s", "?0", "i"}, {"", "0:i", "?0", "s"}, {"", "100000:i", "?100000", "s"}, {"", "2:s 5:i 9:s", "?2", "i"}, {"", "2:s 5:i 9:s", "?5", "s"}, {"", "2:s 5:i 9:s", "?9", "i"},
		// A term that does not have the kind.
		{"", "", "a", "i"}, {"", "", "0", "s"}, {"", "", "-7", "s"}, {"", "", "()", "s"}, {"", "", "()", "i"}, {"", "", "(a)", "s"}, {"", "", "(1)", "i"}, {"", "", "(?0 . ?0)", "s"}, {"", "2:s 5:i", "(a . 1)", "i"}, {"", "2:s 5:i", "()", "i"}, {"", "2:s 5:i", "a", "i"}, {"", "2:s 5:i", "2", "s"},
		// What s binds the variable to.
		{"?3 ?1", "1:s", "?3", "i"}, {"?3 ?1", "0:s 1:i 3:s", "?3", "s"}, {"?3 a", "", "?3", "i"}, {"?3 7", "", "?3", "s"}, {"?3 ()", "", "?3", "s"}, {"?3 ()", "", "?3", "i"}, {"?3 (a)", "", "?3", "s"}, {"?3 (1 . 2)", "", "?3", "i"}, {"?3 (?1)", "1:s", "?3", "s"}, {"?3 a", "3:i", "?3", "i"}, {"?3 ()", "3:s", "?3", "s"},
		{"?3 a ?4 1", "", "(?3)", "s"}, {"?3 a ?4 1", "", "(?4 . ?4)", "i"},
	} {
		checkNoKindAdded(t, "it fails", subst(c.s), kinds(c.l), term(c.t), kind(c.k))
	}
}

func TestAddKindOfNoKind(t *testing.T) {
	list := terms("a 7 () (a) ?0 ?2 ?3 ?4 ?5")
	for _, k := range []int{-1, 0, 1, 4, 5, 6, 1 << 40, -1 << 63} {
		for _, s := range [][]impl.Binding{nil, subst("?3 a"), subst("?3 ?2"), subst("?3 ()"), subst("?4 (?3)")} {
			for _, l := range [][]impl.VarKind{nil, kinds("2:s"), kinds("0:i 3:i")} {
				for _, term := range list {
					checkNoKindAdded(t, "no kind", s, l, term, k)
				}
			}
		}
	}
}

func TestAddKindToGoodLists(t *testing.T) {
	for _, l := range goodKinds() {
		for _, s := range [][]impl.Binding{nil, subst("?1 a ?99989 ()"), subst("?4 ?2")} {
			for _, v := range []int{0, 1, 4, 7, 50, 4999, 5000, 7000, 9999, 10000, 50000, 100000} {
				for _, k := range []int{impl.KSym, impl.KInt} {
					if want, ok := withKind(s, l, variable(v), k); ok {
						checkKindAdded(t, s, l, variable(v), k, want...)
					} else {
						checkNoKindAdded(t, "another kind", s, l, variable(v), k)
					}
				}
			}
			checkKindAdded(t, s, l, symbol("a"), impl.KSym, l...)
			checkKindAdded(t, s, l, number(5), impl.KInt, l...)
			checkNoKindAdded(t, "nil", s, l, empty(), impl.KInt)
		}
	}
}

func TestAddKindUnderGoodSubsts(t *testing.T) {
	l := kinds("3:s 70000:i")
	for name, s := range goodSubsts() {
		if len(s) == 0 {
			checkKindAdded(t, s, l, variable(5), impl.KInt, kinds("3:s 5:i 70000:i")...)
			continue
		}
		for _, b := range []impl.Binding{s[0], s[len(s)/2], s[len(s)-1]} {
			for _, k := range []int{impl.KSym, impl.KInt} {
				if want, ok := withKind(nil, l, b.To, k); ok {
					checkKindAdded(t, s, l, variable(b.Var), k, want...)
				} else {
					checkNoKindAdded(t, name, s, l, variable(b.Var), k)
				}
			}
		}
	}
}

// A large result is a pair or does not fit; a large term in s or for another variable does not matter.
func TestAddKindUpToMaxTerm(t *testing.T) {
	a, x := symbol("a"), variable(0)
	whole := balanced(4999, a)
	checkNoKindAdded(t, "a pair", nil, nil, whole, impl.KSym)
	checkNoKindAdded(t, "too large", nil, nil, balanced(5001, a), impl.KSym)
	checkNoKindAdded(t, "a pair for a variable", substOf(bind(0, whole)), nil, x, impl.KSym)
	checkNoKindAdded(t, "too large for a term", substOf(bind(0, whole)), nil, pair(x, x), impl.KSym)
	checkNoKindAdded(t, "too large with a head", substOf(bind(0, whole)), nil, pair(x, a), impl.KInt)
	checkKindAdded(t, substOf(bind(0, whole)), nil, variable(1), impl.KSym, kindOf(1, impl.KSym))
	checkKindAdded(t, substOf(bind(0, whole)), kinds("0:i"), a, impl.KSym, kindOf(0, impl.KInt))
}

func TestAddKindRefuses(t *testing.T) {
	a := symbol("a")
	for name, bad := range badSubsts() {
		for _, term := range []impl.Term{a, variable(9), variable(1), {Kind: -1}} {
			checkNoKindAdded(t, name, bad, nil, term, impl.KSym)
		}
		checkNoKindAdded(t, name, bad, kinds("1:s 9:s"), variable(9), impl.KSym)
		checkNoKindAdded(t, name, bad, kinds("9:s 1:s"), variable(9), impl.KSym)
		checkNoKindAdded(t, name, bad, nil, variable(9), impl.KNil)
	}
	for name, bad := range badTerms() {
		for _, k := range []int{impl.KSym, impl.KInt, impl.KVar, bad.Kind} {
			checkNoKindAdded(t, name, nil, nil, bad, k)
			checkNoKindAdded(t, name, subst("?0 a"), kinds("0:s 3:i"), bad, k)
			checkNoKindAdded(t, name, subst("?9 b"), kinds("3:i 0:s"), bad, k)
		}
	}
	for name, bad := range badKinds() {
		for _, term := range []impl.Term{a, number(1), variable(0), variable(1), variable(5), variable(50)} {
			for _, k := range []int{impl.KSym, impl.KInt} {
				checkNoKindAdded(t, name, nil, bad, term, k)
				checkNoKindAdded(t, name, subst("?50 1 ?51 a"), bad, term, k)
			}
		}
	}
	// What is no substitution, although it is a list of values.
	checkNoKindAdded(t, "a variable for a greater one", values("?0 ?1"), nil, variable(2), impl.KSym)
	checkNoKindAdded(t, "a variable for itself", values("?1 ?1"), nil, variable(2), impl.KSym)
}

func TestAddKindOfAllSmallLists(t *testing.T) {
	list := append(allTerms([]impl.Term{variable(0), variable(1), variable(2), variable(3), variable(4), symbol("a"), number(1), empty()}, 1), terms("(a) (?0 . 1) (?3)")...)
	counts := [2]int{}
	for i, s := range smallSubsts() {
		for j, l := range smallKinds() {
			for n, term := range list {
				if (i+j+n)%3 > 0 {
					continue
				}
				for _, k := range []int{impl.KSym, impl.KInt} {
					want, ok := withKind(s, l, term, k)
					counts[boolAsInt(ok)]++
					if got, fine := impl.AddKind(s, l, term, k); fine != ok || ok && !slices.Equal(got, want) || !ok && len(got) > 0 {
						t.Errorf("AddKind(%s, %v, %s, %d) is %v, %v, want %v, %v", briefSubst(s), l, brief(term), k, got, fine, want, ok)
					}
				}
			}
		}
	}
	if counts[0] < 10000 || counts[1] < 10000 {
		t.Errorf("AddKind fails and succeeds %d times", counts)
	}
}

func TestRefreshKinds(t *testing.T) {
	for _, c := range [][3]string{
		// s that binds none of the variables.
		{"", "", ""}, {"", "0:s", "0:s"}, {"", "100000:i", "100000:i"}, {"", "0:s 3:i 7:s", "0:s 3:i 7:s"}, {"?1 a", "0:s 3:i 7:s", "0:s 3:i 7:s"}, {"?1 ?0 ?9 (?3)", "0:s 3:i 7:s", "0:s 3:i 7:s"}, {"?0 a", "", ""},
		// Some or all of them, to terms with the kind.
		{"?0 a", "0:s", ""}, {"?0 0", "0:i", ""}, {"?3 -5", "0:s 3:i 7:s", "0:s 7:s"}, {"?0 a ?3 1 ?7 b", "0:s 3:i 7:s", ""}, {"?0 a ?7 b", "0:s 3:i 7:s", "3:i"}, {"?0 a ?1 (b) ?8 ()", "0:s 3:i 7:s", "3:i 7:s"},
		// To other variables, in their order.
		{"?3 ?1", "3:s", "1:s"}, {"?3 ?1", "2:i 3:s", "1:s 2:i"}, {"?9 ?0", "2:i 3:s 9:i", "0:i 2:i 3:s"}, {"?7 ?5 ?8 ?4 ?9 ?6", "7:s 8:i 9:s", "4:i 5:s 6:s"}, {"?3 ?0 ?4 ?1", "2:s 3:i 4:s 5:i", "0:i 1:s 2:s 5:i"}, {"?100000 ?99999", "100000:s", "99999:s"},
		// Two or more that become one, with the same kind.
		{"?3 ?1", "1:s 3:s", "1:s"}, {"?3 ?1 ?4 ?1", "3:i 4:i", "1:i"}, {"?3 ?1 ?4 ?1", "1:i 3:i 4:i", "1:i"}, {"?3 ?1 ?4 ?1 ?5 ?0", "0:s 1:i 2:s 3:i 4:i 5:s", "0:s 1:i 2:s"}, {"?3 ?1 ?5 ?1 ?7 ?1", "2:s 3:i 4:s 5:i 6:s 7:i", "1:i 2:s 4:s 6:s"},
		// What s says of other variables does not matter.
		{"?3 ?1 ?4 ()", "3:s", "1:s"}, {"?0 (a) ?3 ?1", "3:s", "1:s"}, {"?1 () ?3 a", "3:s 4:i", "4:i"},
	} {
		checkKindsFresh(t, subst(c[0]), kinds(c[1]), kinds(c[2])...)
	}
}

func TestRefreshKindsFails(t *testing.T) {
	for _, c := range [][2]string{
		// A variable that becomes a term of another kind.
		{"?0 a", "0:i"}, {"?0 1", "0:s"}, {"?0 ()", "0:s"}, {"?0 ()", "0:i"}, {"?0 (a)", "0:s"}, {"?0 (1)", "0:i"}, {"?0 (?1 . ?2)", "0:i"},
		// The first of several, one between, the last.
		{"?0 ()", "0:s 3:i 7:s"}, {"?3 a", "0:s 3:i 7:s"}, {"?3 (1)", "0:s 3:i 7:s"}, {"?7 1", "0:s 3:i 7:s"}, {"?0 a ?3 1 ?7 2", "0:s 3:i 7:s"}, {"?0 1 ?3 1 ?7 a", "0:s 3:i 7:s"}, {"?0 1 ?3 a ?7 1", "0:s 3:i 7:s"},
		// Two that become one, with different kinds.
		{"?3 ?1", "1:s 3:i"}, {"?3 ?1", "1:i 3:s"}, {"?3 ?1 ?4 ?1", "3:i 4:s"}, {"?3 ?1 ?4 ?1", "3:s 4:i"}, {"?3 ?1 ?4 ?1", "1:i 3:i 4:s"}, {"?3 ?1 ?4 ?1", "1:i 3:s 4:i"}, {"?3 ?1 ?4 ?1", "1:s 3:i 4:i"}, {"?3 ?1 ?9 ?1", "0:s 2:i 3:s 5:i 9:i 10:s"}, {"?7 ?6 ?9 ?0", "0:i 1:s 6:s 7:s 9:s"},
		{"?5 ?0 ?6 ?1 ?7 ?2 ?8 ?3", "0:s 1:s 2:s 3:s 5:i 6:s 7:s 8:s"}, {"?5 ?0 ?6 ?1 ?7 ?2 ?8 ?3", "0:s 1:s 2:s 3:s 5:s 6:i 7:s 8:s"}, {"?5 ?0 ?6 ?1 ?7 ?2 ?8 ?3", "0:s 1:s 2:s 3:s 5:s 6:s 7:s 8:i"},
	} {
		checkNoKindsFresh(t, "it fails", subst(c[0]), kinds(c[1]))
	}
}

func TestRefreshKindsOfGoodLists(t *testing.T) {
	for _, l := range goodKinds() {
		checkKindsFresh(t, nil, l, l...)
		checkKindsFresh(t, subst("?70000 (a)"), l, l...)
		for _, place := range []int{0, len(l) / 2, len(l) - 1} {
			if len(l) == 0 {
				continue
			}
			v := l[place].Var
			atoms := map[int]impl.Term{impl.KSym: symbol("a"), impl.KInt: number(v)}
			checkKindsFresh(t, substOf(bind(v, atoms[l[place].Kind])), l, slices.Concat(l[:place], l[place+1:])...)
			for _, to := range []impl.Term{atoms[impl.KSym+impl.KInt-l[place].Kind], empty(), term("(a . 1)")} {
				checkNoKindsFresh(t, "one fails", substOf(bind(v, to)), l)
			}
		}
	}
}

func TestRefreshKindsUnderMaxBindings(t *testing.T) {
	a := symbol("a")
	checkKindsFresh(t, manyBindings(1, 400, variable(0)), manyKinds(1, 400, impl.KInt), kindOf(0, impl.KInt))
	checkKindsFresh(t, manyBindings(1, 400, a), manyKinds(0, 402, impl.KSym), kinds("0:s 401:s")...)
	checkKindsFresh(t, manyBindings(5, 400, a), manyKinds(5, 400, impl.KSym))
	checkNoKindsFresh(t, "one of them is another kind", manyBindings(1, 400, variable(0)), append(manyKinds(1, 399, impl.KInt), kindOf(400, impl.KSym)))
	checkNoKindsFresh(t, "more than MaxBindings", manyBindings(1, 401, a), manyKinds(0, 5, impl.KSym))
	for name, s := range goodSubsts() {
		if name == "the largest list" {
			checkKindsFresh(t, s, kinds("3:s"), kinds("3:s")...)
			checkNoKindsFresh(t, name, s, manyKinds(100000, 1, impl.KSym))
			continue
		}
		for _, k := range []int{impl.KSym, impl.KInt} {
			var l []impl.VarKind
			for _, b := range s {
				l = append(l, kindOf(b.Var, k))
			}
			if want, ok := freshKinds(s, l); ok {
				checkKindsFresh(t, s, l, want...)
			} else {
				checkNoKindsFresh(t, name, s, l)
			}
		}
	}
}

func TestRefreshKindsRefuses(t *testing.T) {
	for name, bad := range badSubsts() {
		for _, l := range [][]impl.VarKind{nil, {}, kinds("9:s"), kinds("1:s 5:i"), kinds("5:i 1:s")} {
			checkNoKindsFresh(t, name, bad, l)
		}
	}
	for name, bad := range badKinds() {
		for _, s := range [][]impl.Binding{nil, {}, subst("?1 a"), subst("?2 ?1"), subst("?50 a"), values("?0 ?1")} {
			checkNoKindsFresh(t, name, s, bad)
		}
	}
	checkNoKindsFresh(t, "values", values("?0 ?1"), nil)
	checkNoKindsFresh(t, "values", values("?1 ?1"), kinds("2:s"))
}

func TestRefreshKindsOfAllSmallLists(t *testing.T) {
	counts := [2]int{}
	for _, s := range smallSubsts() {
		for _, l := range smallKinds() {
			want, ok := freshKinds(s, l)
			counts[boolAsInt(ok)]++
			if ok {
				checkKindsFresh(t, s, l, want...)
			} else {
				checkNoKindsFresh(t, briefSubst(s), s, l)
			}
		}
	}
	if counts[0] < 1000 || counts[1] < 1000 {
		t.Errorf("RefreshKinds fails and succeeds %d times", counts)
	}
}

// Thousands of kinds are not moved again for each of them.
func TestKindsOfThousandsOfVariables(t *testing.T) {
	soon(t, "kinds of all variables", func() {
		all := manyKinds(0, 100001, impl.KSym)
		checkKindsFresh(t, nil, all, all...)
		checkKindsFresh(t, manyBindings(1000, 400, variable(7)), all, append(manyKinds(0, 1000, impl.KSym), manyKinds(1400, 98601, impl.KSym)...)...)
		checkNoKindsFresh(t, "the last one fails", substOf(bind(100000, empty())), all)
		checkKindAdded(t, nil, all[:100000], variable(100000), impl.KSym, all...)
		checkKindAdded(t, nil, all[1:], variable(0), impl.KSym, all...)
		checkKindAdded(t, nil, all, variable(5), impl.KSym, all...)
		checkNoKindAdded(t, "the other kind", nil, all, variable(100000), impl.KInt)
		largest := largestSubst()
		checkNoKindsFresh(t, "pairs", largest, manyKinds(99601, 400, impl.KSym))
		checkKindsFresh(t, largest, manyKinds(0, 99601, impl.KInt), manyKinds(0, 99601, impl.KInt)...)
	})
}
