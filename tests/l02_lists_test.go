package tests

// Chapter 3, terms: lists and their elements, and what chapter 1 says of
// arguments and results.

import (
	"slices"
	"testing"

	"loop.example/g03210/impl"
)

func checkList(t *testing.T, items []impl.Term, tail impl.Term, want impl.Term) {
	t.Helper()
	if got, ok := impl.ListTerm(items, tail); !ok || !same(got, want) {
		t.Errorf("ListTerm of %d elements is %s, %v, want %s", len(items), brief(got), ok, brief(want))
	}
}

func checkNoList(t *testing.T, name string, items []impl.Term, tail impl.Term) {
	t.Helper()
	if got, ok := impl.ListTerm(items, tail); ok || !same(got, empty()) || got.Args != nil {
		t.Errorf("%s: ListTerm is %s, %v", name, brief(got), ok)
	}
}

func TestListTerm(t *testing.T) {
	a, b, x, one := symbol("a"), symbol("b"), variable(0), number(1)
	for _, tail := range []impl.Term{empty(), a, x, one, pair(a, b), pair(a, pair(b, empty()))} {
		checkList(t, nil, tail, tail)
		checkList(t, []impl.Term{}, tail, tail)
		checkList(t, []impl.Term{x}, tail, pair(x, tail))
		checkList(t, []impl.Term{a, b}, tail, pair(a, pair(b, tail)))
		checkList(t, []impl.Term{one, x, one}, tail, pair(one, pair(x, pair(one, tail))))
		checkList(t, []impl.Term{pair(a, b), empty()}, tail, pair(pair(a, b), pair(empty(), tail)))
	}
}

func TestListTermUpToMaxTerm(t *testing.T) {
	a := symbol("a")
	items := slices.Repeat([]impl.Term{a}, 2500)
	checkList(t, items[:2499], empty(), pairs(2499, false, a, empty()))
	checkNoList(t, "2500 elements", items, empty())
	checkList(t, items[:2498], pair(a, a), pairs(2499, false, a, a))
	checkNoList(t, "2499 elements and a pair", items[:2499], pair(a, a))
	checkList(t, nil, balanced(4999, a), balanced(4999, a))
	checkNoList(t, "a tail of 5001 nodes", nil, balanced(5001, a))
	checkList(t, items[:1], balanced(4997, a), pair(a, balanced(4997, a)))
	checkNoList(t, "a tail of 4999 nodes", items[:1], balanced(4999, a))
	checkList(t, []impl.Term{balanced(4997, a)}, a, pair(balanced(4997, a), a))
	checkNoList(t, "an element of 4999 nodes", []impl.Term{balanced(4999, a)}, a)
	checkNoList(t, "two large elements", []impl.Term{balanced(2499, a), balanced(2499, a)}, a)
	checkNoList(t, "very many elements", slices.Repeat(items, 400), empty())
	checkNoList(t, "many large elements", slices.Repeat([]impl.Term{balanced(4999, a)}, 400), empty())
}

func TestListTermRefuses(t *testing.T) {
	a := symbol("a")
	for name, bad := range badTerms() {
		checkNoList(t, name, nil, bad)
		checkNoList(t, name, []impl.Term{a}, bad)
		checkNoList(t, name, []impl.Term{bad}, empty())
		checkNoList(t, name, []impl.Term{bad, a, a}, empty())
		checkNoList(t, name, []impl.Term{a, bad, a}, empty())
		checkNoList(t, name, []impl.Term{a, a, bad}, pair(a, empty()))
		checkNoList(t, name, []impl.Term{bad, bad}, bad)
	}
}

func checkItems(t *testing.T, term impl.Term, tail impl.Term, want ...impl.Term) {
	t.Helper()
	items, rest := impl.ItemsOf(term)
	if !sameTerms(items, want) || !same(rest, tail) {
		t.Errorf("ItemsOf(%s) has %d elements and the tail %s", brief(term), len(items), brief(rest))
	}
}

func TestItemsOf(t *testing.T) {
	a, b, x := symbol("a"), symbol("b"), variable(0)
	for _, tail := range []impl.Term{empty(), a, x, number(-5)} {
		checkItems(t, tail, tail)
		checkItems(t, pair(x, tail), tail, x)
		checkItems(t, pair(empty(), tail), tail, empty())
		checkItems(t, pair(a, pair(b, tail)), tail, a, b)
		checkItems(t, pair(pair(a, b), tail), tail, pair(a, b))
		checkItems(t, pair(a, pair(pair(b, pair(x, empty())), tail)), tail, a, pair(b, pair(x, empty())))
	}
	checkItems(t, pairs(2499, false, a, x), x, slices.Repeat([]impl.Term{a}, 2499)...)
	checkItems(t, pairs(2499, true, a, x), a, pairs(2498, true, a, x))
}

func TestItemsOfInvalidTerms(t *testing.T) {
	for name, bad := range badTerms() {
		items, tail := impl.ItemsOf(bad)
		if len(items) != 0 || !same(tail, empty()) || tail.Args != nil {
			t.Errorf("%s: ItemsOf has %d elements and the tail %s", name, len(items), brief(tail))
		}
	}
}

// P1: a list is made of its elements again, and has their sizes and variables.
func TestListsComeBackFromTheirElements(t *testing.T) {
	terms := append(smallTerms(), pairs(2499, false, symbol("a"), variable(0)), pairs(2499, true, symbol("a"), empty()), balanced(4999, number(3)))
	for _, term := range terms {
		items, tail := impl.ItemsOf(term)
		if tail.Kind == impl.KPair {
			t.Errorf("the tail of %s is a pair", brief(term))
		}
		checkList(t, items, tail, term)
		size, vars := impl.TermSize(tail), impl.TermVars(tail)
		for _, item := range items {
			size += 1 + impl.TermSize(item)
			vars = append(vars, impl.TermVars(item)...)
		}
		slices.Sort(vars)
		if impl.TermSize(term) != size || !slices.Equal(impl.TermVars(term), slices.Compact(vars)) {
			t.Errorf("the elements of %s have other sizes or variables", brief(term))
		}
	}
}

func TestElementsComeBackFromTheirList(t *testing.T) {
	terms := allTerms([]impl.Term{empty(), variable(1), symbol("a")}, 3)
	for _, a := range terms {
		for _, b := range terms {
			for _, tail := range []impl.Term{empty(), variable(0), number(2)} {
				list, ok := impl.ListTerm([]impl.Term{a, b}, tail)
				if !ok {
					t.Fatalf("ListTerm fails for %s and %s", show(a), show(b))
				}
				checkItems(t, list, tail, a, b)
			}
			list, _ := impl.ListTerm([]impl.Term{a}, pair(b, a))
			more, rest := impl.ItemsOf(a)
			checkItems(t, list, rest, append([]impl.Term{a, b}, more...)...)
		}
	}
}

// Arguments of all shapes, with spare capacity behind each list in them.
func spacedTerms() []impl.Term {
	a, x := symbol("a"), variable(0)
	terms := []impl.Term{empty(), a, x, number(4), pair(a, x), pair(x, pair(pair(x, a), x)), pair(pair(a, x), empty()), pairs(50, true, x, a)}
	for i := range terms {
		terms[i] = spaced(terms[i])
	}
	return terms
}

func TestTermFunctionsChangeNoArgument(t *testing.T) {
	for _, term := range spacedTerms() {
		for _, by := range spacedTerms() {
			items := []impl.Term{by, term, by}
			whole := pair(pair(term, by), impl.Term{Kind: impl.KPair, Args: items})
			before := showAll(whole)
			impl.TermOk(term)
			impl.TermSize(term)
			impl.TermVars(term)
			impl.OccursIn(0, term)
			impl.CompareTerms(term, by)
			impl.ReplaceVar(term, 0, by)
			impl.ListTerm(items[:1], term)
			impl.ListTerm(items[:0], term)
			impl.ItemsOf(term)
			if showAll(whole) != before {
				t.Errorf("an argument is changed: %s and %s", show(term), show(by))
			}
		}
	}
}

// listed makes a list of one term, so that the term's own lists are looked at.
func listed(t impl.Term) []impl.Term { return []impl.Term{t} }

func TestTermResultsAreNew(t *testing.T) {
	for _, term := range spacedTerms() {
		others := spacedTerms()
		for i, by := range others {
			first, _ := impl.ReplaceVar(term, 0, by)
			second, _ := impl.ReplaceVar(term, 0, by)
			checkApart(t, "ReplaceVar", listed(term), listed(by), listed(first), listed(second))
			first, _ = impl.ReplaceVar(term, -1, by)
			checkApart(t, "ReplaceVar without an occurrence", listed(term), listed(by), listed(first))
			items := others[i : i+1 : i+1]
			first, _ = impl.ListTerm(items, term)
			second, _ = impl.ListTerm(items, term)
			checkApart(t, "ListTerm", listed(term), items, listed(first), listed(second))
			twice := []impl.Term{by, by, by}
			first, _ = impl.ListTerm(twice, by)
			checkApart(t, "ListTerm of equal elements", listed(by), listed(first))
		}
		first, _ := impl.ListTerm(nil, term)
		checkApart(t, "ListTerm without elements", listed(term), listed(first))
		items, tail := impl.ItemsOf(term)
		more, rest := impl.ItemsOf(term)
		checkApart(t, "ItemsOf", listed(term), items, listed(tail), more, listed(rest))
	}
	shared := pair(symbol("a"), variable(1))
	items, tail := impl.ItemsOf(pair(shared, pair(shared, empty())))
	checkApart(t, "ItemsOf of shared parts", listed(shared), items, listed(tail))
	again, _ := impl.ReplaceVar(pair(shared, shared), 0, shared)
	checkApart(t, "ReplaceVar of shared parts", listed(shared), listed(again))
	checkFresh(t, "TermVars", func() []int { return impl.TermVars(pair(variable(3), pair(variable(1), variable(2)))) }, 9)
}
