package tests

import (
	"slices"
	"testing"

	"loop.example/g03210/impl"
)

// distinct returns the terms of l in ascending order, each once. It is for small valid terms.
func distinct(l []impl.Term) []impl.Term {
	l = slices.Clone(l)
	slices.SortFunc(l, compareByDefinition)
	return slices.CompactFunc(l, same)
}

// subtermsByDefinition is for small valid terms.
func subtermsByDefinition(l []impl.Term) []impl.Term {
	var all []impl.Term
	for _, t := range l {
		all = append(all, partsOf(t)...)
	}
	return distinct(all)
}

// costIn returns the least number of nodes with which t is built from atoms,
// and more than all numbers that are used here if there is none.
func costIn(atoms []impl.Term, t impl.Term) int {
	switch {
	case contains(atoms, t):
		return 1
	case t.Kind == impl.KPair:
		return 1 + costIn(atoms, t.Args[0]) + costIn(atoms, t.Args[1])
	}
	return 1000
}

// instancesByDefinition counts through the values of the variables. It is for
// small valid terms.
func instancesByDefinition(t impl.Term, u []impl.Term) []impl.Term {
	vars := varsByDefinition(t)
	count := 1
	for range vars {
		count *= len(u)
	}
	var all []impl.Term
	for i := range count {
		var l []impl.Binding
		for _, v := range vars {
			l = append(l, bind(v, u[i%len(u)]))
			i /= len(u)
		}
		all = append(all, applyByDefinition(l, t))
	}
	return distinct(all)
}

func contains(l []impl.Term, t impl.Term) bool {
	return slices.ContainsFunc(l, func(other impl.Term) bool { return same(other, t) })
}

// numbers returns n of them, from first on, which are ascending terms.
func numbers(first int, n int) []impl.Term {
	var l []impl.Term
	for i := range n {
		l = append(l, number(first+i))
	}
	return l
}

// eachWith returns the pairs of each element of l as a head and tail.
func eachWith(l []impl.Term, tail impl.Term) []impl.Term {
	var all []impl.Term
	for _, t := range l {
		all = append(all, pair(t, tail))
	}
	return all
}

// chainOf returns n terms, each a pair of a and the one before, the first one a.
func chainOf(n int, a impl.Term) []impl.Term {
	l := []impl.Term{a}
	for len(l) < n {
		l = append(l, pair(a, l[len(l)-1]))
	}
	return distinct(l)
}

func goodUniverses() map[string][]impl.Term {
	large := balanced(4999, symbol("a"))
	return map[string][]impl.Term{
		"the empty list":            {empty()},
		"a symbol":                  terms("a"),
		"an integer":                terms("0"),
		"a pair":                    terms("(a . b)"),
		"a large term":              {large},
		"the largest to the left":   {pairs(2499, true, number(1), empty())},
		"two symbols":               terms("a b"),
		"symbols of other lengths":  terms("a aa b"),
		"two integers":              terms("-1 0"),
		"far integers":              terms("-1000000000 1000000000"),
		"all kinds":                 terms("() a 0 (a)"),
		"pairs by heads":            terms("(() . b) (a . a) (1 . ()) ((a))"),
		"pairs by tails":            terms("(a) (a . b) (a . 0) (a a)"),
		"pairs by heads first":      terms("(a . b) (b . a)"),
		"MaxUniverse symbols":       terms("a b c d e f g h"),
		"MaxUniverse terms":         terms("() a b -7 5 (a) (a a) ((a))"),
		"MaxUniverse large terms":   eachWith(numbers(0, 8), balanced(4997, empty())),
		"differences at the bottom": {pairs(2499, false, symbol("a"), number(1)), pairs(2499, false, symbol("a"), number(2))},
	}
}

// badUniverses returns lists that are no universes, each for one reason.
func badUniverses() map[string][]impl.Term {
	a := symbol("a")
	bad := map[string][]impl.Term{
		"no list":                    nil,
		"no terms":                   {},
		"MaxUniverse and one more":   numbers(0, 9),
		"very many terms":            numbers(0, 5000),
		"one more of other kinds":    terms("() a b -7 5 (a) (a a) ((a)) ((a) . b)"),
		"a term twice":               terms("a a"),
		"a pair twice":               terms("(a) (a)"),
		"the first one twice":        terms("() () a"),
		"the last one twice":         terms("() a 1 1"),
		"MaxUniverse, one twice":     terms("a b c d d e f g"),
		"a large term twice":         {balanced(4999, a), balanced(4999, a)},
		"descending":                 terms("b a"),
		"descending numbers":         terms("0 -1"),
		"descending at the start":    terms("b a c d"),
		"descending in the middle":   terms("a c b d"),
		"descending at the end":      terms("a b d c"),
		"a shorter symbol behind":    terms("aa a"),
		"an integer before a symbol": terms("1 a"),
		"a pair before an atom":      terms("(a) b"),
		"an atom before ()":          terms("a ()"),
		"heads that descend":         terms("(b . a) (a . b)"),
		"tails that descend":         terms("(a . b) (a . a)"),
		"again, but not beside":      terms("a b a"),
		"a difference at the bottom": {pairs(2499, true, a, number(2)), pairs(2499, true, a, number(1))},
		"a variable":                 terms("?0"),
		"the greatest variable":      terms("?100000"),
		"a variable first":           terms("() ?0 a b"),
		"a variable in between":      terms("() ?7 1"),
		"a variable in a head":       terms("a (?3 . b)"),
		"a variable in a tail":       terms("a (b . ?3)"),
		"a variable deep in a tail":  terms("a b (c (d e . ?3))"),
		"a variable at the bottom":   {a, pairs(2499, false, a, variable(0))},
	}
	for name, term := range badTerms() {
		bad[name+" alone"] = []impl.Term{term}
		bad[name+" first"] = []impl.Term{term, a, number(1)}
		bad[name+" between"] = []impl.Term{empty(), term, pair(a, a)}
		bad[name+" last"] = []impl.Term{empty(), a, term}
		bad[name+" in a pair"] = []impl.Term{a, pair(a, term)}
	}
	return bad
}

// smallUniverses has all lists of one to three of some terms that ascend, and some longer ones.
func smallUniverses() [][]impl.Term {
	list := distinct(terms("() a b 1 (a) (a . a) ((a . a) . a) (a . b) (1 . a) (a a . a)"))
	var all [][]impl.Term
	for i, a := range list {
		all = append(all, list[i:i+1:i+1])
		for j := i + 1; j < len(list); j++ {
			all = append(all, []impl.Term{a, list[j]})
			for k := j + 1; k < len(list); k++ {
				all = append(all, []impl.Term{a, list[j], list[k]})
			}
		}
	}
	return append(all, list[:4], list[3:8], list[:6], list[2:9], list[2:])
}

func checkSubterms(t *testing.T, l []impl.Term, want []impl.Term) {
	t.Helper()
	if got := impl.SubtermsOf(l); !sameTerms(got, want) {
		t.Errorf("SubtermsOf(%s) is %s, want %s", briefList(l), briefList(got), briefList(want))
	}
}

func checkNoSubterms(t *testing.T, name string, l []impl.Term) {
	t.Helper()
	if got := impl.SubtermsOf(l); len(got) != 0 {
		t.Errorf("%s: SubtermsOf has %d terms", name, len(got))
	}
}

func checkBuilt(t *testing.T, atoms []impl.Term, size int, want []impl.Term) {
	t.Helper()
	if got := impl.GroundTerms(atoms, size); !sameTerms(got, want) {
		t.Errorf("GroundTerms(%s, %d) has %d terms, %s, want %d, %s", briefList(atoms), size, len(got), briefList(got), len(want), briefList(want))
	}
}

func checkNotBuilt(t *testing.T, name string, atoms []impl.Term, size int) {
	t.Helper()
	if got := impl.GroundTerms(atoms, size); len(got) != 0 {
		t.Errorf("%s: GroundTerms of size %d has %d terms", name, size, len(got))
	}
}

func checkInstances(t *testing.T, term impl.Term, u []impl.Term, want []impl.Term) {
	t.Helper()
	if got := impl.GroundInstances(term, u); !sameTerms(got, want) {
		t.Errorf("GroundInstances(%s, %s) has %d terms, %s, want %d, %s", brief(term), briefList(u), len(got), briefList(got), len(want), briefList(want))
	}
}

func checkNoInstances(t *testing.T, name string, term impl.Term, u []impl.Term) {
	t.Helper()
	if got := impl.GroundInstances(term, u); len(got) != 0 {
		t.Errorf("%s: GroundInstances has %d terms", name, len(got))
	}
}

func TestDefinitionsOfGroundTerms(t *testing.T) {
	if got := distinct(terms("b (a) a () b 1 ?0 (a) (() . b)")); !sameTerms(got, terms("() ?0 a b 1 (() . b) (a)")) {
		t.Errorf("distinct is %s", briefList(got))
	}
	if got := subtermsByDefinition(terms("(a (b) a) c")); !sameTerms(got, terms("() a b c (a) (a (b) a) (b) ((b) a)")) {
		t.Errorf("subtermsByDefinition is %s", briefList(got))
	}
	u := terms("a (a . b)")
	for text, want := range map[string]int{"a": 1, "(a . b)": 1, "(a . a)": 3, "((a . b) . a)": 3, "(a a . b)": 3, "((a . a) a . b)": 5, "((a . a) b . a)": 1006, "b": 1000} {
		if got := costIn(u, term(text)); got != want {
			t.Errorf("costIn of %s is %d, want %d", text, got, want)
		}
	}
	if got := instancesByDefinition(term("(?7 ?1 . ?7)"), terms("a b")); !sameTerms(got, terms("(a a . a) (a b . a) (b a . b) (b b . b)")) {
		t.Errorf("instancesByDefinition is %s", briefList(got))
	}
	if got := chainOf(3, number(1)); !sameTerms(got, terms("1 (1 . 1) (1 1 . 1)")) {
		t.Errorf("chainOf is %s", briefList(got))
	}
}
