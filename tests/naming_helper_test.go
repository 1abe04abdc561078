package tests

import (
	"slices"
	"testing"

	"loop.example/g03210/impl"
)

// orderedByDefinition is for valid terms without much depth.
func orderedByDefinition(l []impl.Term) []int {
	var vars []int
	for _, t := range l {
		for _, part := range partsOf(t) {
			if part.Kind == impl.KVar && !slices.Contains(vars, part.Int) {
				vars = append(vars, part.Int)
			}
		}
	}
	return vars
}

// renamedTo returns t with the variable that has the index of v in vars for each v of them.
func renamedTo(vars []int, t impl.Term) impl.Term {
	var l []impl.Binding
	for i, v := range vars {
		l = append(l, bind(v, variable(i)))
	}
	return applyByDefinition(l, t)
}

// canonicalByDefinition is for valid terms without much depth.
func canonicalByDefinition(l []impl.Term) []impl.Term {
	vars := orderedByDefinition(l)
	var named []impl.Term
	for _, t := range l {
		named = append(named, renamedTo(vars, t))
	}
	return named
}

// shiftedByDefinition is for valid terms without much depth.
func shiftedByDefinition(t impl.Term, n int) impl.Term {
	var l []impl.Binding
	for _, v := range varsByDefinition(t) {
		l = append(l, bind(v, variable(v+n)))
	}
	return applyByDefinition(l, t)
}

// briefList is for messages about valid terms.
func briefList(l []impl.Term) string {
	if len(l) > 8 {
		return brief(listOf(l[:8]...)) + ", .."
	}
	return brief(listOf(l...))
}

func checkOrdered(t *testing.T, l []impl.Term, want []int) {
	t.Helper()
	if got := impl.OrderedVars(l); !slices.Equal(got, want) {
		t.Errorf("OrderedVars(%s) is %d, want %d", briefList(l), got[:min(20, len(got))], want[:min(20, len(want))])
	}
}

func checkBound(t *testing.T, l []impl.Term, want int) {
	t.Helper()
	if got := impl.VarBound(l); got != want {
		t.Errorf("VarBound(%s) is %d, want %d", briefList(l), got, want)
	}
}

func checkShifted(t *testing.T, term impl.Term, n int, want impl.Term) {
	t.Helper()
	if got, ok := impl.ShiftTerm(term, n); !ok || !same(got, want) {
		t.Errorf("ShiftTerm(%s, %d) is %s, %v, want %s", brief(term), n, brief(got), ok, brief(want))
	}
}

func checkNotShifted(t *testing.T, name string, term impl.Term, n int) {
	t.Helper()
	if got, ok := impl.ShiftTerm(term, n); ok || !same(got, empty()) || got.Args != nil {
		t.Errorf("%s: ShiftTerm by %d is %s, %v", name, n, brief(got), ok)
	}
}

// checkCanonical looks also at what Canonical says of its own result, and at
// Reify without bindings.
func checkCanonical(t *testing.T, l []impl.Term, want []impl.Term) {
	t.Helper()
	got := impl.Canonical(l)
	if !sameTerms(got, want) {
		t.Errorf("Canonical(%s) is %s, want %s", briefList(l), briefList(got), briefList(want))
	}
	if again := impl.Canonical(got); !sameTerms(again, want) {
		t.Errorf("Canonical of Canonical(%s) is %s, want %s", briefList(l), briefList(again), briefList(want))
	}
	checkReified(t, nil, l, want)
}

func checkReified(t *testing.T, s []impl.Binding, l []impl.Term, want []impl.Term) {
	t.Helper()
	if got, ok := impl.Reify(s, l); !ok || !sameTerms(got, want) {
		t.Errorf("Reify(%s, %s) is %s, %v, want %s", briefSubst(s), briefList(l), briefList(got), ok, briefList(want))
	}
}

func checkNotReified(t *testing.T, name string, s []impl.Binding, l []impl.Term) {
	t.Helper()
	if got, ok := impl.Reify(s, l); ok || len(got) != 0 {
		t.Errorf("%s: Reify has %d terms, %v", name, len(got), ok)
	}
}

// checkNamesRefused looks at all functions that have no value for a list with
// a term that is not valid.
func checkNamesRefused(t *testing.T, name string, l []impl.Term) {
	t.Helper()
	if got := impl.OrderedVars(l); len(got) != 0 {
		t.Errorf("%s: OrderedVars is %d", name, got)
	}
	if got := impl.VarBound(l); got != -1 {
		t.Errorf("%s: VarBound is %d", name, got)
	}
	if got := impl.Canonical(l); len(got) != 0 {
		t.Errorf("%s: Canonical has %d terms", name, len(got))
	}
	for _, s := range [][]impl.Binding{nil, {}, {bind(0, symbol("a"))}, {bind(3, variable(0)), bind(5, symbol("a"))}} {
		checkNotReified(t, name, s, l)
	}
}

// smallLists has all lists of at most two terms, and some of three, with a few leaves.
func smallLists() [][]impl.Term {
	list := allTerms([]impl.Term{variable(2), variable(0), variable(1), symbol("a")}, 3)
	all := [][]impl.Term{nil}
	for i, a := range list {
		all = append(all, []impl.Term{a})
		for j, b := range list {
			all = append(all, []impl.Term{a, b}, []impl.Term{a, b, list[(i+3*j)%len(list)]})
		}
	}
	for _, a := range allTerms([]impl.Term{variable(3), variable(0), number(1)}, 7) {
		all = append(all, []impl.Term{a}, []impl.Term{pair(variable(5), a), a, variable(5)})
	}
	return all
}

// everyVariable has all variables, from the greatest down to 0, in terms of
// MaxTerm nodes and one more term.
func everyVariable() []impl.Term {
	var l []impl.Term
	v := impl.MaxVar
	whole := balanced(4999, empty())
	for v >= 2500 {
		l = append(l, leaves(whole, func(k int) impl.Term { return variable(v - k) }))
		v -= 2500
	}
	return append(l, leaves(balanced(2*v+1, empty()), func(k int) impl.Term { return variable(v - k) }))
}

func TestDefinitionsOfNames(t *testing.T) {
	l := terms("(?3 (?1) . ?3) a ?0 (?1 . ?7)")
	if got := orderedByDefinition(l); !slices.Equal(got, []int{3, 1, 0, 7}) {
		t.Errorf("orderedByDefinition is %d", got)
	}
	if got := canonicalByDefinition(l); !sameTerms(got, terms("(?0 (?1) . ?0) a ?2 (?1 . ?3)")) {
		t.Errorf("canonicalByDefinition is %s", briefList(got))
	}
	if got := shiftedByDefinition(term("(?3 (?0 . a) ?3 ?6 3)"), 3); !same(got, term("(?6 (?3 . a) ?6 ?9 3)")) {
		t.Errorf("shiftedByDefinition is %s", brief(got))
	}
	all := everyVariable()
	last := all[len(all)-1]
	if len(all) != 41 || !impl.TermOk(all[0]) || !impl.OccursIn(100000, all[0]) || !impl.OccursIn(97501, all[0]) || !impl.OccursIn(0, last) || impl.TermSize(last) != 1 {
		t.Errorf("everyVariable has %d terms, the last one of size %d", len(all), impl.TermSize(last))
	}
}
