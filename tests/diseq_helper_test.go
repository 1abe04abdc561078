package tests

import (
	"slices"
	"strings"
	"testing"

	"loop.example/g03210/impl"
)

// leftByDefinition returns what is left, under s, of the requirement that not
// all of some equations hold, and the code. It is for small valid arguments.
func leftByDefinition(s []impl.Binding, l []impl.Term, r []impl.Term) ([]impl.Binding, int) {
	solution, ok := solutionByDefinition(s, l, r)
	if !ok {
		return nil, 1
	}
	if sameSubst(solution, s) {
		return nil, 2
	}
	return slices.DeleteFunc(solution, func(b impl.Binding) bool { return boundIn(s, b.Var) }), 0
}

// sidesOf returns the sides of the equations of d.
func sidesOf(d []impl.Binding) ([]impl.Term, []impl.Term) {
	var l, r []impl.Term
	for _, b := range d {
		l, r = append(l, variable(b.Var)), append(r, b.To)
	}
	return l, r
}

// compareSubsts is for valid lists.
func compareSubsts(d []impl.Binding, e []impl.Binding) int {
	for i := range min(len(d), len(e)) {
		if d[i].Var != e[i].Var {
			return sign(d[i].Var < e[i].Var)
		}
		if c := compareByDefinition(d[i].To, e[i].To); c != 0 {
			return c
		}
	}
	if len(d) == len(e) {
		return 0
	}
	return sign(len(d) < len(e))
}

// minimalByDefinition is for small valid lists.
func minimalByDefinition(l [][]impl.Binding) [][]impl.Binding {
	var minimal [][]impl.Binding
	for _, e := range l {
		if !slices.ContainsFunc(l, func(d []impl.Binding) bool { return !sameSubst(d, e) && moreGeneralByDefinition(d, e) }) {
			minimal = append(minimal, e)
		}
	}
	slices.SortFunc(minimal, compareSubsts)
	return slices.CompactFunc(minimal, sameSubst)
}

// holdsByDefinition is for small valid lists.
func holdsByDefinition(d []impl.Binding, l []impl.Binding) bool {
	return slices.ContainsFunc(d, func(b impl.Binding) bool {
		return !same(applyByDefinition(l, variable(b.Var)), applyByDefinition(l, b.To))
	})
}

func sameSubsts(l [][]impl.Binding, other [][]impl.Binding) bool {
	return slices.EqualFunc(l, other, sameSubst)
}

// briefSubsts is for messages about lists of valid lists.
func briefSubsts(l [][]impl.Binding) string {
	text := ""
	for i, s := range l {
		if i == 8 {
			return text + ", .."
		}
		text += "[" + briefSubst(s) + "]"
	}
	return text
}

// checkLeft looks at both orders of the terms, and at both of them in pairs.
func checkLeft(t *testing.T, s []impl.Binding, a impl.Term, b impl.Term, code int, want ...impl.Binding) {
	t.Helper()
	for _, l := range [][2]impl.Term{{a, b}, {b, a}, {pair(a, symbol("z")), pair(b, symbol("z"))}, {pair(empty(), b), pair(empty(), a)}} {
		if impl.TermOk(a) && impl.TermOk(b) && (!impl.TermOk(l[0]) || !impl.TermOk(l[1])) {
			continue // too large in a pair
		}
		if got, n := impl.Disequality(s, l[0], l[1]); n != code || !sameSubst(got, want) {
			t.Errorf("Disequality(%s, %s, %s) is %s, %d, want %s, %d", briefSubst(s), brief(l[0]), brief(l[1]), briefSubst(got), n, briefSubst(want), code)
		}
	}
}

// checkNothingLeft is for arguments that a message cannot show.
func checkNothingLeft(t *testing.T, name string, s []impl.Binding, a impl.Term, b impl.Term, code int) {
	t.Helper()
	for _, l := range [][2]impl.Term{{a, b}, {b, a}} {
		if got, n := impl.Disequality(s, l[0], l[1]); n != code || len(got) != 0 {
			t.Errorf("%s: Disequality has %d bindings and the code %d, want %d", name, len(got), n, code)
		}
	}
}

// checkNormal looks also at what is left of what is left: the same.
func checkNormal(t *testing.T, s []impl.Binding, d []impl.Binding, code int, want ...impl.Binding) {
	t.Helper()
	got, n := impl.NormalDisequality(s, d)
	if n != code || !sameSubst(got, want) {
		t.Errorf("NormalDisequality(%s, %s) is %s, %d, want %s, %d", briefSubst(s), briefSubst(d), briefSubst(got), n, briefSubst(want), code)
	}
	if code != 0 {
		return
	}
	if again, n := impl.NormalDisequality(s, got); n != 0 || !sameSubst(again, want) {
		t.Errorf("NormalDisequality(%s, %s) is %s, %d", briefSubst(s), briefSubst(got), briefSubst(again), n)
	}
}

// checkNothingNormal is for arguments that a message cannot show.
func checkNothingNormal(t *testing.T, name string, s []impl.Binding, d []impl.Binding, code int) {
	t.Helper()
	if got, n := impl.NormalDisequality(s, d); n != code || len(got) != 0 {
		t.Errorf("%s: NormalDisequality has %d bindings and the code %d, want %d", name, len(got), n, code)
	}
}

// checkOrder looks at both orders of the lists.
func checkOrder(t *testing.T, d []impl.Binding, e []impl.Binding, want int) {
	t.Helper()
	if got := impl.CompareDisequalities(d, e); got != want {
		t.Errorf("CompareDisequalities(%s, %s) is %d, want %d", briefSubst(d), briefSubst(e), got, want)
	}
	if got := impl.CompareDisequalities(e, d); got != -want {
		t.Errorf("CompareDisequalities(%s, %s) is %d, want %d", briefSubst(e), briefSubst(d), got, -want)
	}
}

// checkMinimal looks also at what is minimal in the result: all of it.
func checkMinimal(t *testing.T, l [][]impl.Binding, want ...[]impl.Binding) {
	t.Helper()
	got := impl.MinimalDisequalities(l)
	if !sameSubsts(got, want) {
		t.Errorf("MinimalDisequalities(%s) is %s, want %s", briefSubsts(l), briefSubsts(got), briefSubsts(want))
	}
	if again := impl.MinimalDisequalities(got); !sameSubsts(again, want) {
		t.Errorf("MinimalDisequalities(%s) is %s", briefSubsts(got), briefSubsts(again))
	}
}

// checkMinimalInAllOrders is for a few lists.
func checkMinimalInAllOrders(t *testing.T, l [][]impl.Binding, want ...[]impl.Binding) {
	t.Helper()
	for _, order := range orders(len(l)) {
		var ordered [][]impl.Binding
		for _, i := range order {
			ordered = append(ordered, l[i])
		}
		checkMinimal(t, ordered, want...)
	}
}

func checkHolds(t *testing.T, d []impl.Binding, l []impl.Binding, want bool) {
	t.Helper()
	if got := impl.DisequalityHolds(d, l); got != want {
		t.Errorf("DisequalityHolds(%s, %s) is %v", briefSubst(d), briefSubst(l), got)
	}
}

// substs reads lists that are separated by commas; an empty text has none.
func substs(text string) [][]impl.Binding {
	var l [][]impl.Binding
	if text == "" {
		return nil
	}
	for _, part := range strings.Split(text, ",") {
		l = append(l, subst(part))
	}
	return l
}

func TestDefinitionsOfDisequalities(t *testing.T) {
	if got, code := leftByDefinition(subst("?2 (?1)"), terms("?2 ?3"), terms("(?0) b")); code != 0 || !sameSubst(got, subst("?1 ?0 ?3 b")) {
		t.Errorf("leftByDefinition is %s, %d", briefSubst(got), code)
	}
	if got, code := leftByDefinition(subst("?2 a"), terms("?2"), terms("b")); code != 1 || len(got) != 0 {
		t.Errorf("leftByDefinition is %s, %d", briefSubst(got), code)
	}
	if got, code := leftByDefinition(subst("?2 a"), terms("?2"), terms("a")); code != 2 || len(got) != 0 {
		t.Errorf("leftByDefinition is %s, %d", briefSubst(got), code)
	}
	if got := minimalByDefinition(substs("?1 a ?2 b,?3 c,?1 a,?3 c,?0 b ?1 a")); !sameSubsts(got, substs("?1 a,?3 c")) {
		t.Errorf("minimalByDefinition is %s", briefSubsts(got))
	}
	if !holdsByDefinition(subst("?1 a ?2 b"), values("?1 a ?2 c")) || holdsByDefinition(subst("?1 a ?2 b"), values("?1 a ?2 b")) {
		t.Error("holdsByDefinition is wrong")
	}
	if got := substs("?1 a,,?2 (b) ?3 c"); len(got) != 3 || len(got[1]) != 0 || !sameSubst(got[2], subst("?2 (b) ?3 c")) || substs("") != nil {
		t.Errorf("substs is %s", briefSubsts(got))
	}
	for i, c := range []int{compareSubsts(subst("?1 a"), subst("?2 a")), compareSubsts(subst("?1 a"), subst("?1 b")), compareSubsts(subst("?1 a"), subst("?1 a ?2 b")), compareSubsts(nil, subst("?0 a"))} {
		if c != -1 {
			t.Errorf("compareSubsts %d is %d", i, c)
		}
	}
}
