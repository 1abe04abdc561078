package tests

import (
	"slices"
	"testing"

	"loop.example/g03210/impl"
)

// values reads alternately a variable and a term, without asking whether they are values.
func values(text string) []impl.Binding {
	l := terms(text)
	var s []impl.Binding
	for i := 0; i < len(l); i += 2 {
		s = append(s, bind(l[i].Int, l[i+1]))
	}
	return s
}

// valuesOkByDefinition has the words of the document one after the other.
func valuesOkByDefinition(l []impl.Binding) bool {
	if len(l) > 400 {
		return false
	}
	for i, b := range l {
		if i > 0 && b.Var <= l[i-1].Var || b.Var < 0 || b.Var > 100000 || !impl.TermOk(b.To) {
			return false
		}
	}
	return true
}

// goodValues has lists that are no substitutions too.
func goodValues() map[string][]impl.Binding {
	a, x, y, z := symbol("a"), variable(0), variable(1), variable(2)
	good := map[string][]impl.Binding{
		"the variable itself":        {bind(1, y)},
		"variable 0 itself":          {bind(0, x)},
		"the greatest itself":        {bind(100000, variable(100000))},
		"the next variable":          {bind(1, z)},
		"a greater variable":         {bind(0, variable(100000))},
		"its own variable in a head": {bind(1, pair(y, a))},
		"its own variable deep":      {bind(1, pairs(2499, true, a, y))},
		"the variable behind it":     {bind(1, pair(z, a)), bind(2, a)},
		"the variable before it":     {bind(0, a), bind(1, pair(x, x))},
		"variables exchanged":        {bind(0, y), bind(1, x)},
		"a circle of variables":      {bind(0, y), bind(1, z), bind(2, x)},
		"variables in each other":    {bind(1, pair(z, a)), bind(2, pair(y, a))},
		"all of them themselves":     themselves(0, 400),
		"MaxBindings greater ones":   manyBindings(0, 400, variable(7)),
		"MaxBindings large terms":    manyBindings(99601, 400, balanced(4999, variable(100000))),
	}
	for name, s := range goodSubsts() {
		good["substitution: "+name] = s
	}
	return good
}

// themselves gives n variables from first on as the values of themselves.
func themselves(first int, n int) []impl.Binding {
	var l []impl.Binding
	for _, x := range variables(first, n) {
		l = append(l, bind(x.Int, x))
	}
	return l
}

func checkInstance(t *testing.T, term impl.Term, l []impl.Binding, want impl.Term) {
	t.Helper()
	if got, ok := impl.Instantiate(term, l); !ok || !same(got, want) {
		t.Errorf("Instantiate(%s, %s) is %s, %v, want %s", brief(term), briefSubst(l), brief(got), ok, brief(want))
	}
}

func checkNotInstantiated(t *testing.T, name string, term impl.Term, l []impl.Binding) {
	t.Helper()
	if got, ok := impl.Instantiate(term, l); ok || !same(got, empty()) || got.Args != nil {
		t.Errorf("%s: Instantiate is %s, %v", name, brief(got), ok)
	}
}

// checkMatch looks also at what says the same: that there is an instance, and
// that it is made with these values.
func checkMatch(t *testing.T, p impl.Term, term impl.Term, want ...impl.Binding) {
	t.Helper()
	got, ok := impl.MatchTerm(p, term)
	if !ok || !sameSubst(got, want) {
		t.Errorf("MatchTerm(%s, %s) is %s, %v, want %s", brief(p), brief(term), briefSubst(got), ok, briefSubst(want))
	}
	if !impl.IsInstance(term, p) {
		t.Errorf("IsInstance(%s, %s) is false", brief(term), brief(p))
	}
	checkInstance(t, p, got, term)
}

func checkNoMatch(t *testing.T, name string, p impl.Term, term impl.Term) {
	t.Helper()
	if got, ok := impl.MatchTerm(p, term); ok || len(got) != 0 {
		t.Errorf("%s: MatchTerm has %d values, %v", name, len(got), ok)
	}
	if impl.IsInstance(term, p) {
		t.Errorf("%s: IsInstance is true", name)
	}
}

// checkVariant looks at both orders.
func checkVariant(t *testing.T, a impl.Term, b impl.Term, want bool) {
	t.Helper()
	for _, l := range [][2]impl.Term{{a, b}, {b, a}} {
		if got := impl.IsVariant(l[0], l[1]); got != want {
			t.Errorf("IsVariant(%s, %s) is %v", brief(l[0]), brief(l[1]), got)
		}
	}
}

// checkNoVariant is for terms that a message cannot show.
func checkNoVariant(t *testing.T, name string, a impl.Term, b impl.Term) {
	t.Helper()
	if impl.IsVariant(a, b) || impl.IsVariant(b, a) {
		t.Errorf("%s: IsVariant is true", name)
	}
}

func checkGeneral(t *testing.T, l []impl.Term, want impl.Term) {
	t.Helper()
	if got, ok := impl.Generalize(l); !ok || !same(got, want) {
		t.Errorf("Generalize of %d terms from %s to %s is %s, %v, want %s", len(l), brief(l[0]), brief(l[len(l)-1]), brief(got), ok, brief(want))
	}
}

func checkNotGeneralized(t *testing.T, name string, l []impl.Term) {
	t.Helper()
	if got, ok := impl.Generalize(l); ok || !same(got, empty()) || got.Args != nil {
		t.Errorf("%s: Generalize is %s, %v", name, brief(got), ok)
	}
}

// partsOf returns t and all its parts, from left to right.
func partsOf(t impl.Term) []impl.Term { return appendParts(nil, t) }

func appendParts(l []impl.Term, t impl.Term) []impl.Term {
	l = append(l, t)
	for _, part := range t.Args {
		l = appendParts(l, part)
	}
	return l
}

// varsByDefinition is for small valid terms.
func varsByDefinition(t impl.Term) []int {
	var vars []int
	for _, part := range partsOf(t) {
		if part.Kind == impl.KVar {
			vars = append(vars, part.Int)
		}
	}
	slices.Sort(vars)
	return slices.Compact(vars)
}

// matchesByDefinition tries all parts of t as values of the variables of p. It
// is for small valid terms.
func matchesByDefinition(p impl.Term, t impl.Term) [][]impl.Binding {
	var distinct []impl.Term
	for _, part := range partsOf(t) {
		if !slices.ContainsFunc(distinct, func(d impl.Term) bool { return same(d, part) }) {
			distinct = append(distinct, part)
		}
	}
	tries := [][]impl.Binding{nil}
	for _, v := range varsByDefinition(p) {
		var longer [][]impl.Binding
		for _, l := range tries {
			for _, to := range distinct {
				longer = append(longer, append(slices.Clone(l), bind(v, to)))
			}
		}
		tries = longer
	}
	return slices.DeleteFunc(tries, func(l []impl.Binding) bool { return !same(applyByDefinition(l, p), t) })
}

// A generalization by the words of the document: seen has the parts that all
// elements have where a variable stands.
type generalization struct {
	seen [][]impl.Term
}

func (g *generalization) of(l []impl.Term) impl.Term {
	all := func(fits func(impl.Term) bool) bool {
		return !slices.ContainsFunc(l, func(t impl.Term) bool { return !fits(t) })
	}
	if all(func(t impl.Term) bool { return t.Kind == impl.KPair }) {
		var heads, tails []impl.Term
		for _, t := range l {
			heads, tails = append(heads, t.Args[0]), append(tails, t.Args[1])
		}
		head := g.of(heads)
		return pair(head, g.of(tails))
	}
	if all(func(t impl.Term) bool { return t.Kind != impl.KPair && t.Kind != impl.KVar && same(t, l[0]) }) {
		return l[0]
	}
	for i, parts := range g.seen {
		if sameTerms(parts, l) {
			return variable(i)
		}
	}
	g.seen = append(g.seen, l)
	return variable(len(g.seen) - 1)
}

// generalByDefinition is for small valid terms.
func generalByDefinition(l []impl.Term) impl.Term {
	g := &generalization{}
	return g.of(l)
}

func TestDefinitionsOfMatching(t *testing.T) {
	if got := matchesByDefinition(term("(?3 ?0 ?3)"), term("(a (b) a)")); len(got) != 1 || !sameSubst(got[0], values("?0 (b) ?3 a")) {
		t.Errorf("matchesByDefinition is %v", got)
	}
	if got := matchesByDefinition(term("(?3 ?3)"), term("(a b)")); len(got) != 0 {
		t.Errorf("matchesByDefinition is %v", got)
	}
	if got := generalByDefinition(terms("(a b (c) b) (a d () d)")); !same(got, term("(a ?0 ?1 ?0)")) {
		t.Errorf("generalByDefinition is %s", brief(got))
	}
	for name, l := range goodValues() {
		if !valuesOkByDefinition(l) {
			t.Errorf("%s: these are no values", name)
		}
	}
	for name, l := range badBindings() {
		if valuesOkByDefinition(l) {
			t.Errorf("%s: these are values", name)
		}
	}
}
