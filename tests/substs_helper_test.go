package tests

import (
	"fmt"
	"maps"
	"math"
	"slices"
	"strings"
	"testing"

	"loop.example/g03210/impl"
)

func bind(v int, to impl.Term) impl.Binding { return impl.Binding{Var: v, To: to} }

func substOf(bindings ...impl.Binding) []impl.Binding { return bindings }

// manyBindings binds the variables from first on, n of them, to the same term.
func manyBindings(first int, n int, to impl.Term) []impl.Binding {
	var s []impl.Binding
	for i := range n {
		s = append(s, bind(first+i, to))
	}
	return s
}

func sameSubst(a []impl.Binding, b []impl.Binding) bool {
	return slices.EqualFunc(a, b, func(x, y impl.Binding) bool { return x.Var == y.Var && same(x.To, y.To) })
}

// briefSubst is for messages about valid lists.
func briefSubst(s []impl.Binding) string {
	var b strings.Builder
	for i, x := range s {
		if i == 10 {
			fmt.Fprintf(&b, ".. (%d bindings)", len(s))
			break
		}
		fmt.Fprintf(&b, "{%d %s}", x.Var, brief(x.To))
	}
	return b.String()
}

// spacedSubst returns s with spare capacity behind each of its lists, which
// holds something of its own.
func spacedSubst(s []impl.Binding) []impl.Binding {
	l := make([]impl.Binding, 0, len(s)+2)
	for _, b := range s {
		l = append(l, bind(b.Var, spaced(b.To)))
	}
	rest := l[len(l):cap(l)]
	for i := range rest {
		rest[i] = bind(7, symbol("spare"))
	}
	return l
}

// showSubst writes all of s, spare capacity included.
func showSubst(s []impl.Binding) string {
	var b strings.Builder
	fmt.Fprintf(&b, "%d", len(s))
	for _, x := range s[:cap(s)] {
		fmt.Fprintf(&b, "{%d %s}", x.Var, showAll(x.To))
	}
	return b.String()
}

// cellsOfSubst adds the addresses of all terms of s, spare capacity included.
func cellsOfSubst(cells map[*impl.Term]int, s []impl.Binding) {
	whole := s[:cap(s)]
	for i := range whole {
		cells[&whole[i].To]++
		cellsOf(cells, whole[i].To.Args)
	}
}

// checkSubstsApart reports whether two of some terms and lists, or two parts
// of one, share memory.
func checkSubstsApart(t *testing.T, name string, terms []impl.Term, substs ...[]impl.Binding) {
	t.Helper()
	cells := map[*impl.Term]int{}
	for _, term := range terms {
		cellsOf(cells, term.Args)
	}
	for _, s := range substs {
		cellsOfSubst(cells, s)
	}
	for _, n := range cells {
		if n > 1 {
			t.Errorf("%s: lists share memory", name)
			return
		}
	}
}

// substOkByDefinition has the words of the document one after the other.
func substOkByDefinition(s []impl.Binding) bool {
	if len(s) > 400 {
		return false
	}
	for i, b := range s {
		if i > 0 && b.Var <= s[i-1].Var || b.Var < 0 || b.Var > 100000 || !impl.TermOk(b.To) {
			return false
		}
		if b.To.Kind == impl.KVar && b.To.Int >= b.Var {
			return false
		}
		for _, other := range s {
			if impl.OccursIn(other.Var, b.To) {
				return false
			}
		}
	}
	return true
}

// applyByDefinition is for small valid arguments.
func applyByDefinition(s []impl.Binding, t impl.Term) impl.Term {
	if t.Kind == impl.KPair {
		return pair(applyByDefinition(s, t.Args[0]), applyByDefinition(s, t.Args[1]))
	}
	for _, b := range s {
		if t.Kind == impl.KVar && t.Int == b.Var {
			return b.To
		}
	}
	return t
}

func boundIn(s []impl.Binding, v int) bool {
	return slices.ContainsFunc(s, func(b impl.Binding) bool { return b.Var == v })
}

// allBindingLists returns all lists in which each of some variables, in the
// given order, is not bound or has one of the terms.
func allBindingLists(vars []int, terms []impl.Term) [][]impl.Binding {
	all := [][]impl.Binding{nil}
	for _, v := range vars {
		for _, s := range all[:len(all):len(all)] {
			for _, to := range terms {
				all = append(all, append(slices.Clone(s), bind(v, to)))
			}
		}
	}
	return all
}

// smallSubsts has all substitutions of four variables and a few terms.
func smallSubsts() [][]impl.Binding {
	a, x, y := symbol("a"), variable(0), variable(1)
	terms := []impl.Term{a, x, y, variable(2), pair(x, a), pair(y, x), pair(variable(3), a)}
	return slices.DeleteFunc(allBindingLists([]int{0, 1, 2, 3}, terms), func(s []impl.Binding) bool { return !substOkByDefinition(s) })
}

// largestSubst has MaxBindings bindings with terms as large as they can be.
func largestSubst() []impl.Binding {
	return manyBindings(impl.MaxVar-399, 400, balanced(4999, variable(0)))
}

func goodSubsts() map[string][]impl.Binding {
	a, x := symbol("a"), variable(0)
	return map[string][]impl.Binding{
		"no list":                          nil,
		"no binding":                       {},
		"the least variable":               {bind(0, a)},
		"the greatest variable":            {bind(100000, a)},
		"the least and the greatest":       {bind(0, empty()), bind(100000, number(-7))},
		"neighbours":                       {bind(3, a), bind(4, a), bind(5, a)},
		"the next smaller variable":        {bind(1, x)},
		"the greatest variable as a term":  {bind(0, pair(a, variable(100000)))},
		"the greatest smaller variable":    {bind(100000, variable(99999))},
		"one variable for two":             {bind(1, x), bind(2, x)},
		"smaller variables":                {bind(2, x), bind(3, variable(1))},
		"a greater variable in a pair":     {bind(0, pair(variable(1), a))},
		"greater variables in a list":      {bind(1, pair(variable(2), pair(x, empty()))), bind(3, variable(2))},
		"an integer with a number bound":   {bind(1, number(1)), bind(2, number(1))},
		"an integer with a greater number": {bind(1, number(9))},
		"the names of other terms":         {bind(4, symbol("not")), bind(5, symbol("abcdefghijkl"))},
		"a term as large as possible":      {bind(5, pairs(2499, false, a, x))},
		"the same to the left":             {bind(5, pairs(2499, true, a, variable(6)))},
		"one of MaxBindings variables":     manyBindings(1, 400, x),
		"MaxBindings from 0 on":            manyBindings(0, 400, pair(a, variable(400))),
		"the last MaxBindings":             manyBindings(99601, 400, a),
		"the largest list":                 largestSubst(),
	}
}

// badBindings returns lists that are neither substitutions nor values, each for one reason.
func badBindings() map[string][]impl.Binding {
	a, x := symbol("a"), variable(0)
	bad := map[string][]impl.Binding{
		"variable -1":               {bind(-1, a)},
		"variable -1 before others": {bind(-1, a), bind(0, a)},
		"the least int":             {bind(math.MinInt, a), bind(3, a)},
		"variable MaxVar+1":         {bind(100001, a)},
		"MaxVar+1 behind others":    {bind(0, a), bind(100000, a), bind(100001, a)},
		"the greatest int":          {bind(1, a), bind(math.MaxInt, x)},
		"a variable twice":          {bind(1, a), bind(1, a)},
		"a variable with two terms": {bind(1, a), bind(1, x)},
		"the last variable twice":   {bind(0, a), bind(1, a), bind(2, a), bind(2, a)},
		"descending":                {bind(2, a), bind(1, a)},
		"descending at the end":     {bind(1, a), bind(3, a), bind(2, a)},
		"descending at the start":   {bind(3, a), bind(1, a), bind(4, a)},
		"MaxBindings and one more":  manyBindings(1, 401, x),
		"very many bindings":        manyBindings(0, 5000, a),
		"MaxBindings, one twice":    slices.Concat(manyBindings(0, 399, a), manyBindings(398, 1, a)),
	}
	for name, term := range badTerms() {
		bad[name+" alone"] = substOf(bind(1, term))
		bad[name+" first"] = substOf(bind(1, term), bind(2, a), bind(3, x))
		bad[name+" between"] = substOf(bind(1, a), bind(2, term), bind(3, x))
		bad[name+" last"] = substOf(bind(1, a), bind(2, x), bind(3, term))
	}
	return bad
}

// badSubsts has lists that are values too.
func badSubsts() map[string][]impl.Binding {
	a, x, y, z := symbol("a"), variable(0), variable(1), variable(2)
	bad := map[string][]impl.Binding{
		"the variable itself":        {bind(1, y)},
		"variable 0 itself":          {bind(0, x)},
		"the greatest itself":        {bind(100000, variable(100000))},
		"the next variable":          {bind(1, z)},
		"a greater variable":         {bind(0, variable(100000))},
		"a greater one at the end":   {bind(0, a), bind(3, a), bind(4, variable(5))},
		"its own variable in a head": {bind(1, pair(y, a))},
		"its own variable in a tail": {bind(1, pair(a, pair(a, y)))},
		"the variable behind it":     {bind(1, pair(z, a)), bind(2, a)},
		"the last variable":          {bind(1, pair(a, variable(9))), bind(2, a), bind(9, a)},
		"the variable before it":     {bind(1, a), bind(2, pair(a, y))},
		"the first variable":         {bind(0, a), bind(1, a), bind(2, pair(x, x))},
		"a bound smaller variable":   {bind(0, a), bind(1, x)},
		"a variable for a variable":  {bind(1, x), bind(2, y)},
		"a bound one far before":     {bind(1, x), bind(2, x), bind(9, variable(1))},
		"bound deep under tails":     {bind(1, pairs(2499, false, a, z)), bind(2, a)},
		"bound deep under heads":     {bind(1, a), bind(2, pairs(2499, true, a, y))},
		"itself deep inside":         {bind(1, pairs(1000, true, a, pairs(1000, false, x, y)))},
		"each other":                 {bind(1, pair(z, a)), bind(2, pair(y, a))},
	}
	maps.Copy(bad, badBindings())
	return bad
}
