package tests

import (
	"fmt"
	"slices"
	"strings"
	"testing"

	"loop.example/g03210/impl"
)

func empty() impl.Term { return impl.Term{} }

func variable(n int) impl.Term { return impl.Term{Kind: impl.KVar, Int: n} }

func symbol(name string) impl.Term { return impl.Term{Kind: impl.KSym, Name: name} }

func number(n int) impl.Term { return impl.Term{Kind: impl.KInt, Int: n} }

func pair(head impl.Term, tail impl.Term) impl.Term {
	return impl.Term{Kind: impl.KPair, Args: []impl.Term{head, tail}}
}

// pairs adds n pairs around t, each with filler as its head, or as its tail if left is true.
func pairs(n int, left bool, filler impl.Term, t impl.Term) impl.Term {
	for range n {
		if left {
			t = pair(t, filler)
		} else {
			t = pair(filler, t)
		}
	}
	return t
}

// balanced returns a term of size nodes, an odd number, with depth as low as it can be.
func balanced(size int, leaf impl.Term) impl.Term {
	if size == 1 {
		return leaf
	}
	head := (size / 2) | 1
	if head > size-2 {
		head = size - 2
	}
	return pair(balanced(head, leaf), balanced(size-1-head, leaf))
}

// spaced returns t with spare capacity behind each of its lists, which holds a term of its own.
func spaced(t impl.Term) impl.Term {
	args := make([]impl.Term, 0, len(t.Args)+2)
	for _, part := range t.Args {
		args = append(args, spaced(part))
	}
	rest := args[len(args):cap(args)]
	for i := range rest {
		rest[i] = symbol("spare")
	}
	t.Args = args
	return t
}

// show writes all fields of t.
func show(t impl.Term) string {
	var b strings.Builder
	writeTerm(&b, t)
	return b.String()
}

func writeTerm(b *strings.Builder, t impl.Term) {
	fmt.Fprintf(b, "%d,%d,%q[", t.Kind, t.Int, t.Name)
	for _, part := range t.Args {
		writeTerm(b, part)
	}
	b.WriteByte(']')
}

// showAll does the same with the spare capacity of t and its parts included.
func showAll(t impl.Term) string {
	var b strings.Builder
	fmt.Fprintf(&b, "%d,%d,%q,%d[", t.Kind, t.Int, t.Name, len(t.Args))
	for _, part := range t.Args[:cap(t.Args)] {
		b.WriteString(showAll(part))
	}
	b.WriteByte(']')
	return b.String()
}

func same(a impl.Term, b impl.Term) bool {
	return a.Kind == b.Kind && a.Int == b.Int && a.Name == b.Name && sameTerms(a.Args, b.Args)
}

func sameTerms(a []impl.Term, b []impl.Term) bool { return slices.EqualFunc(a, b, same) }

// brief is show for messages about large terms.
func brief(t impl.Term) string {
	text := show(t)
	if len(text) > 200 {
		return fmt.Sprintf("%s.. (%d bytes)", text[:200], len(text))
	}
	return text
}

// cellsOf adds the addresses of all terms in lists of t, spare capacity included.
func cellsOf(cells map[*impl.Term]int, list []impl.Term) {
	whole := list[:cap(list)]
	for i := range whole {
		cells[&whole[i]]++
		cellsOf(cells, whole[i].Args)
	}
}

// checkApart reports whether two of some lists, or two parts of one, share memory.
func checkApart(t *testing.T, name string, lists ...[]impl.Term) {
	t.Helper()
	cells := map[*impl.Term]int{}
	for _, list := range lists {
		cellsOf(cells, list)
	}
	for _, n := range cells {
		if n > 1 {
			t.Errorf("%s: lists share memory", name)
			return
		}
	}
}

// allTerms returns all terms of at most size nodes with these leaves.
func allTerms(leaves []impl.Term, size int) []impl.Term {
	bySize := make([][]impl.Term, size+1)
	all := append([]impl.Term{}, leaves...)
	bySize[1] = leaves
	for n := 3; n <= size; n += 2 {
		for head := 1; head <= n-2; head += 2 {
			for _, a := range bySize[head] {
				for _, b := range bySize[n-1-head] {
					bySize[n] = append(bySize[n], pair(a, b))
				}
			}
		}
		all = append(all, bySize[n]...)
	}
	return all
}

// smallTerms has terms of all kinds, and pairs that differ in one part only.
func smallTerms() []impl.Term {
	return allTerms([]impl.Term{empty(), variable(0), variable(2), symbol("a"), number(-1)}, 5)
}

// badTerms returns terms that are not valid, each for one reason.
func badTerms() map[string]impl.Term {
	a, x := symbol("a"), variable(0)
	one, two, three := []impl.Term{a}, []impl.Term{a, x}, []impl.Term{a, x, a}
	circle := []impl.Term{a, empty()}
	circle[1] = impl.Term{Kind: impl.KPair, Args: circle}
	leftCircle := []impl.Term{empty(), a}
	leftCircle[0] = impl.Term{Kind: impl.KPair, Args: leftCircle}
	bad := map[string]impl.Term{
		"kind -1":                  {Kind: -1},
		"kind -4":                  {Kind: -4},
		"kind 5":                   {Kind: 5},
		"kind 5 with parts":        {Kind: 5, Args: two},
		"kind 1000":                {Kind: 1000},
		"nil with Int":             {Kind: impl.KNil, Int: 1},
		"nil with negative Int":    {Kind: impl.KNil, Int: -1},
		"nil with Name":            {Kind: impl.KNil, Name: "a"},
		"nil with one part":        {Kind: impl.KNil, Args: one},
		"nil with parts":           {Kind: impl.KNil, Args: two},
		"variable -1":              {Kind: impl.KVar, Int: -1},
		"variable MaxVar+1":        {Kind: impl.KVar, Int: impl.MaxVar + 1},
		"variable with Name":       {Kind: impl.KVar, Name: "a"},
		"variable with one part":   {Kind: impl.KVar, Args: one},
		"variable with parts":      {Kind: impl.KVar, Args: two},
		"symbol with Int":          {Kind: impl.KSym, Int: 1, Name: "a"},
		"symbol with negative Int": {Kind: impl.KSym, Int: -1, Name: "a"},
		"symbol with one part":     {Kind: impl.KSym, Name: "a", Args: one},
		"symbol with parts":        {Kind: impl.KSym, Name: "a", Args: two},
		"integer too great":        {Kind: impl.KInt, Int: impl.MaxNumber + 1},
		"integer too small":        {Kind: impl.KInt, Int: -impl.MaxNumber - 1},
		"integer with Name":        {Kind: impl.KInt, Name: "a"},
		"integer with one part":    {Kind: impl.KInt, Args: one},
		"integer with parts":       {Kind: impl.KInt, Args: two},
		"pair of nothing":          {Kind: impl.KPair},
		"pair of an empty list":    {Kind: impl.KPair, Args: []impl.Term{}},
		"pair of one":              {Kind: impl.KPair, Args: one},
		"pair of three":            {Kind: impl.KPair, Args: three},
		"pair with Int":            {Kind: impl.KPair, Int: 1, Args: two},
		"pair with negative Int":   {Kind: impl.KPair, Int: -1, Args: two},
		"pair with Name":           {Kind: impl.KPair, Name: "a", Args: two},
		"circle of tails":          {Kind: impl.KPair, Args: circle},
		"circle of heads":          {Kind: impl.KPair, Args: leftCircle},
		"more than MaxTerm":        pairs(2500, false, a, x),
	}
	for _, name := range []string{"", "A", "1a", "-a", "a b", "?0", "a.", "a\xff", "abcdefghijklm"} {
		bad[fmt.Sprintf("symbol %q", name)] = symbol(name)
	}
	deep := impl.Term{Kind: impl.KInt, Name: "a"}
	bad["invalid head"] = pair(deep, a)
	bad["invalid tail"] = pair(a, deep)
	bad["invalid part under heads"] = pairs(1000, true, a, deep)
	bad["invalid part under tails"] = pairs(1000, false, a, deep)
	return bad
}
