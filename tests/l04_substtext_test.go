package tests

// Chapter 5, substitutions: P9 for FormatSubst and ParseSubst, P1 for texts and
// the lists that are read from them, and what chapter 1 says of arguments and
// results.

import (
	"slices"
	"strconv"
	"strings"
	"testing"

	"loop.example/g03210/impl"
)

func checkSubstText(t *testing.T, s []impl.Binding, want string) {
	t.Helper()
	if got := impl.FormatSubst(s); got != want {
		t.Errorf("FormatSubst(%s) is %.200q, want %.200q", briefSubst(s), got, want)
	}
}

func checkReadSubst(t *testing.T, text string, want ...impl.Binding) {
	t.Helper()
	if got, ok := impl.ParseSubst(text); !ok || !sameSubst(got, want) {
		t.Errorf("ParseSubst(%.200q) is %s, %v, want %s", text, briefSubst(got), ok, briefSubst(want))
	}
}

func checkUnreadSubst(t *testing.T, text string) {
	t.Helper()
	if got, ok := impl.ParseSubst(text); ok || len(got) != 0 {
		t.Errorf("ParseSubst(%.200q) is %s, %v", text, briefSubst(got), ok)
	}
}

// checkTextOfSubst is for the text that FormatSubst writes.
func checkTextOfSubst(t *testing.T, text string, s ...impl.Binding) {
	t.Helper()
	checkSubstText(t, s, text)
	checkReadSubst(t, text, s...)
}

func TestTextOfSubsts(t *testing.T) {
	a, x := symbol("a"), variable(0)
	checkSubstText(t, nil, "")
	checkSubstText(t, []impl.Binding{}, "")
	checkTextOfSubst(t, "")
	checkTextOfSubst(t, "?0 a", bind(0, a))
	checkTextOfSubst(t, "?1 ?0", bind(1, x))
	checkTextOfSubst(t, "?100000 -7", bind(100000, number(-7)))
	checkTextOfSubst(t, "?3 ()", bind(3, empty()))
	checkTextOfSubst(t, "?4 (?0 b) ?5 a", bind(4, pair(x, pair(symbol("b"), empty()))), bind(5, a))
	checkTextOfSubst(t, "?0 (a . ?1) ?2 ?1 ?10 ?1 ?11 ((a))", bind(0, pair(a, variable(1))), bind(2, variable(1)), bind(10, variable(1)), bind(11, pair(pair(a, empty()), empty())))
	checkTextOfSubst(t, "?0 () ?1 () ?2 ()", manyBindings(0, 3, empty())...)
	for name, bad := range badSubsts() {
		if got := impl.FormatSubst(bad); got != "" {
			t.Errorf("%s: FormatSubst is %.200q", name, got)
		}
	}
}

func TestParseSubstReadsAnySpaces(t *testing.T) {
	a, x := symbol("a"), variable(0)
	for _, text := range []string{" ", "\n", ";", "; ?1 a\n", " ;?1\n\n;("} {
		checkReadSubst(t, text)
	}
	for _, space := range []string{" ", "\n", "  \n", " ;) ?9\n", ";\n"} {
		checkReadSubst(t, space+"?1"+space+"a"+space, bind(1, a))
		checkReadSubst(t, "?1"+space+"("+space+"a"+space+")"+space+"?2"+space+"?0", bind(1, pair(a, empty())), bind(2, x))
	}
	checkReadSubst(t, "?1()?2(a)?3 a", bind(1, empty()), bind(2, pair(a, empty())), bind(3, a))
	checkReadSubst(t, "?1(a . ?0)?2 a;", bind(1, pair(a, x)), bind(2, a))
	checkReadSubst(t, "?1 (a . ()) ?2 (a . (a))", bind(1, pair(a, empty())), bind(2, pair(a, pair(a, empty()))))
}

func TestParseSubstRefuses(t *testing.T) {
	for _, text := range []string{
		"?1", "?1 a ?2", "?1 a ?2 a ?3", "a", "a b", "?1 a b", "a ?1", "a ?1 a", "() a", "(?1) a", "(?1 a)", "1 a", "-1 a", "?1 a 2 a", "?1 a () a", "?1 a (?2) a", "?1 a b c",
		"?-1 a", "?01 a", "? a", "?x a", "?100001 a", "?1 ?100001", "?1 A", "?1 a ?2 A", "?1 1000000001", "?1 abcdefghijklm", "?1 01", "?1 .", ". a", "?1 a . ?2 a", "?1 . a",
		"?1 (", "?1 )", "?1 (a", "?1 a)", "?1 a (", "?1 a )", "(?1 a", "?1 (a . )", "?1 (. a)", "?1 (a . b c)", "?1 a ?2 (a b", "?1 a a ?2 a", "?1 a ?2 a a",
		"?2 a ?1 a", "?1 a ?3 a ?2 a", "?1 a ?1 a", "?1 a ?1 b", "?1 ?1", "?1 ?2", "?0 ?0", "?0 ?1", "?2 ?3", "?1 a ?2 ?1", "?1 (?2) ?2 a", "?1 (?1)", "?1 (a . ?1)", "?1 (?2) ?2 (?1)",
		"?1 a\t", "?1\ta", "?1 \u00e9", "?1 a\r\n", "?1 a;\x00", "\xff", "?1 a ?2 \"a\"", "?1 ?", "?1 (?)", "?1 ?2 a ?3", "?1 = a", "{?1 a}", "?1, a",
	} {
		checkUnreadSubst(t, text)
	}
}

func TestTextOfMaxBindings(t *testing.T) {
	var text strings.Builder
	for v := range 500 {
		if v > 0 {
			text.WriteByte(' ')
		}
		text.WriteString("?" + strconv.Itoa(v) + " a")
		if n := v + 1; n <= 400 {
			checkTextOfSubst(t, text.String(), manyBindings(0, n, symbol("a"))...)
		} else {
			checkUnreadSubst(t, text.String())
			checkSubstText(t, manyBindings(0, n, symbol("a")), "")
		}
	}
	checkUnreadSubst(t, strings.Repeat("?1 a ", 400))
	checkUnreadSubst(t, strings.Repeat("?1 a ", 10000))
}

func TestParseSubstUpToTheLimits(t *testing.T) {
	a := symbol("a")
	large := "(" + strings.Repeat("a ", 2498) + "a)"
	checkTextOfSubst(t, "?7 "+large, bind(7, pairs(2499, false, a, empty())))
	checkTextOfSubst(t, "?7 "+large+" ?8 "+large, manyBindings(7, 2, pairs(2499, false, a, empty()))...)
	checkUnreadSubst(t, "?7 "+large+" ?8 (a "+large[1:])
	checkUnreadSubst(t, "?7 (a "+large[1:]+" ?8 a")
	checkUnreadSubst(t, "?7 "+strings.Repeat("(", 19999))
	// 400 bindings of 50 tokens each are MaxTokens.
	var text strings.Builder
	for v := range 400 {
		text.WriteString("?" + strconv.Itoa(v) + "(" + strings.Repeat("a ", 47) + ")")
	}
	checkReadSubst(t, text.String(), manyBindings(0, 400, pairs(47, false, a, empty()))...)
	checkUnreadSubst(t, "?0(a "+text.String()[3:])
	room := strings.Repeat(" ", impl.MaxText)
	checkReadSubst(t, room)
	checkUnreadSubst(t, room+" ")
	checkReadSubst(t, "?1"+room[4:]+"()", bind(1, empty()))
	checkUnreadSubst(t, "?1"+room[3:]+"()")
}

// The document gives FormatSubst no limit of its own for the length of a text.
func TestTextsOfSubstsLongerThanMaxText(t *testing.T) {
	s := manyBindings(0, 400, pairs(499, false, symbol("abcdefghijkl"), variable(100000)))
	var texts []string
	for _, b := range s {
		texts = append(texts, impl.FormatTerm(variable(b.Var)), impl.FormatTerm(b.To))
	}
	checkSubstText(t, s, strings.Join(texts, " "))
	checkUnreadSubst(t, impl.FormatSubst(s))
}

// P1: lists come back from their text, however it is spaced.
func TestSubstsComeBackFromTheirText(t *testing.T) {
	lists := smallSubsts()
	for name, s := range goodSubsts() {
		if name != "the largest list" {
			lists = append(lists, s)
		}
	}
	for _, s := range lists {
		text := impl.FormatSubst(s)
		checkTextOfSubst(t, text, s...)
		checkReadSubst(t, tight(text), s...)
		for _, between := range []string{"\n", "  ", ";?9 a\n"} {
			checkReadSubst(t, respaced(text, between), s...)
		}
		var terms []impl.Term
		for _, b := range s {
			terms = append(terms, variable(b.Var), b.To)
		}
		if len(terms) <= impl.MaxList && impl.FormatTerms(terms) != text {
			t.Errorf("FormatSubst(%s) is %.200q, FormatTerms of its terms %.200q", briefSubst(s), text, impl.FormatTerms(terms))
		}
	}
}

// All texts of a few tokens are read exactly if ParseTerms reads terms that
// alternate as they must.
func TestAllTextsOfFewTokensAsSubsts(t *testing.T) {
	good := 0
	for n := range 7 {
		for _, text := range tokenTexts([]string{"(", ")", ".", "a", "?1", "?2"}, n) {
			terms, ok := impl.ParseTerms(text)
			s, fine := alternating(terms)
			if !ok || !fine || !substOkByDefinition(s) {
				checkUnreadSubst(t, text)
				continue
			}
			good++
			checkReadSubst(t, text, s...)
		}
	}
	if good < 20 {
		t.Errorf("only %d texts are substitutions", good)
	}
}

func alternating(terms []impl.Term) ([]impl.Binding, bool) {
	var s []impl.Binding
	for two := range slices.Chunk(terms, 2) {
		if len(two) < 2 || two[0].Kind != impl.KVar {
			return nil, false
		}
		s = append(s, bind(two[0].Int, two[1]))
	}
	return s, true
}

// Lists that fit each other in many ways, with spare capacity behind all parts.
func spacedSubsts() [][]impl.Binding {
	a, x := symbol("a"), variable(0)
	lists := [][]impl.Binding{
		nil, {bind(0, a)}, {bind(1, pair(x, x))}, {bind(0, pair(a, pair(a, a))), bind(2, pair(variable(1), a))},
		{bind(3, pair(pair(x, a), pair(variable(1), x))), bind(4, x)}, {bind(0, variable(1))},
	}
	for i := range lists {
		lists[i] = spacedSubst(lists[i])
	}
	return lists
}

func TestSubstFunctionsChangeNoArgument(t *testing.T) {
	for _, s := range spacedSubsts() {
		for _, u := range spacedSubsts() {
			for _, term := range spacedTerms() {
				vars := []int{3, 1, 0, 3, 9, 9}[:5]
				before := showSubst(s) + showSubst(u) + showAll(term)
				impl.SubstOk(s)
				impl.Lookup(s, 1)
				impl.ApplySubst(s, term)
				impl.RestrictSubst(s, vars)
				impl.ComposeSubst(s, u)
				impl.MoreGeneral(s, u)
				impl.FormatSubst(s)
				if showSubst(s)+showSubst(u)+showAll(term) != before || !slices.Equal(vars[:6], []int{3, 1, 0, 3, 9, 9}) {
					t.Fatalf("an argument is changed: %s, %s and %s", briefSubst(s), briefSubst(u), show(term))
				}
			}
		}
	}
}

func TestSubstResultsAreNew(t *testing.T) {
	for _, s := range spacedSubsts() {
		for v := range 5 {
			first, _ := impl.Lookup(s, v)
			second, _ := impl.Lookup(s, v)
			checkSubstsApart(t, "Lookup", []impl.Term{first, second}, s)
		}
		for _, term := range append(spacedTerms(), pair(variable(1), pair(variable(1), variable(0)))) {
			first, _ := impl.ApplySubst(s, term)
			second, _ := impl.ApplySubst(s, term)
			checkSubstsApart(t, "ApplySubst", []impl.Term{term, first, second}, s)
		}
		first, second := impl.RestrictSubst(s, []int{0, 1, 2, 3, 4}), impl.RestrictSubst(s, []int{4, 3, 2, 1, 0})
		checkSubstsApart(t, "RestrictSubst", nil, s, first, second)
		for _, u := range spacedSubsts() {
			first, _ := impl.ComposeSubst(s, u)
			second, _ := impl.ComposeSubst(s, u)
			checkSubstsApart(t, "ComposeSubst", nil, s, u, first, second)
		}
		text := impl.FormatSubst(s)
		first, _ = impl.ParseSubst(text)
		second, _ = impl.ParseSubst(text)
		checkSubstsApart(t, "ParseSubst", nil, s, first, second)
	}
}

// Arguments whose parts share memory have results whose parts do not.
func TestSubstResultsOfSharedParts(t *testing.T) {
	shared := pair(symbol("a"), variable(0))
	s := substOf(bind(1, pair(shared, shared)), bind(2, shared), bind(3, shared))
	to, _ := impl.Lookup(s, 1)
	applied, _ := impl.ApplySubst(s, pair(pair(variable(2), variable(2)), pair(variable(3), pair(shared, shared))))
	kept := impl.RestrictSubst(s, []int{1, 2, 3})
	composed, _ := impl.ComposeSubst(s, substOf(bind(0, pair(variable(9), empty())), bind(8, pair(variable(9), empty()))))
	same, _ := impl.ComposeSubst(s, nil)
	other, _ := impl.ComposeSubst(nil, s)
	checkSubstsApart(t, "all results", []impl.Term{shared, to, applied}, kept, composed, same, other)
	// The same list may be both arguments.
	both, _ := impl.ComposeSubst(s, s)
	checkSubstsApart(t, "ComposeSubst of the same list", listed(shared), both)
	if len(kept) != 3 || len(composed) != 5 || len(same) != 3 || len(other) != 3 || len(both) != 3 {
		t.Errorf("there are %d, %d, %d, %d and %d bindings", len(kept), len(composed), len(same), len(other), len(both))
	}
}

// A map has no order, so the same call is made many times.
func TestSubstFunctionsKeepNoState(t *testing.T) {
	s, u := manyBindings(100, 40, pair(variable(0), variable(1))), manyBindings(0, 90, symbol("a"))
	first, ok := impl.ComposeSubst(s, u)
	if !ok || len(first) != 130 {
		t.Fatalf("ComposeSubst has %d bindings, %v", len(first), ok)
	}
	for range 100 {
		checkNotComposed(t, "no substitution", s, substOf(bind(5, variable(5))))
		checkUnreadSubst(t, "?1 a ?1")
		checkComposed(t, s, u, first...)
		checkSubstText(t, first, impl.FormatSubst(first))
	}
}
