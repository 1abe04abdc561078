package tests

// Chapter 4, text of terms: P9 for FormatTerms and ParseTerms, P1 for texts
// and the terms that are read from them, and what chapter 1 says of arguments
// and results.

import (
	"slices"
	"strings"
	"testing"

	"loop.example/g03210/impl"
)

func TestConstantsOfTermText(t *testing.T) {
	if impl.MaxList != 40 {
		t.Errorf("MaxList is %d", impl.MaxList)
	}
}

func checkTexts(t *testing.T, terms []impl.Term, want string) {
	t.Helper()
	if got := impl.FormatTerms(terms); got != want {
		t.Errorf("FormatTerms of %d terms is %.200q, want %.200q", len(terms), got, want)
	}
}

func checkReadAll(t *testing.T, text string, want ...impl.Term) {
	t.Helper()
	if got, ok := impl.ParseTerms(text); !ok || !sameTerms(got, want) {
		t.Errorf("ParseTerms(%.200q) is %d terms, %v, want %d", text, len(got), ok, len(want))
	}
}

func checkUnreadAll(t *testing.T, text string) {
	t.Helper()
	if got, ok := impl.ParseTerms(text); ok || len(got) != 0 {
		t.Errorf("ParseTerms(%.200q) is %d terms, %v", text, len(got), ok)
	}
}

// checkTextsOf is for the text that FormatTerms writes.
func checkTextsOf(t *testing.T, text string, terms ...impl.Term) {
	t.Helper()
	checkTexts(t, terms, text)
	checkReadAll(t, text, terms...)
}

func TestTextOfSomeTerms(t *testing.T) {
	a, x, one := symbol("a"), variable(0), number(-1)
	checkTexts(t, nil, "")
	checkTexts(t, []impl.Term{}, "")
	checkTextsOf(t, "")
	for text, term := range map[string]impl.Term{"()": empty(), "a": a, "?0": x, "-1": one, "(a)": pair(a, empty()), "(a . ?0)": pair(a, x), "(() a)": pair(empty(), pair(a, empty()))} {
		checkTextsOf(t, text, term)
		checkTextsOf(t, text+" "+text, term, term)
		checkTextsOf(t, "a "+text+" ?0", a, term, x)
	}
	checkTextsOf(t, "a ?0", a, x)
	checkTextsOf(t, "?0 a", x, a)
	checkTextsOf(t, "() ()", empty(), empty())
	checkTextsOf(t, "a a a", a, a, a)
	checkTextsOf(t, "a ?0 -1 () (a ?0) (a . ?0)", a, x, one, empty(), pair(a, pair(x, empty())), pair(a, x))
	checkTextsOf(t, "?100000 1000000000 -1000000000 abcdefghijkl", variable(100000), number(1000000000), number(-1000000000), symbol("abcdefghijkl"))
}

func TestTextOfMaxListTerms(t *testing.T) {
	a := symbol("a")
	for n := range 100 {
		text := strings.TrimSuffix(strings.Repeat("a ", n), " ")
		lists := strings.TrimSuffix(strings.Repeat("(a . a) ", n), " ")
		if n <= 40 {
			checkTextsOf(t, text, slices.Repeat([]impl.Term{a}, n)...)
			checkTextsOf(t, lists, slices.Repeat([]impl.Term{pair(a, a)}, n)...)
			continue
		}
		checkTexts(t, slices.Repeat([]impl.Term{a}, n), "")
		checkTexts(t, slices.Repeat([]impl.Term{pair(a, a)}, n), "")
		checkUnreadAll(t, text)
		checkUnreadAll(t, lists)
		checkUnreadAll(t, strings.Repeat("()", n))
	}
	checkReadAll(t, strings.Repeat("()", 40), slices.Repeat([]impl.Term{empty()}, 40)...)
	checkTextOf(t, pairs(100, false, a, empty()), "("+strings.Repeat("a ", 99)+"a)")
}

func TestTextOfSomeInvalidTerms(t *testing.T) {
	a := symbol("a")
	for name, bad := range badTerms() {
		for _, terms := range [][]impl.Term{{bad}, {bad, a}, {a, bad}, {a, bad, a}, {bad, bad}, {a, pair(a, bad)}} {
			if got := impl.FormatTerms(terms); got != "" {
				t.Errorf("%s: FormatTerms is %.200q", name, got)
			}
		}
		for _, i := range []int{0, 1, 20, 38, 39} {
			terms := slices.Repeat([]impl.Term{a}, 40)
			terms[i] = bad
			checkTexts(t, terms, "")
			checkTexts(t, append(terms, a), "")
		}
	}
	checkTexts(t, slices.Repeat([]impl.Term{symbol("A")}, 1000), "")
}

// Each term has a size of its own; together they may be as large as Tokens allows.
func TestTextOfSomeLargeTerms(t *testing.T) {
	a, x := symbol("a"), variable(5)
	large := pairs(2499, false, a, x)
	text := "(" + strings.Repeat("a ", 2499) + ". ?5)"
	checkTextsOf(t, text+" "+text, large, large)
	checkTextsOf(t, "a "+text+" "+text+" "+text+" ?5", a, large, large, large, x)
	tooLarge := strings.Repeat("(", 2500) + "a" + strings.Repeat(")", 2500)
	for _, bad := range []string{tooLarge, "a " + tooLarge, tooLarge + " a", text + " " + tooLarge, tooLarge + " " + text} {
		checkUnreadAll(t, bad)
	}
}

// A list of 498 elements has 500 tokens, so that 40 of them have MaxTokens.
func TestParseTermsUpToMaxTokens(t *testing.T) {
	a := symbol("a")
	list := pairs(498, false, a, empty())
	text := strings.Repeat("("+strings.Repeat("a ", 498)+")", 39)
	checkReadAll(t, text+"("+strings.Repeat("a ", 498)+")", slices.Repeat([]impl.Term{list}, 40)...)
	checkUnreadAll(t, text+"("+strings.Repeat("a ", 499)+")")
	checkUnreadAll(t, text+"("+strings.Repeat("a ", 498)+")a")
}

func TestParseTermsUpToMaxText(t *testing.T) {
	a := symbol("a")
	room := strings.Repeat(" ", impl.MaxText)
	checkReadAll(t, room)
	checkUnreadAll(t, room+" ")
	checkReadAll(t, "a"+room[2:]+"a", a, a)
	checkUnreadAll(t, "a"+room[1:]+"a")
	checkReadAll(t, ";"+room[1:])
	checkUnreadAll(t, ";"+room)
}

// The document gives FormatTerms no limit of its own for the length of a text.
func TestTextsLongerThanMaxText(t *testing.T) {
	large := pairs(2499, false, symbol("abcdefghijkl"), variable(100000))
	text := "(" + strings.Repeat("abcdefghijkl ", 2499) + ". ?100000)"
	whole := strings.TrimSuffix(strings.Repeat(text+" ", 40), " ")
	checkTexts(t, slices.Repeat([]impl.Term{large}, 40), whole)
	checkUnreadAll(t, whole)
	checkTextsOf(t, text+" "+text+" "+text, large, large, large)
}

func TestParseTermsReadsAnySpaces(t *testing.T) {
	a, x := symbol("a"), variable(1)
	for _, text := range []string{"", " ", "\n", " \n\n ", ";", ";a", "; a\n", ";a ?1\n;( \n\n"} {
		checkReadAll(t, text)
	}
	for _, space := range []string{" ", "\n", "  \n ", ";\n", " ; a ) ( . \n", ";;\n;\n "} {
		checkReadAll(t, space+"a"+space, a)
		checkReadAll(t, space+"a"+space+"?1"+space, a, x)
		checkReadAll(t, space+"?1"+space+"("+space+"a"+space+")"+space+"a"+space, x, pair(a, empty()), a)
		checkReadAll(t, "("+space+"a"+space+"."+space+"?1"+space+")"+space+"()", pair(a, x), empty())
	}
	checkReadAll(t, "()()", empty(), empty())
	checkReadAll(t, "a()?1(a)1", a, empty(), x, pair(a, empty()), number(1))
	checkReadAll(t, "(a)(a . a)a", pair(a, empty()), pair(a, a), a)
	checkReadAll(t, "a;b\n?1;c", a, x)
}

func TestParseTermsRefuses(t *testing.T) {
	for _, text := range []string{
		".", "a .", ". a", "a . b", "(", ")", "a (", "a )", "( a", ") a", "a ( b", "a ) b", "a (b", "(a) b)", "(a . b) c)", "a (b . c d)", "a (. b)",
		"A", "a A", "A a", "a A b", "a ?", "? a", "a ?x b", "?x", "a - b", "a -0 b", "01", "a 01", "a +1", "?-1", "a ?01",
		"?100001", "a ?100001", "?100001 a", "1000000001", "a 1000000001 b", "-1000000001 a", "abcdefghijklm", "a abcdefghijklm a",
		"a\t", "a \u00e9", "a\r\nb", "a \x00", "a b;\x7f", "\xff", "() () (", "() ) ()", strings.Repeat("a ", 40) + ")", strings.Repeat("a ", 40) + "(",
		strings.Repeat("a ", 39) + "A", strings.Repeat("a ", 40) + "A", strings.Repeat("a ", 39) + "(a",
	} {
		checkUnreadAll(t, text)
	}
}

// A reading is some tokens and the terms that they are.
type reading struct {
	tokens string
	terms  []impl.Term
}

// readings returns, for each number of tokens up to n, all readings as one
// term and all readings as any number of terms, made by the rules of the document.
func readings(leaves map[string]impl.Term, n int) ([][]reading, [][]reading) {
	one, some := make([][]reading, n+1), make([][]reading, n+1)
	some[0] = []reading{{}}
	for k := 1; k <= n; k++ {
		one[k] = readingsOfOne(leaves, one, some, k)
		for first := 1; first <= k; first++ {
			for _, r := range one[first] {
				for _, rest := range some[k-first] {
					some[k] = append(some[k], reading{r.tokens + rest.tokens, slices.Concat(r.terms, rest.terms)})
				}
			}
		}
	}
	return one, some
}

func readingsOfOne(leaves map[string]impl.Term, one [][]reading, some [][]reading, k int) []reading {
	var found []reading
	if k == 1 {
		for token, term := range leaves {
			found = append(found, reading{token + " ", []impl.Term{term}})
		}
		return found
	}
	for _, r := range some[k-2] {
		found = append(found, reading{"( " + r.tokens + ") ", []impl.Term{chained(r.terms, empty())}})
	}
	for n := 1; n+4 <= k; n++ {
		for _, r := range some[n] {
			for _, last := range one[k-3-n] {
				found = append(found, reading{"( " + r.tokens + ". " + last.tokens + ") ", []impl.Term{chained(r.terms, last.terms[0])}})
			}
		}
	}
	return found
}

func chained(items []impl.Term, tail impl.Term) impl.Term {
	for _, item := range slices.Backward(items) {
		tail = pair(item, tail)
	}
	return tail
}

// tokenTexts returns all texts of n of these tokens, each with a space behind it.
func tokenTexts(tokens []string, n int) []string {
	texts := []string{""}
	for range n {
		var longer []string
		for _, text := range texts {
			for _, token := range tokens {
				longer = append(longer, text+token+" ")
			}
		}
		texts = longer
	}
	return texts
}

func byText(all []reading) map[string][]impl.Term {
	terms := map[string][]impl.Term{}
	for _, r := range all {
		terms[r.tokens] = r.terms
	}
	return terms
}

// All texts of a few tokens are read exactly if the rules make them.
func TestAllTextsOfFewTokens(t *testing.T) {
	leaves := map[string]impl.Term{"a": symbol("a"), "?1": variable(1)}
	one, some := readings(leaves, 8)
	for n := range one {
		terms, lists := byText(one[n]), byText(some[n])
		for _, text := range tokenTexts([]string{"(", ")", ".", "a", "?1"}, n) {
			if want, ok := terms[text]; ok {
				checkRead(t, text, want[0])
			} else {
				checkUnread(t, text)
			}
			if want, ok := lists[text]; ok {
				checkReadAll(t, text, want...)
			} else {
				checkUnreadAll(t, text)
			}
		}
	}
}

// P1 is checked with terms of all shapes and sizes.
func writtenTerms() []impl.Term {
	a, x := symbol("a"), variable(100000)
	terms := append(smallTerms(), pairs(2499, false, a, x), pairs(2499, true, a, x), pairs(2499, true, empty(), number(-1000000000)))
	terms = append(terms, balanced(4999, empty()), balanced(4999, symbol("abcdefghijkl")), pairs(900, true, x, pairs(900, false, empty(), a)))
	return terms
}

// respaced writes the tokens of a text with other things between them.
func respaced(text string, between string) string {
	tokens, _ := impl.Tokens(text)
	return between + strings.Join(tokens, between) + between
}

// tight writes the tokens of a text with no more spaces than are needed.
func tight(text string) string {
	for _, parenthesis := range []string{"(", ")"} {
		text = strings.ReplaceAll(text, " "+parenthesis, parenthesis)
		text = strings.ReplaceAll(text, parenthesis+" ", parenthesis)
	}
	return text
}

func TestTermsComeBackFromTheirText(t *testing.T) {
	for _, term := range writtenTerms() {
		text := impl.FormatTerm(term)
		checkRead(t, text, term)
		checkReadAll(t, text, term)
		checkRead(t, tight(text), term)
		checkReadAll(t, tight(text+" "+text), term, term)
		for _, between := range []string{" ", "\n", "  ", " ;)\n", ";\n"} {
			checkRead(t, respaced(text, between), term)
		}
		if got := impl.FormatTerms([]impl.Term{term}); got != text {
			t.Errorf("FormatTerms of one term is %.200q, FormatTerm %.200q", got, text)
		}
	}
}

func TestListsOfTermsComeBackFromTheirText(t *testing.T) {
	terms := allTerms([]impl.Term{empty(), variable(1), symbol("a"), number(-1)}, 5)
	for size := range 41 {
		for from := 0; from+size <= len(terms); from += 1 + size {
			some := terms[from : from+size]
			text := impl.FormatTerms(some)
			checkReadAll(t, text, some...)
			checkReadAll(t, tight(text), some...)
			for _, between := range []string{" ", "\n\n", "; ( a\n"} {
				checkReadAll(t, respaced(text, between), some...)
			}
		}
	}
}

// P1: the text of a list has the texts of its elements.
func TestTextsOfListsAgreeWithTheirElements(t *testing.T) {
	terms := allTerms([]impl.Term{empty(), variable(1), symbol("a")}, 3)
	for _, a := range terms {
		for _, b := range terms {
			items := []impl.Term{a, b}
			for _, tail := range []impl.Term{variable(0), symbol("b"), number(2)} {
				list, _ := impl.ListTerm(items, tail)
				checkTextOf(t, list, "("+impl.FormatTerms(items)+" . "+impl.FormatTerm(tail)+")")
			}
			list, _ := impl.ListTerm(items, empty())
			checkTextOf(t, list, "("+impl.FormatTerms(items)+")")
			checkRead(t, "("+impl.FormatTerm(a)+" . "+impl.FormatTerm(b)+")", pair(a, b))
		}
	}
}

func TestTermTextChangesNoArgument(t *testing.T) {
	terms := spacedTerms()
	whole := impl.Term{Kind: impl.KPair, Args: append(make([]impl.Term, 0, len(terms)+5), terms...)}
	before := showAll(whole)
	for i := range whole.Args {
		first, all := impl.FormatTerm(whole.Args[i]), impl.FormatTerms(whole.Args[:i])
		if showAll(whole) != before {
			t.Fatalf("FormatTerm or FormatTerms changes %s or what is behind it", show(whole.Args[i]))
		}
		if impl.FormatTerm(whole.Args[i]) != first || impl.FormatTerms(whole.Args[:i]) != all {
			t.Errorf("the text of %s is another one the second time", show(whole.Args[i]))
		}
	}
}

func TestTermsFromTextsAreNew(t *testing.T) {
	for _, text := range []string{"()", "a", "?0", "(a)", "(a . b)", "((a) (a) . ())", "(() () . (a . a))", "((a . a) . (a . a))", "(?0 ?0 (?0 ?0))"} {
		first, _ := impl.ParseTerm(text)
		second, _ := impl.ParseTerm(text)
		checkApart(t, "ParseTerm", listed(first), listed(second))
		some, _ := impl.ParseTerms(text + " " + text + " a " + text)
		more, _ := impl.ParseTerms(text + " " + text + " a " + text)
		checkApart(t, "ParseTerms", some, more, listed(first))
		checkRead(t, text, first)
	}
}

// A text that is refused leaves nothing behind for the next one.
func TestReadingKeepsNoState(t *testing.T) {
	want := pair(symbol("a"), variable(2))
	for _, bad := range []string{"", "(", "((a", "(a . b", "a b", ")", "A", "a\t", strings.Repeat("(", 20000), strings.Repeat("a ", 41)} {
		checkUnread(t, bad)
		checkRead(t, "(a . ?2)", want)
		checkUnread(t, bad)
		checkReadAll(t, "(a . ?2) a", want, symbol("a"))
	}
}
