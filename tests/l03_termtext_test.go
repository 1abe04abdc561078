package tests

// Chapter 4, text of terms: P9 for FormatTerm and ParseTerm.

import (
	"fmt"
	"regexp"
	"strconv"
	"strings"
	"testing"

	"loop.example/g03210/impl"
)

func checkText(t *testing.T, term impl.Term, want string) {
	t.Helper()
	if got := impl.FormatTerm(term); got != want {
		t.Errorf("FormatTerm(%s) is %.200q, want %.200q", brief(term), got, want)
	}
}

func checkRead(t *testing.T, text string, want impl.Term) {
	t.Helper()
	if got, ok := impl.ParseTerm(text); !ok || !same(got, want) {
		t.Errorf("ParseTerm(%.200q) is %s, %v, want %s", text, brief(got), ok, brief(want))
	}
}

func checkUnread(t *testing.T, text string) {
	t.Helper()
	if got, ok := impl.ParseTerm(text); ok || !same(got, empty()) || got.Args != nil {
		t.Errorf("ParseTerm(%.200q) is %s, %v", text, brief(got), ok)
	}
}

// checkTextOf is for the text that FormatTerm writes.
func checkTextOf(t *testing.T, term impl.Term, text string) {
	t.Helper()
	checkText(t, term, text)
	checkRead(t, text, term)
}

func TestTextOfLeaves(t *testing.T) {
	checkTextOf(t, empty(), "()")
	for _, name := range []string{"a", "z", "a1", "a-", "x--9", "abcdefghijkl", "a-1234567890", "nil", "define", "closure"} {
		checkTextOf(t, symbol(name), name)
	}
	for n, text := range map[int]string{
		0: "0", 1: "1", 7: "7", 10: "10", -1: "-1", -10: "-10", 100001: "100001", 999999999: "999999999",
		1000000000: "1000000000", -999999999: "-999999999", -1000000000: "-1000000000",
	} {
		checkTextOf(t, number(n), text)
	}
	for n, text := range map[int]string{0: "?0", 1: "?1", 9: "?9", 10: "?10", 99999: "?99999", 100000: "?100000"} {
		checkTextOf(t, variable(n), text)
	}
	checkText(t, impl.Term{Args: []impl.Term{}}, "()")
	checkText(t, spaced(symbol("a")), "a")
}

func TestTextOfPairs(t *testing.T) {
	a, b, x, one := symbol("a"), symbol("b"), variable(0), number(-1)
	checkTextOf(t, pair(a, empty()), "(a)")
	checkTextOf(t, pair(a, b), "(a . b)")
	checkTextOf(t, pair(a, x), "(a . ?0)")
	checkTextOf(t, pair(a, one), "(a . -1)")
	checkTextOf(t, pair(x, one), "(?0 . -1)")
	checkTextOf(t, pair(empty(), empty()), "(())")
	checkTextOf(t, pair(empty(), a), "(() . a)")
	checkTextOf(t, pair(a, pair(b, empty())), "(a b)")
	checkTextOf(t, pair(a, pair(b, x)), "(a b . ?0)")
	checkTextOf(t, pair(a, pair(x, pair(one, empty()))), "(a ?0 -1)")
	checkTextOf(t, pair(one, pair(x, pair(a, b))), "(-1 ?0 a . b)")
	checkTextOf(t, pair(a, pair(empty(), empty())), "(a ())")
	checkTextOf(t, pair(a, pair(empty(), pair(empty(), b))), "(a () () . b)")
}

func TestTextOfListsInLists(t *testing.T) {
	a, b, c, x := symbol("a"), symbol("b"), symbol("c"), variable(3)
	list := pair(a, pair(b, empty()))
	dotted := pair(a, pair(b, x))
	checkTextOf(t, pair(list, empty()), "((a b))")
	checkTextOf(t, pair(dotted, c), "((a b . ?3) . c)")
	checkTextOf(t, pair(list, list), "((a b) a b)")
	checkTextOf(t, pair(dotted, dotted), "((a b . ?3) a b . ?3)")
	checkTextOf(t, pair(c, pair(list, empty())), "(c (a b))")
	checkTextOf(t, pair(c, pair(list, pair(dotted, c))), "(c (a b) (a b . ?3) . c)")
	checkTextOf(t, pair(c, pair(list, list)), "(c (a b) a b)")
	checkTextOf(t, pair(pair(pair(a, b), c), x), "(((a . b) . c) . ?3)")
	checkTextOf(t, pair(pair(pair(a, empty()), empty()), empty()), "(((a)))")
	checkTextOf(t, pair(pair(a, pair(b, c)), pair(pair(a, b), pair(c, x))), "((a b . c) (a . b) c . ?3)")
}

// textByDefinition follows the words of the document.
func textByDefinition(t impl.Term) string {
	switch t.Kind {
	case impl.KNil:
		return "()"
	case impl.KVar:
		return "?" + strconv.Itoa(t.Int)
	case impl.KSym:
		return t.Name
	case impl.KInt:
		return strconv.Itoa(t.Int)
	}
	items, tail := impl.ItemsOf(t)
	var texts []string
	for _, item := range items {
		texts = append(texts, textByDefinition(item))
	}
	text := "(" + strings.Join(texts, " ")
	if tail.Kind != impl.KNil {
		text += " . " + textByDefinition(tail)
	}
	return text + ")"
}

func TestTextOfAllSmallTerms(t *testing.T) {
	terms := append(smallTerms(), allTerms([]impl.Term{empty(), symbol("a")}, 9)...)
	for _, term := range terms {
		checkTextOf(t, term, textByDefinition(term))
	}
}

func TestTextOfLargeTerms(t *testing.T) {
	a, x := symbol("a"), variable(7)
	open := strings.Repeat("(", 2499)
	checkTextOf(t, pairs(2499, true, a, x), open+"?7"+strings.Repeat(" . a)", 2499))
	checkTextOf(t, pairs(2499, true, empty(), x), open+"?7"+strings.Repeat(")", 2499))
	checkTextOf(t, pairs(2499, true, empty(), empty()), open+"()"+strings.Repeat(")", 2499))
	checkTextOf(t, pairs(2499, false, a, x), "("+strings.Repeat("a ", 2499)+". ?7)")
	checkTextOf(t, pairs(2499, false, x, empty()), "(?7"+strings.Repeat(" ?7", 2498)+")")
	checkTextOf(t, pairs(2499, false, empty(), empty()), "(()"+strings.Repeat(" ()", 2498)+")")
	half := strings.Repeat("(", 1249) + "?7" + strings.Repeat(")", 1249)
	checkTextOf(t, pair(pairs(1249, true, empty(), x), pairs(1249, false, a, empty())), "("+half+strings.Repeat(" a", 1249)+")")
	long := balanced(4999, symbol("abcdefghijkl"))
	checkTextOf(t, long, textByDefinition(long))
	wide := balanced(4999, number(-1000000000))
	checkTextOf(t, wide, textByDefinition(wide))
}

func TestTextOfInvalidTerms(t *testing.T) {
	for name, bad := range badTerms() {
		for _, term := range []impl.Term{bad, pair(bad, empty()), pair(symbol("a"), bad), pair(pair(bad, bad), bad)} {
			if got := impl.FormatTerm(term); got != "" {
				t.Errorf("%s: FormatTerm is %.200q", name, got)
			}
		}
	}
	for _, left := range []bool{false, true} {
		checkText(t, pairs(2500, left, symbol("a"), empty()), "")
		checkText(t, pairs(100000, left, empty(), empty()), "")
	}
	shared := empty()
	for range 200 {
		shared = pair(shared, shared)
	}
	if got := impl.FormatTerm(shared); got != "" {
		t.Errorf("a term of shared parts: FormatTerm is %.200q", got)
	}
}

func TestParseTermReadsLists(t *testing.T) {
	a, b, c := symbol("a"), symbol("b"), symbol("c")
	for _, text := range []string{"()", "( )", " ( ) ", "(\n)", "(;)\n)", "(   )"} {
		checkRead(t, text, empty())
	}
	for _, text := range []string{"(a)", "( a )", "(a . ())", "(a . ( ))", "(a .())", "(\na\n)", "(a;)\n)"} {
		checkRead(t, text, pair(a, empty()))
	}
	for _, text := range []string{"(a . b)", "( a . b )", "(a  .  b)", "(a\n.\nb)", "(a ;\n . ;.\n b;)\n)"} {
		checkRead(t, text, pair(a, b))
	}
	for _, text := range []string{"(a b c)", "(a . (b c))", "(a b . (c))", "(a b c . ())", "(a . (b . (c)))", "(a . (b . (c . ())))", "(a .(b .(c .())))"} {
		checkRead(t, text, pair(a, pair(b, pair(c, empty()))))
	}
	for _, text := range []string{"(a b . c)", "(a . (b . c))", "(a .(b . c))"} {
		checkRead(t, text, pair(a, pair(b, c)))
	}
	checkRead(t, "((a . b) . c)", pair(pair(a, b), c))
	checkRead(t, "((a)(b))", pair(pair(a, empty()), pair(pair(b, empty()), empty())))
	checkRead(t, "(a(b)c)", pair(a, pair(pair(b, empty()), pair(c, empty()))))
	checkRead(t, "(()())", pair(empty(), pair(empty(), empty())))
	checkRead(t, "(().())", pair(empty(), empty()))
	checkRead(t, "((). a)", pair(empty(), a))
	checkRead(t, "(() () . ?1)", pair(empty(), pair(empty(), variable(1))))
	checkRead(t, "((a . b) . (a . b))", pair(pair(a, b), pair(a, b)))
}

func TestParseTermReadsAnySpaces(t *testing.T) {
	a, x := symbol("a"), variable(1)
	for _, space := range []string{"", " ", "\n", "\n\n", "  \n ", ";\n", " ; a ) ( . \n", ";;;\n;\n "} {
		checkRead(t, space+"a"+space, a)
		checkRead(t, space+"?1"+space, x)
		checkRead(t, space+"-5"+space, number(-5))
		checkRead(t, space+"("+space+")"+space, empty())
		checkRead(t, space+"("+space+"a"+space+")"+space, pair(a, empty()))
		checkRead(t, space+"("+space+"a "+space+". "+space+"?1"+space+")"+space, pair(a, x))
		checkRead(t, space+"("+space+"("+space+"a "+space+"?1"+space+")"+space+")"+space, pair(pair(a, pair(x, empty())), empty()))
	}
	checkRead(t, "a;", a)
	checkRead(t, "a;b", a)
	checkRead(t, "a ; b ) (", a)
	checkRead(t, ";b\na", a)
	checkRead(t, "(a);)", pair(a, empty()))
}

func TestParseTermRefusesDots(t *testing.T) {
	for _, text := range []string{
		".", "..", ". a", "a .", "a . b", ". . .", "(.)", "( . )", "(. a)", "(. (a))", "(. a b)", "(. ())", "(. . a)",
		"(a .)", "(a . )", "(a b .)", "(a . b c)", "(a b . c d)", "(a . b . c)", "(a . b .)", "(a . . b)", "(a . .)",
		"(a .. b)", "(a ... b)", "(a . () b)", "(a . (b) c)", "(a . () ())", "(a) . b", "(a . b) .", ". (a)", "(a . b) . c",
		"(a (. b))", "((a . b c))", "((. a) b)", "(a . (. b))", "(a . (b .))", "(a .b)", "(a. b)", "(a.b)", "(1 .2)", "(1.2)",
		"(a . b", "(a .", "(a . (b)", "(a . )b", "(a , b)", "(a . ;b)\n)", "(a ;.\n . )",
	} {
		checkUnread(t, text)
	}
}

func TestParseTermRefusesParentheses(t *testing.T) {
	for _, text := range []string{
		"(", ")", ")(", "((", "))", "(()", "())", "()(", "()()", "() ()", ")()", "(a", "a)", "(a))", "((a)", "(a (b)", "(a b))",
		"(a (b . c)", "(a . b))", "((((a)))", "(((a))))", "(a)(b)", "(;)", "(a;)", "a(", "(a)b", "a (b)", "(a) b",
	} {
		checkUnread(t, text)
	}
}

func TestParseTermRefusesOtherThanOneTerm(t *testing.T) {
	for _, text := range []string{
		"", " ", "\n", " \n ", ";", ";a", ";a\n", "; ()\n;a", "a b", "a\nb", "?0 ?0", "1 2", "1 -2", "a b c", "() a", "a ()",
		"(a) (b)", "a (", "a )", "a .", "a ?", "a A", "a ?100001", "a 1000000001", strings.Repeat("a ", 40), strings.Repeat("a ", 41),
	} {
		checkUnread(t, text)
	}
}

func TestParseTermRefusesTokens(t *testing.T) {
	for _, token := range []string{
		"A", "aB", "a_b", "a.b", "a.", ".a", "a?", "a?0", "-a", "-", "--", "--1", "abcdefghijklm", "a-12345678901", "a,b", "a'", "'a", "\"a\"", "[]", "{}", "#", "a+",
		"01", "00", "000", "-0", "-00", "-01", "+0", "+1", "1a", "1-", "1-2", "1.", "1.0", "1e3", "0x1", "0b1", "1_000", "1?",
		"?", "??", "??0", "?a", "?x1", "?A", "?-", "?-0", "?-1", "?-5", "?+0", "?+1", "?00", "?01", "?007", "?1a", "?0x1", "?1_0", "?1.", "?1?", "?.", "0?", "?-100000",
		"?100001", "?100002", "?1000000000", "?9223372036854775807", "?9223372036854775808", "?18446744073709551616", "?99999999999999999999999",
		"1000000001", "-1000000001", "1000000002", "2000000000", "4294967296", "9223372036854775807", "-9223372036854775808",
		"9223372036854775808", "-9223372036854775809", "18446744073709551616", "18446744073709551617", "99999999999999999999999",
	} {
		for _, form := range []string{"%s", "(%s)", "(a %s)", "(%s a)", "(a . %s)", "(%s . a)", "((%s) a)", "(a b (c %s))"} {
			checkUnread(t, fmt.Sprintf(form, token))
		}
	}
}

// leafByDefinition returns the term of a token that is no parenthesis.
func leafByDefinition(token string) (impl.Term, bool) {
	switch {
	case regexp.MustCompile(`^(0|-?[1-9][0-9]*)$`).MatchString(token):
		n, err := strconv.Atoi(token)
		return number(n), err == nil && -1000000000 <= n && n <= 1000000000
	case regexp.MustCompile(`^\?(0|[1-9][0-9]*)$`).MatchString(token):
		n, err := strconv.Atoi(token[1:])
		return variable(n), err == nil && n <= 100000
	}
	return symbol(token), regexp.MustCompile(`^[a-z][a-z0-9-]{0,11}$`).MatchString(token)
}

func checkLeaf(t *testing.T, token string) {
	t.Helper()
	want, ok := leafByDefinition(token)
	if !ok {
		checkUnread(t, token)
		return
	}
	checkRead(t, token, want)
	checkRead(t, "("+token+")", pair(want, empty()))
	checkRead(t, "(a . "+token+")", pair(symbol("a"), want))
}

func TestParseTermOfAllShortTokens(t *testing.T) {
	for _, token := range allTexts("?-+.01a", 5) {
		checkLeaf(t, token)
	}
}

func TestParseTermOfNumbersNearTheirEnds(t *testing.T) {
	for _, end := range []int{0, impl.MaxVar, impl.MaxNumber, -impl.MaxNumber, 1 << 32, -1 << 32, 1 << 62} {
		for n := end - 20; n <= end+20; n++ {
			for _, form := range []string{"%d", "?%d", "0%d", "?0%d", "+%d", "-%d", "?-%d", "?+%d", "%d0", "?%d0"} {
				checkLeaf(t, fmt.Sprintf(form, n))
			}
		}
	}
}

func TestParseTermOfEachByte(t *testing.T) {
	for b := range 256 {
		one := string([]byte{byte(b)})
		letter, digit := 'a' <= b && b <= 'z', '0' <= b && b <= '9'
		switch {
		case letter:
			checkRead(t, one, symbol(one))
		case digit:
			checkRead(t, one, number(b-'0'))
		default:
			checkUnread(t, one)
		}
		switch {
		case letter || digit || b == '-':
			checkRead(t, "a"+one+"a", symbol("a"+one+"a"))
		case b == ';':
			checkRead(t, "a;a", symbol("a"))
		default:
			checkUnread(t, "a"+one+"a")
		}
		if b != '\n' && (b < 32 || b > 126) {
			checkUnread(t, "(a "+one+")")
			checkUnread(t, "a ;"+one)
			checkUnread(t, one+"\na")
		}
	}
}

func TestParseTermRefusesWhatTokensRefuses(t *testing.T) {
	for _, text := range []string{"a\t", "\ta", "(a\tb)", "a\r\n", "a\r", "\x00a", "a\x7f", "\u00e9", "a ; \u00e9\n", "a\xff", "a\u00a0", "(a \u2026 b)", "a;\t"} {
		checkUnread(t, text)
	}
	room := strings.Repeat(" ", impl.MaxText-1)
	checkRead(t, "a"+room, symbol("a"))
	checkRead(t, room+"a", symbol("a"))
	checkUnread(t, "a "+room)
	checkUnread(t, " "+room+"a")
	checkUnread(t, "a;"+room)
	checkUnread(t, "()"+room)
	checkRead(t, "()"+room[1:], empty())
	checkRead(t, "(a;"+room[6:]+"\n)", pair(symbol("a"), empty()))
}

func TestParseTermUpToMaxTerm(t *testing.T) {
	a := symbol("a")
	for n := 2495; n <= 2504; n++ {
		forms := map[string]impl.Term{
			"(" + strings.Repeat("a ", n) + ")":                                     pairs(n, false, a, empty()),
			"(" + strings.Repeat("a ", n) + ". a)":                                  pairs(n, false, a, a),
			strings.Repeat("(a . ", n) + "a" + strings.Repeat(")", n):               pairs(n, false, a, a),
			strings.Repeat("(() . ", n) + "()" + strings.Repeat(")", n):             pairs(n, false, empty(), empty()),
			strings.Repeat("(", n) + "a" + strings.Repeat(")", n):                   pairs(n, true, empty(), a),
			strings.Repeat("(", n) + "a" + strings.Repeat(" . a)", n):               pairs(n, true, a, a),
			strings.Repeat("(", n) + "a" + strings.Repeat(" . ())", n):              pairs(n, true, empty(), a),
			"(" + strings.Repeat("( ", n) + ")" + strings.Repeat(" )", n):           pairs(n, true, empty(), empty()),
			"(" + strings.Repeat("a ", n-2) + "(a) . ())":                           pairs(n-2, false, a, pair(pair(a, empty()), empty())),
			"(" + strings.Repeat("(a . a) ", n/2) + strings.Repeat("a ", n%2) + ")": pairs(n/2, false, pair(a, a), pairs(n%2, false, a, empty())),
		}
		for text, term := range forms {
			if n > 2499 {
				checkUnread(t, text)
			} else {
				checkRead(t, text, term)
			}
		}
	}
}

func TestParseTermOfVeryManyParentheses(t *testing.T) {
	for _, n := range []int{2500, 2501, 5000, 5001, 6000, 9999, 10000, 19998, 19999, 20000, 20001, 50000, 100000, 100001} {
		open := strings.Repeat("(", n)
		closed := strings.Repeat(")", n)
		for _, text := range []string{open, closed, open + "a", open + closed + ")", "(" + open + closed, open + "a" + closed + ")", open + "a . b", open + ". a" + closed, open + closed[1:], open[1:] + closed} {
			checkUnread(t, text)
		}
		checkUnread(t, strings.Repeat("(a ", n))
		checkUnread(t, strings.Repeat("(a . ", n))
		checkUnread(t, "("+strings.Repeat("a ", n))
		checkUnread(t, "("+strings.Repeat(". ", n)+")")
		checkUnread(t, strings.Repeat("a ", n)+")")
		checkUnread(t, strings.Repeat("() ", n))
		if n > 2500 {
			checkUnread(t, open+closed)
		}
	}
}
