package tests

// Chapter 2, text utilities: P9 for each of the eight functions, and P1 for
// integers and lists of integers, which are recovered from their text.

import (
	"fmt"
	"math"
	"regexp"
	"slices"
	"strings"
	"testing"

	"loop.example/g03210/impl"
)

var oneInt = regexp.MustCompile(`^(0|-?[1-9][0-9]*)$`)

var someInts = regexp.MustCompile(`^((0|-?[1-9][0-9]*)( (0|-?[1-9][0-9]*))*)?$`)

// intTexts returns texts of integers from the least to the greatest one.
func intTexts() []string {
	return []string{
		"0", "1", "-1", "7", "-7", "9", "10", "-10", "12", "-12", "99", "100", "-100", "101",
		"1000000000", "-1000000000", "2147483647", "2147483648", "-2147483648", "-2147483649",
		"4294967295", "4294967296", "9223372036854775806", "9223372036854775807",
		"-9223372036854775807", "-9223372036854775808",
	}
}

// farInts returns texts that look like integers but are beyond the type int.
func farInts() []string {
	return []string{
		"9223372036854775808", "-9223372036854775809", "9223372036854775817", "-9223372036854775818",
		"10000000000000000000", "18446744073709551615", "18446744073709551616", "18446744073709551617",
		"-18446744073709551616", "-18446744073709551617", "100000000000000000000000",
		strings.Repeat("9", 400), "-" + strings.Repeat("9", 400),
	}
}

func TestConstantsOfText(t *testing.T) {
	if impl.MaxText != 100000 || impl.MaxTokens != 20000 {
		t.Errorf("MaxText is %d and MaxTokens %d", impl.MaxText, impl.MaxTokens)
	}
}

func TestFormatInt(t *testing.T) {
	cases := map[int]string{
		0: "0", 1: "1", -1: "-1", 9: "9", 10: "10", -10: "-10", 907: "907", -12: "-12",
		1000000000: "1000000000", -1000000000: "-1000000000",
		math.MaxInt: "9223372036854775807", math.MinInt: "-9223372036854775808",
		math.MinInt + 1: "-9223372036854775807",
	}
	for n, want := range cases {
		if got := impl.FormatInt(n); got != want {
			t.Errorf("FormatInt(%d) is %q", n, got)
		}
	}
	for n := -1100; n <= 1100; n++ {
		if got := impl.FormatInt(n); got != fmt.Sprint(n) {
			t.Errorf("FormatInt(%d) is %q", n, got)
		}
	}
}

func TestParseInt(t *testing.T) {
	cases := map[string]int{
		"0": 0, "1": 1, "-1": -1, "10": 10, "-10": -10, "907": 907, "-12": -12,
		"9223372036854775807": math.MaxInt, "-9223372036854775808": math.MinInt,
		"9223372036854775806": math.MaxInt - 1, "-9223372036854775807": math.MinInt + 1,
	}
	for s, want := range cases {
		if got, ok := impl.ParseInt(s); got != want || !ok {
			t.Errorf("ParseInt(%q) is %d, %v", s, got, ok)
		}
	}
}

func TestParseIntRefuses(t *testing.T) {
	bad := []string{
		"", "-", "+", "--1", "-+1", "+1", "+0", "-0", "-00", "00", "01", "007", "-01", "-007", "1-", "1-2",
		" ", " 1", "1 ", "1 2", "\n1", "1\n", "1\t", "a", "1a", "a1", "x1", "0x1", "0b1", "0o1", "1_0", "1e3",
		"1.0", ".", "1,0", "?1", "()", "\x00", "1\x00", "\xff", "1\xff", "\u0661", "\uff11", "\u22121", "-a",
	}
	for _, s := range append(bad, farInts()...) {
		if got, ok := impl.ParseInt(s); got != 0 || ok {
			t.Errorf("ParseInt(%q) is %d, %v", s, got, ok)
		}
	}
}

func TestParseIntOfAllShortTexts(t *testing.T) {
	for _, s := range allTexts("-+019 _a", 4) {
		n, ok := impl.ParseInt(s)
		if ok != oneInt.MatchString(s) {
			t.Errorf("ParseInt(%q) is %d, %v", s, n, ok)
		}
		if ok && fmt.Sprint(n) != s || !ok && n != 0 {
			t.Errorf("ParseInt(%q) is %d, %v", s, n, ok)
		}
	}
}

func TestIntegersComeBackFromTheirText(t *testing.T) {
	numbers := []int{0, math.MinInt, math.MaxInt}
	for bit := range 63 {
		n := 1 << bit
		numbers = append(numbers, n-1, n, n+1, -n-1, -n, -n+1)
	}
	for n := 1; n < math.MaxInt/10; n *= 10 {
		numbers = append(numbers, n-1, n, n+1, -n-1, -n, -n+1)
	}
	for _, n := range numbers {
		if got, ok := impl.ParseInt(impl.FormatInt(n)); got != n || !ok {
			t.Errorf("ParseInt(FormatInt(%d)) is %d, %v", n, got, ok)
		}
	}
	for _, s := range intTexts() {
		n, ok := impl.ParseInt(s)
		if got := impl.FormatInt(n); got != s || !ok {
			t.Errorf("FormatInt(ParseInt(%q)) is %q, %v", s, got, ok)
		}
	}
}

func TestIsName(t *testing.T) {
	good := []string{"a", "z", "az", "a0", "a9", "a-", "a-1", "a--", "append", "abcdefghijkl", "z-----------", "a01234567890"}
	for _, s := range good {
		if !impl.IsName(s) {
			t.Errorf("IsName(%q) is false", s)
		}
	}
	bad := []string{
		"", "abcdefghijklm", strings.Repeat("a", 100), "1", "1a", "-", "-a", "A", "aA", "Aa", "a b", " a", "a ",
		"a\n", "\na", "a_b", "a.b", "?a", "a?", "(a)", "a;", "a\x00", "\x00", "a\xff", "\xff", "\u00e9", "a\u00e9",
		"a\u0663", "\uff41", "abcdefghijk\u00e9",
	}
	for _, s := range bad {
		if impl.IsName(s) {
			t.Errorf("IsName(%q) is true", s)
		}
	}
}

func TestIsNameOfEachByte(t *testing.T) {
	const letters = "abcdefghijklmnopqrstuvwxyz"
	const others = letters + "0123456789-"
	for b := range 256 {
		c := string([]byte{byte(b)})
		first := strings.Contains(letters, c)
		later := strings.Contains(others, c)
		if impl.IsName(c) != first || impl.IsName(c+"bc") != first {
			t.Errorf("byte %d at the beginning: %v, %v", b, impl.IsName(c), impl.IsName(c+"bc"))
		}
		if impl.IsName("a"+c) != later || impl.IsName("a"+c+"b") != later || impl.IsName("abcdefghijk"+c) != later {
			t.Errorf("byte %d after the first one is wrong", b)
		}
	}
}

func TestSplitLines(t *testing.T) {
	cases := []struct {
		text string
		want []string
	}{
		{"", nil},
		{"\n", []string{""}},
		{"\n\n", []string{"", ""}},
		{"a", []string{"a"}},
		{"a\n", []string{"a"}},
		{"a\nb", []string{"a", "b"}},
		{"a\nb\n", []string{"a", "b"}},
		{"a\n\nb\n", []string{"a", "", "b"}},
		{"\na", []string{"", "a"}},
		{"a\n\n", []string{"a", ""}},
		{"a\n ", []string{"a", " "}},
		{" a \n", []string{" a "}},
		{"a\r\nb\r", []string{"a\r", "b\r"}},
		{"\x00\n\xff\xe2\n\x82\xac\n\u20ac", []string{"\x00", "\xff\xe2", "\x82\xac", "\u20ac"}},
	}
	for _, c := range cases {
		if got := impl.SplitLines(c.text); !slices.Equal(got, c.want) {
			t.Errorf("SplitLines(%q) is %q, want %q", c.text, got, c.want)
		}
	}
}

func TestSplitLinesOfAllShortTexts(t *testing.T) {
	for _, s := range allTexts("a\n\xe2", 6) {
		whole := s
		if s != "" && !strings.HasSuffix(s, "\n") {
			whole += "\n"
		}
		back := ""
		for _, line := range impl.SplitLines(s) {
			if strings.Contains(line, "\n") {
				t.Errorf("SplitLines(%q) has the line %q", s, line)
			}
			back += line + "\n"
		}
		if back != whole {
			t.Errorf("the lines of %q together are %q", s, back)
		}
	}
}

func TestSplitLinesHasNoLimit(t *testing.T) {
	if got := impl.SplitLines(strings.Repeat("a\n", 3*impl.MaxText)); len(got) != 3*impl.MaxText {
		t.Errorf("%d lines", len(got))
	}
}

func TestJoin(t *testing.T) {
	cases := []struct {
		parts []string
		by    string
		want  string
	}{
		{nil, ",", ""},
		{[]string{}, ",", ""},
		{[]string{""}, ",", ""},
		{[]string{"a"}, ",", "a"},
		{[]string{"a", "b"}, ",", "a,b"},
		{[]string{"a", "b", "c"}, ", ", "a, b, c"},
		{[]string{"a", "b", "c"}, "", "abc"},
		{[]string{"", ""}, ",", ","},
		{[]string{"", "a", ""}, ";", ";a;"},
		{[]string{"a,", ",b"}, ",", "a,,,b"},
		{[]string{"\xff", "\x00"}, "\xe2", "\xff\xe2\x00"},
		{[]string{"a", "b"}, "\n", "a\nb"},
	}
	for _, c := range cases {
		if got := impl.Join(c.parts, c.by); got != c.want {
			t.Errorf("Join(%q, %q) is %q, want %q", c.parts, c.by, got, c.want)
		}
	}
	if got := impl.Join(make([]string, 3*impl.MaxText+1), "ab"); got != strings.Repeat("ab", 3*impl.MaxText) {
		t.Errorf("a long list gives %d bytes", len(got))
	}
}

func TestTokens(t *testing.T) {
	cases := []struct {
		text string
		want []string
	}{
		{"", nil},
		{" ", nil},
		{"\n", nil},
		{"  \n \n", nil},
		{"a", []string{"a"}},
		{"abc", []string{"abc"}},
		{"a b", []string{"a", "b"}},
		{"  a  b  ", []string{"a", "b"}},
		{"a\nb", []string{"a", "b"}},
		{"\na\n\nb\n", []string{"a", "b"}},
		{"(", []string{"("}},
		{")", []string{")"}},
		{"()", []string{"(", ")"}},
		{")(", []string{")", "("}},
		{"((a)b)", []string{"(", "(", "a", ")", "b", ")"}},
		{"a(b)c", []string{"a", "(", "b", ")", "c"}},
		{"(a . ?1)", []string{"(", "a", ".", "?1", ")"}},
		{"(= ?a -12)", []string{"(", "=", "?a", "-12", ")"}},
		{"a\"b'c,d[e]{f}\\#", []string{"a\"b'c,d[e]{f}\\#"}},
		{"!~", []string{"!~"}},
	}
	for _, c := range cases {
		if got, ok := impl.Tokens(c.text); !slices.Equal(got, c.want) || !ok {
			t.Errorf("Tokens(%q) is %q, %v, want %q", c.text, got, ok, c.want)
		}
	}
}

func TestTokensSkipsComments(t *testing.T) {
	cases := []struct {
		text string
		want []string
	}{
		{";", nil},
		{";\n", nil},
		{"; a (b)", nil},
		{"a;b", []string{"a"}},
		{"a;b\nc", []string{"a", "c"}},
		{"a ;b ; c\nd", []string{"a", "d"}},
		{"a;;b\n;c\nd;", []string{"a", "d"}},
		{"(;)\n)", []string{"(", ")"}},
		{"a;\nb", []string{"a", "b"}},
		{"(a ?1);x\n b", []string{"(", "a", "?1", ")", "b"}},
		{"a\n;b", []string{"a"}},
		{"a;b\n;c\n", []string{"a"}},
	}
	for _, c := range cases {
		if got, ok := impl.Tokens(c.text); !slices.Equal(got, c.want) || !ok {
			t.Errorf("Tokens(%q) is %q, %v, want %q", c.text, got, ok, c.want)
		}
	}
}

// tokensByDefinition splits a text that has no byte which Tokens refuses.
func tokensByDefinition(s string) []string {
	lines := strings.Split(s, "\n")
	for i, line := range lines {
		lines[i], _, _ = strings.Cut(line, ";")
	}
	spaced := strings.NewReplacer("(", " ( ", ")", " ) ").Replace(strings.Join(lines, " "))
	return strings.Fields(spaced)
}

func TestTokensOfAllShortTexts(t *testing.T) {
	for _, s := range allTexts("ab();\n ", 6) {
		want := tokensByDefinition(s)
		if got, ok := impl.Tokens(s); !slices.Equal(got, want) || !ok {
			t.Errorf("Tokens(%q) is %q, %v, want %q", s, got, ok, want)
		}
	}
}

func TestTokensOfEachByte(t *testing.T) {
	for b := range 256 {
		c := string([]byte{byte(b)})
		fine := b == 10 || 32 <= b && b <= 126
		for _, s := range []string{c, "a" + c + "b", "(a)" + c, ";" + c, "a ; b" + c + "\nc", "a\n;" + c + c} {
			got, ok := impl.Tokens(s)
			if ok != fine || !ok && len(got) != 0 {
				t.Errorf("Tokens(%q) is %q, %v", s, got, ok)
			}
			if want := tokensByDefinition(s); ok && !slices.Equal(got, want) {
				t.Errorf("Tokens(%q) is %q, want %q", s, got, want)
			}
		}
	}
	for _, s := range []string{"\u00e9", "a\u20acb", ";\u00e9", "a;\U0001f600\nb", "\ufffd", "a\ufeff", ";\xe2\x82"} {
		if got, ok := impl.Tokens(s); len(got) != 0 || ok {
			t.Errorf("Tokens(%q) is %q, %v", s, got, ok)
		}
	}
}

func TestTokensUpToMaxText(t *testing.T) {
	for _, c := range []struct {
		fill string
		want int
	}{{"a", 1}, {" ", 0}, {"\n", 0}, {";", 0}} {
		s := strings.Repeat(c.fill, 100000)
		if got, ok := impl.Tokens(s); len(got) != c.want || !ok {
			t.Errorf("%d bytes %q give %d tokens, %v", len(s), c.fill, len(got), ok)
		}
		s += c.fill
		if got, ok := impl.Tokens(s); len(got) != 0 || ok {
			t.Errorf("%d bytes %q give %d tokens, %v", len(s), c.fill, len(got), ok)
		}
	}
	long := strings.Repeat("a", 99998) + "()"
	if got, ok := impl.Tokens(long); len(got) != 3 || len(got[0]) != 99998 || !ok {
		t.Errorf("a long token and a list give %d tokens, %v", len(got), ok)
	}
}

func TestTokensUpToMaxTokens(t *testing.T) {
	for _, fill := range []string{"(", ")", "a ", "ab\n", "a;b\n"} {
		s := strings.Repeat(fill, 20000)
		if got, ok := impl.Tokens(s); len(got) != 20000 || !ok {
			t.Errorf("20000 tokens of %q give %d, %v", fill, len(got), ok)
		}
		if got, ok := impl.Tokens(s + ";a (b)\n  "); len(got) != 20000 || !ok {
			t.Errorf("20000 tokens of %q and a comment give %d, %v", fill, len(got), ok)
		}
		for _, more := range []string{"x", ")", "(", " x\n"} {
			if got, ok := impl.Tokens(s + more); len(got) != 0 || ok {
				t.Errorf("20000 tokens of %q and %q give %d, %v", fill, more, len(got), ok)
			}
		}
	}
}

func TestFormatInts(t *testing.T) {
	cases := []struct {
		list []int
		want string
	}{
		{nil, ""},
		{[]int{}, ""},
		{[]int{0}, "0"},
		{[]int{-5}, "-5"},
		{[]int{1, -2}, "1 -2"},
		{[]int{3, 2, 2, 1}, "3 2 2 1"},
		{[]int{math.MinInt, 0, math.MaxInt}, "-9223372036854775808 0 9223372036854775807"},
	}
	for _, c := range cases {
		if got := impl.FormatInts(c.list); got != c.want {
			t.Errorf("FormatInts(%d) is %q, want %q", c.list, got, c.want)
		}
	}
}

func TestParseInts(t *testing.T) {
	cases := []struct {
		text string
		want []int
	}{
		{"", nil},
		{"0", []int{0}},
		{"-5", []int{-5}},
		{"1 -2", []int{1, -2}},
		{"3 2 2 1", []int{3, 2, 2, 1}},
		{"-9223372036854775808 0 9223372036854775807", []int{math.MinInt, 0, math.MaxInt}},
	}
	for _, c := range cases {
		if got, ok := impl.ParseInts(c.text); !slices.Equal(got, c.want) || !ok {
			t.Errorf("ParseInts(%q) is %d, %v, want %d", c.text, got, ok, c.want)
		}
	}
}

func TestParseIntsRefuses(t *testing.T) {
	bad := []string{
		" ", "  ", "1  2", " 1", "1 ", " 1 2", "1 2 ", "1  ", "1\n2", "1\n", "\n", "1\t2", "1,2", "1, 2", "-", "1 -",
		"- 1", "1 a", "a 1", "a", "01", "1 02", "-0", "0 -0", "+1", "1 +1", "(1 2)", "1;2", "1 2\x00", "\xff", "1\u00a02",
	}
	for _, s := range farInts() {
		bad = append(bad, s, s+" 1", "1 "+s, "1 "+s+" 2")
	}
	for _, s := range bad {
		if got, ok := impl.ParseInts(s); len(got) != 0 || ok {
			t.Errorf("ParseInts(%q) is %d, %v", s, got, ok)
		}
	}
}

func TestParseIntsOfAllShortTexts(t *testing.T) {
	for _, s := range allTexts("-017 ", 6) {
		l, ok := impl.ParseInts(s)
		if ok != someInts.MatchString(s) {
			t.Errorf("ParseInts(%q) is %d, %v", s, l, ok)
		}
		if ok && impl.FormatInts(l) != s || !ok && len(l) != 0 {
			t.Errorf("ParseInts(%q) is %d, %v", s, l, ok)
		}
	}
}

func TestListsOfIntegersComeBackFromTheirText(t *testing.T) {
	pool := []int{0, 1, -1, 10, -10, 1000000000, math.MaxInt, math.MinInt}
	lists := [][]int{nil, pool, make([]int, 3*impl.MaxTokens)}
	for _, a := range pool {
		lists = append(lists, []int{a})
		for _, b := range pool {
			lists = append(lists, []int{a, b}, []int{b, 0, a})
		}
	}
	for _, l := range lists {
		text := impl.FormatInts(l)
		if got, ok := impl.ParseInts(text); !slices.Equal(got, l) || !ok {
			t.Errorf("the list with %d elements does not come back", len(l))
		}
	}
}

func TestTextFunctionsChangeNoArgument(t *testing.T) {
	names := []string{"a", "b", "kept"}
	if got := impl.Join(names[:2], "-"); got != "a-b" || !slices.Equal(names, []string{"a", "b", "kept"}) {
		t.Errorf("Join returns %q and leaves %q", got, names)
	}
	numbers := []int{3, -4, 5}
	if got := impl.FormatInts(numbers[:2]); got != "3 -4" || !slices.Equal(numbers, []int{3, -4, 5}) {
		t.Errorf("FormatInts returns %q and leaves %d", got, numbers)
	}
}

// checkFresh changes one result, spare capacity included, between two further calls.
func checkFresh[T comparable](t *testing.T, name string, call func() []T, other T) {
	first, second := call(), call()
	want := slices.Clone(second)
	whole := first[:cap(first)]
	for i := range whole {
		whole[i] = other
	}
	if third := call(); !slices.Equal(second, want) || !slices.Equal(third, want) {
		t.Errorf("results of %s share memory: %v and %v", name, second, third)
	}
}

func TestTextResultsAreNew(t *testing.T) {
	checkFresh(t, "SplitLines", func() []string { return impl.SplitLines("a\nb\n") }, "x")
	checkFresh(t, "Tokens", func() []string { l, _ := impl.Tokens("(a ?1)"); return l }, "x")
	checkFresh(t, "ParseInts", func() []int { l, _ := impl.ParseInts("1 2 3"); return l }, 9)
}
