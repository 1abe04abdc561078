package tests

// Chapter 11, kinds and absence: P9 for KindsOk, MarksOk and ContainsSymbol.

import (
	"fmt"
	"slices"
	"testing"

	"loop.example/g03210/impl"
)

func TestKindsOk(t *testing.T) {
	for name, l := range goodKinds() {
		if !impl.KindsOk(l) {
			t.Errorf("%s: KindsOk(%s) is false", name, briefAll(l))
		}
	}
	for name, l := range badKinds() {
		if impl.KindsOk(l) {
			t.Errorf("%s: KindsOk(%s) is true", name, briefAll(l))
		}
	}
}

// One kind after the other, for each variable at a limit.
func TestKindsOkOfOneElement(t *testing.T) {
	for _, v := range []int{-1, 0, 1, 99999, 100000, 100001} {
		for k := -2; k < 8; k++ {
			want := 0 <= v && v <= impl.MaxVar && (k == impl.KSym || k == impl.KInt)
			if got := impl.KindsOk([]impl.VarKind{kindOf(v, k)}); got != want {
				t.Errorf("KindsOk of the variable %d and the kind %d is %v", v, k, got)
			}
		}
	}
}

func TestMarksOk(t *testing.T) {
	for name, l := range goodMarks() {
		if !impl.MarksOk(l) {
			t.Errorf("%s: MarksOk(%s) is false", name, briefAll(l))
		}
	}
	for name, l := range badMarks() {
		if impl.MarksOk(l) {
			t.Errorf("%s: MarksOk(%s) is true", name, briefAll(l))
		}
	}
}

func TestMarksOkOfOneElement(t *testing.T) {
	tags := append(badTags(), "a", "z", "a-", "a0", "a9", "zz-", "abcdefghijk", "abcdefghijkl", "not", "w0")
	for _, v := range []int{-1, 0, 1, 99999, 100000, 100001} {
		for _, tag := range tags {
			want := 0 <= v && v <= impl.MaxVar && impl.IsName(tag)
			if got := impl.MarksOk([]impl.Mark{markOf(v, tag)}); got != want {
				t.Errorf("MarksOk of the variable %d and the tag %q is %v", v, tag, got)
			}
		}
	}
	for i := range 256 {
		first, later := string([]byte{byte(i)}), string([]byte{'a', byte(i)})
		if impl.MarksOk([]impl.Mark{markOf(0, first)}) != impl.IsName(first) || impl.MarksOk([]impl.Mark{markOf(0, later)}) != impl.IsName(later) {
			t.Errorf("MarksOk of the tag %q or %q is wrong", first, later)
		}
	}
}

// allLists returns all lists of at most n of the elements.
func allLists[E any](elements []E, n int) [][]E {
	all := [][]E{nil}
	from := 0
	for range n {
		to := len(all)
		for _, l := range all[from:to] {
			for _, e := range elements {
				all = append(all, append(slices.Clone(l), e))
			}
		}
		from = to
	}
	return all
}

func TestKindsOkOfAllSmallLists(t *testing.T) {
	var elements []impl.VarKind
	for _, v := range []int{-1, 0, 1, 2, 100000, 100001} {
		for _, k := range []int{0, 1, 2, 3, 4} {
			elements = append(elements, kindOf(v, k))
		}
	}
	good := 0
	lists := allLists(elements, 3)
	lists = append(lists, allLists(kinds("0:s 0:i 1:s 1:i 2:i 3:s 4:s"), 5)...)
	for _, l := range lists {
		want := kindsOkByDefinition(l)
		good += boolAsInt(want)
		if got := impl.KindsOk(l); got != want {
			t.Errorf("KindsOk(%v) is %v", l, got)
		}
	}
	if good < 100 || good > len(lists)/2 {
		t.Errorf("%d of %d lists are kind lists", good, len(lists))
	}
}

func TestMarksOkOfAllSmallLists(t *testing.T) {
	var elements []impl.Mark
	for _, v := range []int{-1, 0, 1, 100000, 100001} {
		for _, tag := range []string{"", "a", "ab", "b", "B", "abcdefghijklm"} {
			elements = append(elements, markOf(v, tag))
		}
	}
	good := 0
	lists := allLists(elements, 3)
	lists = append(lists, allLists(marks("0:a 0:b 1:a 1:b 2:a 2:aa 3:b"), 5)...)
	for _, l := range lists {
		want := marksOkByDefinition(l)
		good += boolAsInt(want)
		if got := impl.MarksOk(l); got != want {
			t.Errorf("MarksOk(%v) is %v", l, got)
		}
	}
	if good < 100 || good > len(lists)/2 {
		t.Errorf("%d of %d lists are mark lists", good, len(lists))
	}
}

// A list can be as long as there are variables, and a mark list longer.
func TestListsOfAllVariables(t *testing.T) {
	all := manyKinds(0, 100001, impl.KInt)
	if !impl.KindsOk(all) || impl.KindsOk(append(slices.Clone(all), kindOf(100001, impl.KInt))) || impl.KindsOk(append(slices.Clone(all), kindOf(100000, impl.KInt))) {
		t.Error("KindsOk is wrong for all variables")
	}
	most := manyMarks(0, 100001, "a", "b")
	if !impl.MarksOk(most) || impl.MarksOk(append(slices.Clone(most), markOf(100001, "a"))) || impl.MarksOk(append(slices.Clone(most), markOf(100000, "b"))) {
		t.Error("MarksOk is wrong for all variables")
	}
}

func checkContains(t *testing.T, term impl.Term, tag string, want bool) {
	t.Helper()
	if got := impl.ContainsSymbol(term, tag); got != want {
		t.Errorf("ContainsSymbol(%s, %q) is %v", brief(term), tag, got)
	}
}

func TestContainsSymbol(t *testing.T) {
	for _, c := range [][2]string{
		{"a", "a"}, {"abcdefghijkl", "abcdefghijkl"}, {"a-1", "a-1"}, {"(a . b)", "a"}, {"(b . a)", "a"}, {"(a)", "a"}, {"(b a)", "a"}, {"(b c a d)", "a"}, {"(b c . a)", "a"}, {"(((a)))", "a"}, {"((b . (c . (d . a))) ?0 1)", "a"},
		{"(?0 1 () . a)", "a"}, {"(a a a)", "a"}, {"((((a . b) . c) . d) . e)", "a"}, {"((((b . a) . c) . d) . e)", "a"}, {"(1 . a)", "a"}, {"(() a)", "a"}, {"(?7 . a)", "a"},
	} {
		checkContains(t, term(c[0]), c[1], true)
	}
	for _, c := range [][2]string{
		{"b", "a"}, {"aa", "a"}, {"a", "aa"}, {"ba", "a"}, {"a-", "a"}, {"()", "a"}, {"?0", "a"}, {"0", "a"}, {"(b . c)", "a"}, {"(b (c (d)) . e)", "a"}, {"(aa ba ab)", "a"}, {"(?0 1 ())", "a"},
		// What looks like another term.
		{"1", "1"}, {"-7", "-7"}, {"0", "0"}, {"?3", "?3"}, {"?3", "3"}, {"()", "()"}, {"()", "nil"}, {"(a b)", "(a b)"}, {"(a . b)", "."}, {"(a b)", "ab"}, {"(12 ?4)", "12"}, {"(12 ?4)", "?4"}, {"(a b)", "A"},
		// The empty tag is the name of no symbol, although other terms have it as their Name.
		{"a", ""}, {"()", ""}, {"?0", ""}, {"5", ""}, {"(a)", ""}, {"(() ?0 5 . b)", ""},
	} {
		checkContains(t, term(c[0]), c[1], false)
	}
	for _, tag := range badTags() {
		for _, text := range []string{"a", "()", "?0", "(a (b . ?1) 1 -1 . aa)"} {
			checkContains(t, term(text), tag, false)
		}
	}
}

func TestContainsSymbolOfTermsThatAreNotValid(t *testing.T) {
	a := symbol("a")
	for name, bad := range badTerms() {
		for _, tag := range []string{"a", "", "b", bad.Name} {
			for _, term := range []impl.Term{bad, pair(a, bad), pair(bad, a), pair(a, pair(bad, a))} {
				if impl.ContainsSymbol(term, tag) {
					t.Errorf("%s: ContainsSymbol of %q is true", name, tag)
				}
			}
		}
	}
	for _, tag := range badTags() {
		checkContains(t, symbol(tag), tag, false)
		checkContains(t, pair(symbol(tag), a), "a", false)
	}
}

func TestContainsSymbolUpToMaxTerm(t *testing.T) {
	a, b := symbol("a"), symbol("b")
	for _, left := range []bool{false, true} {
		for _, n := range []int{1, 2, 100, 2498, 2499} {
			checkContains(t, pairs(n, left, b, a), "a", true)
			checkContains(t, pairs(n, left, a, b), "a", true)
			checkContains(t, pairs(n, left, b, b), "a", false)
			checkContains(t, pairs(n, left, variable(0), number(1)), "a", false)
		}
		checkContains(t, pairs(2500, left, b, a), "a", false)
		checkContains(t, pairs(2500, left, a, a), "a", false)
	}
	whole := balanced(4999, b)
	for _, place := range []int{0, 1, 1249, 1250, 2498, 2499} {
		one := leaves(whole, func(k int) impl.Term {
			if k == place {
				return a
			}
			return b
		})
		checkContains(t, one, "a", true)
		checkContains(t, one, "c", false)
	}
	checkContains(t, balanced(5001, a), "a", false)
}

func TestContainsSymbolOfAllSmallTerms(t *testing.T) {
	found := [2]int{}
	for _, term := range allTerms([]impl.Term{empty(), variable(0), symbol("a"), symbol("ab"), number(1)}, 7) {
		for _, tag := range []string{"a", "ab", "b", "", "1"} {
			want := hasSymbol(term, tag)
			found[boolAsInt(want)]++
			checkContains(t, term, tag, want)
		}
	}
	if found[0] < 1000 || found[1] < 1000 {
		t.Errorf("the tags occur and do not occur %d times", found)
	}
}

func TestAllLists(t *testing.T) {
	if got := fmt.Sprint(allLists([]int{1, 2}, 2)); got != "[[] [1] [2] [1 1] [1 2] [2 1] [2 2]]" {
		t.Errorf("allLists is %s", got)
	}
}
