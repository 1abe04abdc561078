package tests

// Chapter 9, ground terms and universes: P9 for GroundTerms.

import (
	"math"
	"testing"

	"loop.example/g03210/impl"
)

// checkBuiltUpTo looks at the sizes from 1 to 5, of which 2 and 4 add nothing.
func checkBuiltUpTo(t *testing.T, atoms string, one string, three string, five string) {
	t.Helper()
	u := terms(atoms)
	checkBuilt(t, u, 1, terms(one))
	checkBuilt(t, u, 2, terms(one))
	checkBuilt(t, u, 3, terms(three))
	checkBuilt(t, u, 4, terms(three))
	checkBuilt(t, u, 5, terms(five))
}

func TestGroundTermsOfOneElement(t *testing.T) {
	checkBuiltUpTo(t, "a", "a", "a (a . a)", "a (a . a) (a a . a) ((a . a) . a)")
	checkBuiltUpTo(t, "()", "()", "() (())", "() (()) (() ()) ((()))")
	checkBuiltUpTo(t, "-7", "-7", "-7 (-7 . -7)", "-7 (-7 . -7) (-7 -7 . -7) ((-7 . -7) . -7)")
	// A pair counts as one node, whatever its own size is.
	checkBuiltUpTo(t, "(a . b)", "(a . b)", "(a . b) ((a . b) a . b)", "(a . b) ((a . b) a . b) ((a . b) (a . b) a . b) (((a . b) a . b) a . b)")
	checkBuiltUpTo(t, "(1 2 3)", "(1 2 3)", "(1 2 3) ((1 2 3) 1 2 3)", "(1 2 3) ((1 2 3) 1 2 3) ((1 2 3) (1 2 3) 1 2 3) (((1 2 3) 1 2 3) 1 2 3)")
}

func TestGroundTermsOfSeveralElements(t *testing.T) {
	checkBuiltUpTo(t, "a b", "a b", "a b (a . a) (a . b) (b . a) (b . b)",
		"a b (a . a) (a . b) (a a . a) (a a . b) (a b . a) (a b . b) (b . a) (b . b) (b a . a) (b a . b) (b b . a) (b b . b) ((a . a) . a) ((a . a) . b) ((a . b) . a) ((a . b) . b) ((b . a) . a) ((b . a) . b) ((b . b) . a) ((b . b) . b)")
	checkBuiltUpTo(t, "() 1", "() 1", "() 1 (()) (() . 1) (1) (1 . 1)",
		"() 1 (()) (() . 1) (() ()) (() () . 1) (() 1) (() 1 . 1) (1) (1 . 1) (1 ()) (1 () . 1) (1 1) (1 1 . 1) ((())) ((()) . 1) ((() . 1)) ((() . 1) . 1) ((1)) ((1) . 1) ((1 . 1)) ((1 . 1) . 1)")
	// Elements that are pairs stand before and behind what is built.
	checkBuiltUpTo(t, "b (a)", "b (a)", "b (a) (b . b) (b a) ((a) . b) ((a) a)",
		"b (a) (b . b) (b a) (b b . b) (b b a) (b (a) . b) (b (a) a) ((a) . b) ((a) a) ((a) b . b) ((a) b a) ((a) (a) . b) ((a) (a) a) ((b . b) . b) ((b . b) a) ((b a) . b) ((b a) a) (((a) . b) . b) (((a) . b) a) (((a) a) . b) (((a) a) a)")
}

// A term that is an element and is also built from elements comes once, and is
// one node where it stands in a larger one.
func TestGroundTermsThatAreElements(t *testing.T) {
	checkBuiltUpTo(t, "a (a . a)", "a (a . a)", "a (a . a) (a a . a) ((a . a) . a) ((a . a) a . a)",
		"a (a . a) (a a . a) (a a a . a) (a (a . a) . a) (a (a . a) a . a) ((a . a) . a) ((a . a) a . a) ((a . a) a a . a) ((a . a) (a . a) . a) ((a . a) (a . a) a . a) ((a a . a) . a) ((a a . a) a . a) (((a . a) . a) . a) (((a . a) . a) a . a) (((a . a) a . a) . a) (((a . a) a . a) a . a)")
	checkBuilt(t, terms("() a (a)"), 3, terms("() a (()) (() . a) (() a) (a) (a . a) (a a) ((a)) ((a) . a) ((a) a)"))
	for n, want := range map[int][3]int{1: {1, 2, 4}, 2: {2, 5, 17}, 3: {3, 10, 52}, 4: {4, 17, 121}, 5: {5, 26, 236}, 6: {6, 37, 409}} {
		u := chainOf(n, symbol("a"))
		for i, size := range []int{1, 3, 5} {
			if got := impl.GroundTerms(u, size); len(got) != want[i] {
				t.Errorf("GroundTerms of %d terms that contain each other has %d terms of size %d, want %d", n, len(got), size, want[i])
			}
			checkBuilt(t, u, size, distinct(allTerms(u, size)))
		}
	}
}

func TestGroundTermsOfAllSmallUniverses(t *testing.T) {
	for _, u := range smallUniverses() {
		for size := 1; size <= 5; size++ {
			if len(u) > 6 && size == 5 {
				checkNotBuilt(t, briefList(u), u, size)
				continue
			}
			checkBuilt(t, u, size, distinct(allTerms(u, size)))
		}
	}
}

// The terms are those that can be built with so many nodes, and no others.
func TestGroundTermsByTheirCost(t *testing.T) {
	list := allTerms(terms("a b (a)"), 7)
	for _, u := range [][]impl.Term{terms("a b"), terms("a (a . b)"), terms("b (a) (a a)"), terms("a b (a . a) ((a . a) . b)"), terms("() a"), terms("(a) (a . b)")} {
		for size := 1; size <= 5; size++ {
			got := impl.GroundTerms(u, size)
			for _, term := range list {
				if want := costIn(u, term) <= size; contains(got, term) != want {
					t.Errorf("GroundTerms(%s, %d) contains %s: %v", briefList(u), size, brief(term), !want)
				}
			}
			for _, term := range got {
				if cost := costIn(u, term); cost > size {
					t.Errorf("GroundTerms(%s, %d) contains %s, of %d nodes", briefList(u), size, brief(term), cost)
				}
			}
		}
	}
}

// MaxInstances cannot be reached: with up to 6 elements there are at most 474
// terms, and with more than 6 there are at least 652, however many are the same.
func TestGroundTermsUpToMaxInstances(t *testing.T) {
	for n := 1; n <= 8; n++ {
		u := numbers(-3, n)
		checkBuilt(t, u, 1, u)
		for _, size := range []int{3, 4} {
			if got := impl.GroundTerms(u, size); len(got) != n+n*n || !sameTerms(got, distinct(allTerms(u, 3))) {
				t.Errorf("GroundTerms of %d integers has %d terms of size %d", n, len(got), size)
			}
		}
		want := n + n*n + 2*n*n*n
		if n > 6 {
			want = 0
		}
		if got := impl.GroundTerms(u, 5); len(got) != want {
			t.Errorf("GroundTerms of %d integers has %d terms of size 5", n, len(got))
		}
	}
	for _, n := range []int{7, 8} {
		u := chainOf(n, symbol("a"))
		if all := len(distinct(allTerms(u, 5))); all <= 512 || n == 7 && all != 652 {
			t.Errorf("%d terms are built of %d terms that contain each other", all, n)
		}
		checkNotBuilt(t, "terms that contain each other", u, 5)
		checkBuilt(t, u, 4, distinct(allTerms(u, 3)))
	}
	for _, u := range [][]impl.Term{terms("() a b c d e f"), terms("a b c d e f (a . a)"), terms("a b (a . a) (a . b) (b . a) (b . b) ((a . a) . a)")} {
		checkNotBuilt(t, briefList(u), u, 5)
		checkBuilt(t, u, 3, distinct(allTerms(u, 3)))
	}
}

func TestGroundTermsOfOtherSizes(t *testing.T) {
	for _, size := range []int{0, -1, -2, -3, -4, -5, -6, 6, 7, 8, 9, 11, 100, 255, 256, 257, 259, 261, 65537, 65541, math.MaxInt32, math.MinInt32, math.MaxInt32 + 1, 1<<32 + 1, 1<<32 + 3, 1<<32 + 5, -(1 << 32) + 5, math.MaxInt - 1, math.MaxInt, math.MinInt, math.MinInt + 1, math.MinInt + 5} {
		soon(t, "GroundTerms of a size that is none", func() {
			for name, u := range goodUniverses() {
				checkNotBuilt(t, name, u, size)
			}
			checkNotBuilt(t, "no universe", nil, size)
			checkNotBuilt(t, "a variable", terms("?0"), size)
		})
	}
}

func TestGroundTermsRefuse(t *testing.T) {
	for name, u := range badUniverses() {
		for size := 1; size <= 5; size++ {
			checkNotBuilt(t, name, u, size)
		}
	}
	// What lies in the spare capacity is not looked at.
	u := append(terms("a b"), terms("a ?0")...)
	checkBuilt(t, u[:2], 3, terms("a b (a . a) (a . b) (b . a) (b . b)"))
	checkNotBuilt(t, "more of the list", u[:3], 1)
}

// sized returns a term of size nodes, an odd number from 3 on.
func sized(size int, tail impl.Term) impl.Term { return pair(balanced(size-2, symbol("a")), tail) }

// A pair of MaxTerm nodes is built, a larger one is not, nor is then anything else.
func TestGroundTermsUpToMaxTerm(t *testing.T) {
	a := symbol("a")
	for _, c := range []struct{ size, good int }{{3, 5}, {1663, 5}, {1665, 5}, {1667, 4}, {1669, 4}, {2497, 4}, {2499, 4}, {2501, 2}, {2503, 2}, {4997, 2}, {4999, 2}} {
		x, y := sized(c.size, a), sized(c.size, number(1))
		small := pair(symbol("b"), a)
		for _, u := range [][]impl.Term{{x}, {x, y}, {a, x}, {empty(), a, number(0), y}, distinct([]impl.Term{x, small}), distinct([]impl.Term{a, x, small, y})} {
			for size := 1; size <= 5; size++ {
				if size > c.good {
					checkNotBuilt(t, "an element that is too large for this", u, size)
				} else {
					checkBuilt(t, u, size, distinct(allTerms(u, size)))
				}
			}
		}
	}
	for _, left := range []bool{false, true} {
		x := pairs(1249, left, a, number(1))
		checkBuilt(t, []impl.Term{x}, 4, distinct([]impl.Term{x, pair(x, x)}))
		checkNotBuilt(t, "1249 pairs in each other", []impl.Term{x}, 5)
		x = pairs(1250, left, a, number(1))
		checkBuilt(t, []impl.Term{x}, 2, []impl.Term{x})
		checkNotBuilt(t, "1250 pairs in each other", []impl.Term{x}, 3)
	}
}

func TestGroundTermsOfLargeElements(t *testing.T) {
	var six, eight []impl.Term
	for i := range 8 {
		eight = append(eight, sized(1665, number(i)))
	}
	six = eight[:6]
	soon(t, "GroundTerms of large elements", func() {
		checkBuilt(t, six, 5, distinct(allTerms(six, 5)))
		checkBuilt(t, eight, 4, distinct(allTerms(eight, 3)))
		for range 5 {
			checkNotBuilt(t, "too many large terms", eight, 5)
		}
	})
}
