package tests

import (
	"fmt"
	"math"
	"slices"
	"strconv"
	"strings"
	"testing"

	"loop.example/g03210/impl"
)

func kindOf(v int, k int) impl.VarKind { return impl.VarKind{Var: v, Kind: k} }

func markOf(v int, tag string) impl.Mark { return impl.Mark{Var: v, Tag: tag} }

// entries reads a text like "0:s 3:i": what is said of which variable.
func entries(text string, add func(v int, what string)) {
	for _, part := range strings.Fields(text) {
		v, what, ok := strings.Cut(part, ":")
		n, err := strconv.Atoi(v)
		if !ok || err != nil {
			panic("not an entry: " + part)
		}
		add(n, what)
	}
}

// kind reads s for a symbol and i for an integer.
func kind(letter string) int {
	switch letter {
	case "s":
		return impl.KSym
	case "i":
		return impl.KInt
	}
	panic("not a kind: " + letter)
}

func kinds(text string) []impl.VarKind {
	var l []impl.VarKind
	entries(text, func(v int, what string) { l = append(l, kindOf(v, kind(what))) })
	return l
}

func marks(text string) []impl.Mark {
	var l []impl.Mark
	entries(text, func(v int, what string) { l = append(l, markOf(v, what)) })
	return l
}

// manyKinds and manyMarks say the same of n variables, from first on.
func manyKinds(first int, n int, k int) []impl.VarKind {
	var l []impl.VarKind
	for i := range n {
		l = append(l, kindOf(first+i, k))
	}
	return l
}

func manyMarks(first int, n int, tags ...string) []impl.Mark {
	var l []impl.Mark
	for i := range n {
		for _, tag := range tags {
			l = append(l, markOf(first+i, tag))
		}
	}
	return l
}

// manyTags has n tags in ascending order.
func manyTags(n int) []string {
	var l []string
	for i := range n {
		l = append(l, fmt.Sprintf("t%06d", i))
	}
	return l
}

// briefAll is for messages about lists of any length.
func briefAll[E any](l []E) string {
	if len(l) > 12 {
		return fmt.Sprintf("%v.. (%d elements)", l[:12], len(l))
	}
	return fmt.Sprint(l)
}

// kindsOkByDefinition and marksOkByDefinition compare all elements with each other.
func kindsOkByDefinition(l []impl.VarKind) bool {
	for i, x := range l {
		if x.Var < 0 || x.Var > 100000 || x.Kind != 2 && x.Kind != 3 {
			return false
		}
		for _, before := range l[:i] {
			if before.Var >= x.Var {
				return false
			}
		}
	}
	return true
}

func marksOkByDefinition(l []impl.Mark) bool {
	for i, x := range l {
		if x.Var < 0 || x.Var > 100000 || !impl.IsName(x.Tag) {
			return false
		}
		for _, before := range l[:i] {
			if !markLess(before, x) {
				return false
			}
		}
	}
	return true
}

func markLess(a impl.Mark, b impl.Mark) bool {
	return a.Var < b.Var || a.Var == b.Var && a.Tag < b.Tag
}

// withKind, freshKinds, withMarks and freshMarks have the words of the document
// for small valid arguments.
func withKind(s []impl.Binding, l []impl.VarKind, t impl.Term, k int) ([]impl.VarKind, bool) {
	to := applyByDefinition(s, t)
	if to.Kind != impl.KVar {
		return l, to.Kind == k
	}
	for _, x := range l {
		if x.Var == to.Int {
			return l, x.Kind == k
		}
	}
	l = append(slices.Clone(l), kindOf(to.Int, k))
	slices.SortFunc(l, func(a, b impl.VarKind) int { return a.Var - b.Var })
	return l, true
}

func freshKinds(s []impl.Binding, l []impl.VarKind) ([]impl.VarKind, bool) {
	var fresh []impl.VarKind
	for _, x := range l {
		more, ok := withKind(s, fresh, variable(x.Var), x.Kind)
		if !ok {
			return nil, false
		}
		fresh = more
	}
	return fresh, true
}

func hasSymbol(t impl.Term, tag string) bool {
	return slices.ContainsFunc(partsOf(t), func(part impl.Term) bool { return part.Kind == impl.KSym && part.Name == tag })
}

func withMarks(s []impl.Binding, l []impl.Mark, t impl.Term, tag string) ([]impl.Mark, bool) {
	to := applyByDefinition(s, t)
	l = slices.Clone(l)
	for _, v := range varsByDefinition(to) {
		if !slices.Contains(l, markOf(v, tag)) {
			l = append(l, markOf(v, tag))
		}
	}
	slices.SortFunc(l, func(a, b impl.Mark) int { return boolAsInt(markLess(b, a)) - boolAsInt(markLess(a, b)) })
	return l, !hasSymbol(to, tag)
}

func freshMarks(s []impl.Binding, l []impl.Mark) ([]impl.Mark, bool) {
	var fresh []impl.Mark
	for _, x := range l {
		more, ok := withMarks(s, fresh, variable(x.Var), x.Tag)
		if !ok {
			return nil, false
		}
		fresh = more
	}
	return fresh, true
}

// smallKinds has all kind lists of four variables.
func smallKinds() [][]impl.VarKind {
	all := [][]impl.VarKind{nil}
	for v := range 4 {
		for _, l := range all[:len(all):len(all)] {
			for _, k := range []int{impl.KSym, impl.KInt} {
				all = append(all, append(slices.Clone(l), kindOf(v, k)))
			}
		}
	}
	return all
}

// smallMarks has all mark lists of four variables and two tags.
func smallMarks() [][]impl.Mark {
	all := [][]impl.Mark{nil}
	for v := range 4 {
		for _, tag := range []string{"a", "b"} {
			for _, l := range all[:len(all):len(all)] {
				all = append(all, append(slices.Clone(l), markOf(v, tag)))
			}
		}
	}
	return all
}

func goodKinds() map[string][]impl.VarKind {
	return map[string][]impl.VarKind{
		"no list":                    nil,
		"no element":                 {},
		"the least variable":         kinds("0:s"),
		"the greatest variable":      kinds("100000:i"),
		"the least and the greatest": kinds("0:i 100000:s"),
		"neighbours":                 kinds("3:s 4:s 5:i 6:i"),
		"with gaps":                  kinds("1:i 7:s 90:i 91:i"),
		"the last ones":              manyKinds(99990, 11, impl.KSym),
		"thousands":                  manyKinds(5000, 5000, impl.KInt),
	}
}

// badKinds returns lists that are no kind lists, each for one reason.
func badKinds() map[string][]impl.VarKind {
	bad := map[string][]impl.VarKind{
		"a variable twice":        kinds("1:s 1:s"),
		"with both kinds":         kinds("1:s 1:i"),
		"with both, descending":   kinds("1:i 1:s"),
		"the first twice":         kinds("1:s 1:s 2:s"),
		"one between twice":       kinds("0:s 1:i 1:i 2:s"),
		"the last twice":          kinds("0:s 1:s 2:s 2:i"),
		"again later":             kinds("1:s 2:s 1:s"),
		"descending":              kinds("2:s 1:s"),
		"descending at the start": kinds("3:i 1:i 4:i"),
		"descending between":      kinds("1:s 5:s 4:s 6:s"),
		"descending at the end":   kinds("1:i 3:i 2:s"),
		"the last of thousands":   append(manyKinds(0, 5000, impl.KSym), kindOf(4999, impl.KSym)),
	}
	for name, x := range map[string]impl.VarKind{
		"variable -1": kindOf(-1, 2), "the least int": kindOf(math.MinInt, 3), "variable MaxVar+1": kindOf(100001, 2), "the greatest int": kindOf(math.MaxInt, 3),
		"nil": kindOf(5, 0), "a variable": kindOf(5, 1), "a pair": kindOf(5, 4), "kind -1": kindOf(5, -1), "kind 5": kindOf(5, 5), "kind 6": kindOf(5, 6), "a far kind": kindOf(5, 1<<40+2),
	} {
		for place, l := range aroundKind(x) {
			bad[name+place] = l
		}
	}
	return bad
}

// aroundKind has lists in which only x is wrong.
func aroundKind(x impl.VarKind) map[string][]impl.VarKind {
	low, high := kinds("2:s 3:i"), kinds("8:s 9:i")
	places := map[string][]impl.VarKind{" alone": {x}}
	if x.Var < 9 {
		places[" first"] = append([]impl.VarKind{x}, high...)
	}
	if x.Var > 2 {
		places[" last"] = append(slices.Clone(low), x)
	}
	if 2 < x.Var && x.Var < 9 {
		places[" between"] = slices.Concat(low, []impl.VarKind{x}, high)
	}
	return places
}

func goodMarks() map[string][]impl.Mark {
	return map[string][]impl.Mark{
		"no list":                     nil,
		"no element":                  {},
		"the least variable":          marks("0:a"),
		"the greatest variable":       marks("100000:a"),
		"the least and the greatest":  marks("0:b 100000:a"),
		"neighbours":                  marks("3:a 4:a 5:a"),
		"several tags":                marks("3:a 3:b 3:c 4:a 4:c"),
		"descending tags":             marks("1:c 2:b 3:a"),
		"a longer tag":                marks("1:a 1:a- 1:a-a 1:a0 1:aa 1:ab 1:b"),
		"the longest tag":             marks("1:abcdefghijk 1:abcdefghijkl"),
		"digits as bytes":             marks("1:a1 1:a10 1:a2"),
		"thousands":                   manyMarks(0, 5000, "a"),
		"thousands with several tags": manyMarks(90000, 2000, "a", "b", "c"),
		"thousands of tags":           manyMarks(7, 1, manyTags(5000)...),
	}
}

// badMarks returns lists that are no mark lists, each for one reason.
func badMarks() map[string][]impl.Mark {
	bad := map[string][]impl.Mark{
		"an element twice":        marks("1:a 1:a"),
		"the first twice":         marks("1:a 1:a 1:b 2:a"),
		"one between twice":       marks("0:a 1:a 1:b 1:b 1:c"),
		"the last twice":          marks("0:a 1:a 2:a 2:a"),
		"again later":             marks("1:a 1:b 1:a"),
		"descending":              marks("2:a 1:a"),
		"descending, other tags":  marks("2:a 1:b"),
		"descending at the start": marks("3:a 1:b 4:c"),
		"descending between":      marks("1:a 5:b 4:c 6:d"),
		"descending at the end":   marks("1:a 3:a 2:a"),
		"descending tags":         marks("1:b 1:a"),
		"tags between":            marks("0:a 1:a 1:c 1:b 2:a"),
		"tags at the end":         marks("0:a 1:b 2:b 2:a"),
		"a longer tag before":     marks("1:ab 1:a"),
		"digits as numbers":       marks("1:a2 1:a10"),
		"the last of thousands":   append(manyMarks(0, 5000, "a"), markOf(4999, "a")),
		"the last tag":            append(manyMarks(7, 1, manyTags(5000)...), markOf(7, "a")),
	}
	wrong := map[string]impl.Mark{"variable -1": markOf(-1, "a"), "the least int": markOf(math.MinInt, "a"), "variable MaxVar+1": markOf(100001, "a"), "the greatest int": markOf(math.MaxInt, "a")}
	for _, tag := range badTags() {
		wrong[fmt.Sprintf("tag %q", tag)] = markOf(5, tag)
	}
	for name, x := range wrong {
		for place, l := range aroundMark(x) {
			bad[name+place] = l
		}
	}
	return bad
}

func badTags() []string {
	return []string{"", "A", "1", "1a", "-", "-a", "aB", "a b", "a.", "a?", "?0", "()", "a\n", "a\x00", "a\xff", "é", "abcdefghijklm", strings.Repeat("a", 5000)}
}

// aroundMark has lists in which only x is wrong.
func aroundMark(x impl.Mark) map[string][]impl.Mark {
	low, high := marks("2:s 3:i"), marks("8:s 9:i")
	places := map[string][]impl.Mark{" alone": {x}}
	if x.Var < 9 {
		places[" first"] = append([]impl.Mark{x}, high...)
	}
	if x.Var > 2 {
		places[" last"] = append(slices.Clone(low), x)
	}
	if 2 < x.Var && x.Var < 9 {
		places[" between"] = slices.Concat(low, []impl.Mark{x}, high)
	}
	return places
}

func checkKindAdded(t *testing.T, s []impl.Binding, l []impl.VarKind, term impl.Term, k int, want ...impl.VarKind) {
	t.Helper()
	if got, ok := impl.AddKind(s, l, term, k); !ok || !slices.Equal(got, want) {
		t.Errorf("AddKind(%s, %s, %s, %d) is %s, %v, want %s", briefSubst(s), briefAll(l), brief(term), k, briefAll(got), ok, briefAll(want))
	}
}

func checkNoKindAdded(t *testing.T, name string, s []impl.Binding, l []impl.VarKind, term impl.Term, k int) {
	t.Helper()
	if got, ok := impl.AddKind(s, l, term, k); ok || len(got) != 0 {
		t.Errorf("%s: AddKind of the kind %d to %s is %s, %v", name, k, briefAll(l), briefAll(got), ok)
	}
}

// checkKindsFresh looks also at what is refreshed of the result: all of it.
func checkKindsFresh(t *testing.T, s []impl.Binding, l []impl.VarKind, want ...impl.VarKind) {
	t.Helper()
	for _, from := range [][]impl.VarKind{l, want} {
		if got, ok := impl.RefreshKinds(s, from); !ok || !slices.Equal(got, want) {
			t.Errorf("RefreshKinds(%s, %s) is %s, %v, want %s", briefSubst(s), briefAll(from), briefAll(got), ok, briefAll(want))
		}
	}
}

func checkNoKindsFresh(t *testing.T, name string, s []impl.Binding, l []impl.VarKind) {
	t.Helper()
	if got, ok := impl.RefreshKinds(s, l); ok || len(got) != 0 {
		t.Errorf("%s: RefreshKinds of %s is %s, %v", name, briefAll(l), briefAll(got), ok)
	}
}

func checkAbsent(t *testing.T, s []impl.Binding, l []impl.Mark, term impl.Term, tag string, want ...impl.Mark) {
	t.Helper()
	if got, ok := impl.AddAbsence(s, l, term, tag); !ok || !slices.Equal(got, want) {
		t.Errorf("AddAbsence(%s, %s, %s, %q) is %s, %v, want %s", briefSubst(s), briefAll(l), brief(term), tag, briefAll(got), ok, briefAll(want))
	}
}

func checkNotAbsent(t *testing.T, name string, s []impl.Binding, l []impl.Mark, term impl.Term, tag string) {
	t.Helper()
	if got, ok := impl.AddAbsence(s, l, term, tag); ok || len(got) != 0 {
		t.Errorf("%s: AddAbsence of %q to %s is %s, %v", name, tag, briefAll(l), briefAll(got), ok)
	}
}

// checkMarksFresh looks also at what is refreshed of the result: all of it.
func checkMarksFresh(t *testing.T, s []impl.Binding, l []impl.Mark, want ...impl.Mark) {
	t.Helper()
	for _, from := range [][]impl.Mark{l, want} {
		if got, ok := impl.RefreshMarks(s, from); !ok || !slices.Equal(got, want) {
			t.Errorf("RefreshMarks(%s, %s) is %s, %v, want %s", briefSubst(s), briefAll(from), briefAll(got), ok, briefAll(want))
		}
	}
}

func checkNoMarksFresh(t *testing.T, name string, s []impl.Binding, l []impl.Mark) {
	t.Helper()
	if got, ok := impl.RefreshMarks(s, l); ok || len(got) != 0 {
		t.Errorf("%s: RefreshMarks of %s is %s, %v", name, briefAll(l), briefAll(got), ok)
	}
}

func TestDefinitionsOfKinds(t *testing.T) {
	if l := kinds("0:s 12:i"); len(l) != 2 || l[0] != kindOf(0, 2) || l[1] != kindOf(12, 3) {
		t.Errorf("kinds is %v", l)
	}
	if l := marks("0:a 12:b-1"); len(l) != 2 || l[0] != markOf(0, "a") || l[1] != markOf(12, "b-1") {
		t.Errorf("marks is %v", l)
	}
	if l, ok := withKind(subst("?2 ?1"), kinds("0:s 3:i"), term("?2"), impl.KInt); !ok || !slices.Equal(l, kinds("0:s 1:i 3:i")) {
		t.Errorf("withKind is %v, %v", l, ok)
	}
	if _, ok := withKind(subst("?2 ?1"), kinds("1:s"), term("?2"), impl.KInt); ok {
		t.Error("withKind adds another kind")
	}
	if l, ok := freshKinds(subst("?2 a ?3 ?1"), kinds("0:s 2:s 3:i")); !ok || !slices.Equal(l, kinds("0:s 1:i")) {
		t.Errorf("freshKinds is %v, %v", l, ok)
	}
	if l, ok := withMarks(subst("?2 (?3 ?1)"), marks("1:b 2:c"), term("(?2 ?0 a)"), "b"); !ok || !slices.Equal(l, marks("0:b 1:b 2:c 3:b")) {
		t.Errorf("withMarks is %v, %v", l, ok)
	}
	if _, ok := freshMarks(subst("?2 (?3 a)"), marks("1:b 2:a")); ok {
		t.Error("freshMarks finds no a")
	}
	if len(smallKinds()) != 81 || len(smallMarks()) != 256 {
		t.Errorf("there are %d and %d small lists", len(smallKinds()), len(smallMarks()))
	}
	for _, l := range smallMarks() {
		if !marksOkByDefinition(l) {
			t.Errorf("%v is no mark list", l)
		}
	}
}
