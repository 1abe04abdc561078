package tests

// Chapter 11, kinds and absence: P2, what the lists say of ground values.

import (
	"slices"
	"testing"

	"loop.example/g03210/impl"
)

// kindHolds and markHolds report whether the ground value of a term is as required.
func kindHolds(l []impl.Binding, t impl.Term, k int) bool { return applyByDefinition(l, t).Kind == k }

func markHolds(l []impl.Binding, t impl.Term, tag string) bool {
	return !hasSymbol(applyByDefinition(l, t), tag)
}

func kindsHold(l []impl.Binding, list []impl.VarKind) bool {
	return !slices.ContainsFunc(list, func(x impl.VarKind) bool { return !kindHolds(l, variable(x.Var), x.Kind) })
}

func marksHold(l []impl.Binding, list []impl.Mark) bool {
	return !slices.ContainsFunc(list, func(x impl.Mark) bool { return !markHolds(l, variable(x.Var), x.Tag) })
}

// allKindValues has ground values of all variables below 4 of all kinds, with
// pairs of which the small substitutions have some.
func allKindValues() [][]impl.Binding {
	return groundValues(4, terms("a 1 () (a . a) (1 . a)"))
}

// P2: for all ground values for which the equations of s hold, a kind list
// says the same as the refreshed one, and fails for all of them if there is none.
func TestRefreshedKindsSayTheSame(t *testing.T) {
	all := allKindValues()
	counts := [2][2]int{}
	for _, s := range smallSubsts() {
		good := fulfilling(s, all)
		for _, l := range smallKinds() {
			fresh, ok := impl.RefreshKinds(s, l)
			for _, values := range good {
				want := kindsHold(values, l)
				if got := ok && kindsHold(values, fresh); got != want {
					t.Errorf("%v holds is %v for %s, but it is refreshed to %v, %v under %s", l, want, briefSubst(values), fresh, ok, briefSubst(s))
				}
				counts[boolAsInt(ok)][boolAsInt(want)]++
			}
		}
	}
	if counts[0][0] < 1000 || counts[1][0] < 1000 || counts[1][1] < 1000 || counts[0][1] > 0 {
		t.Errorf("the lists hold and do not hold for %d values", counts)
	}
}

// P2: with AddKind, the list and the kind of the term hold exactly if the
// result does, and for no values if there is none.
func TestAddKindSaysWhatIsAdded(t *testing.T) {
	all := allKindValues()
	list := terms("?0 ?1 ?2 ?3 a 1 () (?0 . a)")
	counts := [2][2]int{}
	for i, s := range smallSubsts() {
		good := fulfilling(s, all)
		for j, l := range smallKinds() {
			term, k := list[(i+j)%len(list)], []int{impl.KSym, impl.KInt}[(i+j/8)%2]
			got, ok := impl.AddKind(s, l, term, k)
			for _, values := range good {
				want := kindsHold(values, l) && kindHolds(values, term, k)
				if now := ok && kindsHold(values, got); now != want {
					t.Errorf("%v and the kind %d of %s hold is %v for %s, but they become %v, %v under %s", l, k, brief(term), want, briefSubst(values), got, ok, briefSubst(s))
				}
				counts[boolAsInt(ok)][boolAsInt(want)]++
			}
		}
	}
	if counts[0][0] < 1000 || counts[1][0] < 1000 || counts[1][1] < 1000 || counts[0][1] > 0 {
		t.Errorf("the lists hold and do not hold for %d values", counts)
	}
}

// allMarkValues has ground values of all variables below 4, in which the tags
// of the small lists occur at several places.
func allMarkValues() [][]impl.Binding {
	return groundValues(4, terms("a b c (b . a) (c . a)"))
}

// P2: the same for mark lists.
func TestRefreshedMarksSayTheSame(t *testing.T) {
	all := allMarkValues()
	counts := [2][2]int{}
	for i, s := range smallSubsts() {
		good := fulfilling(s, all)
		for j, l := range smallMarks() {
			if (i+j)%3 > 0 {
				continue
			}
			fresh, ok := impl.RefreshMarks(s, l)
			for _, values := range good {
				want := marksHold(values, l)
				if got := ok && marksHold(values, fresh); got != want {
					t.Errorf("%v holds is %v for %s, but it is refreshed to %v, %v under %s", l, want, briefSubst(values), fresh, ok, briefSubst(s))
				}
				counts[boolAsInt(ok)][boolAsInt(want)]++
			}
		}
	}
	if counts[0][0] < 1000 || counts[1][0] < 1000 || counts[1][1] < 1000 || counts[0][1] > 0 {
		t.Errorf("the lists hold and do not hold for %d values", counts)
	}
}

// P2: the same for AddAbsence.
func TestAddAbsenceSaysWhatIsAdded(t *testing.T) {
	all, marked := allMarkValues(), smallMarks()
	list := terms("?0 ?1 ?2 ?3 a b (?0 . c) (?1 ?3) ((?2 . ?0) . b)")
	counts := [2][2]int{}
	for i, s := range smallSubsts() {
		good := fulfilling(s, all)
		for j := i % 3; j < 256; j += 3 {
			l, term, tag := marked[j], list[(i+j)%len(list)], []string{"a", "b"}[(i+j/9)%2]
			got, ok := impl.AddAbsence(s, l, term, tag)
			for _, values := range good {
				want := marksHold(values, l) && markHolds(values, term, tag)
				if now := ok && marksHold(values, got); now != want {
					t.Errorf("%v and no %s in %s hold is %v for %s, but they become %v, %v under %s", l, tag, brief(term), want, briefSubst(values), got, ok, briefSubst(s))
				}
				counts[boolAsInt(ok)][boolAsInt(want)]++
			}
		}
	}
	if counts[0][0] < 1000 || counts[1][0] < 1000 || counts[1][1] < 1000 || counts[0][1] > 0 {
		t.Errorf("the lists hold and do not hold for %d values", counts)
	}
}

// P2: what is refreshed has no variable that s binds, and is refreshed already.
func TestRefreshedListsStay(t *testing.T) {
	looked := 0
	for _, s := range smallSubsts() {
		for _, l := range smallKinds() {
			if fresh, ok := impl.RefreshKinds(s, l); ok {
				looked++
				again, fine := impl.RefreshKinds(s, fresh)
				if !fine || !slices.Equal(again, fresh) || !impl.KindsOk(fresh) || slices.ContainsFunc(fresh, func(x impl.VarKind) bool { return boundIn(s, x.Var) }) {
					t.Errorf("RefreshKinds(%s, %v) is %v, and of that %v, %v", briefSubst(s), l, fresh, again, fine)
				}
			}
		}
		for _, l := range smallMarks() {
			if fresh, ok := impl.RefreshMarks(s, l); ok {
				looked++
				again, fine := impl.RefreshMarks(s, fresh)
				if !fine || !slices.Equal(again, fresh) || !impl.MarksOk(fresh) || slices.ContainsFunc(fresh, func(x impl.Mark) bool { return boundIn(s, x.Var) }) {
					t.Errorf("RefreshMarks(%s, %v) is %v, and of that %v, %v", briefSubst(s), l, fresh, again, fine)
				}
			}
		}
	}
	if looked < 10000 {
		t.Errorf("only %d lists", looked)
	}
}

// P2: a refreshed list is what its requirements add, in every order.
func TestRefreshingAddsInEveryOrder(t *testing.T) {
	typed, marked := smallKinds(), smallMarks()
	for i, s := range smallSubsts() {
		for j := i % 5; j < 81; j += 5 {
			l := typed[j]
			want, fine := impl.RefreshKinds(s, l)
			for _, order := range orders(len(l)) {
				var got []impl.VarKind
				ok := true
				for _, n := range order {
					if ok {
						got, ok = impl.AddKind(s, got, variable(l[n].Var), l[n].Kind)
					}
				}
				if ok != fine || !slices.Equal(got, want) {
					t.Errorf("RefreshKinds(%s, %v) is %v, %v, but added %v, %v", briefSubst(s), l, want, fine, got, ok)
				}
			}
		}
		for j := i % 16; j < 256; j += 16 {
			l := marked[j]
			l = l[:min(len(l), 4)]
			want, fine := impl.RefreshMarks(s, l)
			for _, order := range orders(len(l)) {
				var got []impl.Mark
				ok := true
				for _, n := range order {
					if ok {
						got, ok = impl.AddAbsence(s, got, variable(l[n].Var), l[n].Tag)
					}
				}
				if ok != fine || !slices.Equal(got, want) {
					t.Errorf("RefreshMarks(%s, %v) is %v, %v, but added %v, %v", briefSubst(s), l, want, fine, got, ok)
				}
			}
		}
	}
}

// P2: it does not matter whether lists are refreshed under each of two
// substitutions, one after the other, or only under the join of both.
func TestRefreshingInSteps(t *testing.T) {
	lists, typed, marked := smallSubsts(), smallKinds(), smallMarks()
	counts := [2][2]int{}
	for i, s := range lists {
		for j, u := range lists {
			both, joins := impl.JoinSubst(s, u)
			if !joins {
				continue
			}
			l := typed[(5*i+7*j)%81]
			want, ok := impl.RefreshKinds(both, l)
			got, fine := impl.RefreshKinds(s, l)
			if fine {
				got, fine = impl.RefreshKinds(both, got)
			}
			if fine != ok || !slices.Equal(got, want) {
				t.Errorf("RefreshKinds(%s, %v) is %v, %v, but %v, %v after %s", briefSubst(both), l, want, ok, got, fine, briefSubst(s))
			}
			m := marked[(5*i+7*j)%256]
			absent, good := impl.RefreshMarks(both, m)
			steps, well := impl.RefreshMarks(s, m)
			if well {
				steps, well = impl.RefreshMarks(both, steps)
			}
			if well != good || !slices.Equal(steps, absent) {
				t.Errorf("RefreshMarks(%s, %v) is %v, %v, but %v, %v after %s", briefSubst(both), m, absent, good, steps, well, briefSubst(s))
			}
			counts[0][boolAsInt(ok)]++
			counts[1][boolAsInt(good)]++
		}
	}
	if min(counts[0][0], counts[0][1], counts[1][0], counts[1][1]) < 300 {
		t.Errorf("the lists fail and are refreshed %d times", counts)
	}
}

// P2: to add to a list and to refresh it is the same in both orders.
func TestAddedAndRefreshed(t *testing.T) {
	typed, marked := smallKinds(), smallMarks()
	list := terms("?0 ?1 ?2 ?3 ?4 a (?3 . ?1) (b ?2)")
	counts := [2][2]int{}
	for i, s := range smallSubsts() {
		for j := i % 3; j < 256; j += 3 {
			term, tag, k := list[(i+j)%len(list)], []string{"a", "b"}[j%2], []int{impl.KSym, impl.KInt}[j%2]
			l := typed[j%81]
			first, ok := impl.AddKind(s, l, term, k)
			if ok {
				first, ok = impl.RefreshKinds(s, first)
			}
			later, fine := impl.RefreshKinds(s, l)
			if fine {
				later, fine = impl.AddKind(s, later, term, k)
			}
			if ok != fine || !slices.Equal(first, later) {
				t.Errorf("with the kind %d of %s, %v becomes %v, %v and %v, %v under %s", k, brief(term), l, first, ok, later, fine, briefSubst(s))
			}
			m := marked[j]
			absent, good := impl.AddAbsence(s, m, term, tag)
			if good {
				absent, good = impl.RefreshMarks(s, absent)
			}
			other, well := impl.RefreshMarks(s, m)
			if well {
				other, well = impl.AddAbsence(s, other, term, tag)
			}
			if good != well || !slices.Equal(absent, other) {
				t.Errorf("without %s in %s, %v becomes %v, %v and %v, %v under %s", tag, brief(term), m, absent, good, other, well, briefSubst(s))
			}
			counts[0][boolAsInt(ok)]++
			counts[1][boolAsInt(good)]++
		}
	}
	if min(counts[0][0], counts[0][1], counts[1][0], counts[1][1]) < 300 {
		t.Errorf("the lists fail and do not fail %d times", counts)
	}
}

// The term can be applied before, its parts can be marked one after the other,
// and ContainsSymbol says whether the symbol is in it.
func TestAbsenceInParts(t *testing.T) {
	list, marked := allTerms([]impl.Term{variable(0), variable(2), variable(3), symbol("a"), symbol("b")}, 3), smallMarks()
	for i, s := range smallSubsts() {
		for j, term := range list {
			l, tag := marked[(3*i+5*j)%256], []string{"a", "b", "c"}[(i+j)%3]
			want, ok := impl.AddAbsence(s, l, term, tag)
			to, _ := impl.ApplySubst(s, term)
			if got, fine := impl.AddAbsence(nil, l, to, tag); fine != ok || !slices.Equal(got, want) {
				t.Errorf("AddAbsence(%s, %v, %s, %s) is %v, %v, but %v, %v of what s makes of it", briefSubst(s), l, brief(term), tag, want, ok, got, fine)
			}
			if impl.ContainsSymbol(to, tag) == ok {
				t.Errorf("AddAbsence(%s, %v, %s, %s) is %v, %v", briefSubst(s), l, brief(term), tag, want, ok)
			}
			if term.Kind != impl.KPair {
				continue
			}
			got, fine := impl.AddAbsence(s, l, term.Args[0], tag)
			if fine {
				got, fine = impl.AddAbsence(s, got, term.Args[1], tag)
			}
			if fine != ok || !slices.Equal(got, want) {
				t.Errorf("AddAbsence(%s, %v, %s, %s) is %v, %v, but %v, %v in parts", briefSubst(s), l, brief(term), tag, want, ok, got, fine)
			}
		}
	}
}

// The numbers of the variables matter only by their order.
func TestKindsAndMarksOfRenamedVariables(t *testing.T) {
	typed, marked := smallKinds(), smallMarks()
	for _, n := range []int{1, 50, 99996} {
		for i, s := range smallSubsts() {
			var moved []impl.Binding
			for _, b := range s {
				moved = append(moved, bind(b.Var+n, shiftedByDefinition(b.To, n)))
			}
			for j := i % 4; j < 256; j += 4 {
				kinds, marks := slices.Clone(typed[j%81]), slices.Clone(marked[j])
				freshK, ok := impl.RefreshKinds(s, kinds)
				freshM, fine := impl.RefreshMarks(s, marks)
				for _, l := range [][]impl.VarKind{kinds, freshK} {
					for m := range l {
						l[m].Var += n
					}
				}
				for _, l := range [][]impl.Mark{marks, freshM} {
					for m := range l {
						l[m].Var += n
					}
				}
				if ok {
					checkKindsFresh(t, moved, kinds, freshK...)
				} else {
					checkNoKindsFresh(t, "renamed", moved, kinds)
				}
				if fine {
					checkMarksFresh(t, moved, marks, freshM...)
				} else {
					checkNoMarksFresh(t, "renamed", moved, marks)
				}
			}
		}
	}
}
