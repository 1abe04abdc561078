package tests

import (
	"testing"
	"time"

	"loop.example/g03210/impl"
)

// term, terms and subst read what a test writes down as a text.
func term(text string) impl.Term {
	t, ok := impl.ParseTerm(text)
	if !ok {
		panic("not a term: " + text)
	}
	return t
}

func terms(text string) []impl.Term {
	l, ok := impl.ParseTerms(text)
	if !ok {
		panic("not terms: " + text)
	}
	return l
}

func subst(text string) []impl.Binding {
	s, ok := impl.ParseSubst(text)
	if !ok {
		panic("not a substitution: " + text)
	}
	return s
}

// listOf returns a list that ends in the empty one.
func listOf(items ...impl.Term) impl.Term {
	list := empty()
	for i := len(items) - 1; i >= 0; i-- {
		list = pair(items[i], list)
	}
	return list
}

// variables returns n of them, from first on.
func variables(first int, n int) []impl.Term {
	var l []impl.Term
	for i := range n {
		l = append(l, variable(first+i))
	}
	return l
}

// soon fails if f does not end within a time that is much more than it needs.
func soon(t *testing.T, name string, f func()) {
	t.Helper()
	done := make(chan bool)
	go func() {
		defer close(done)
		f()
	}()
	select {
	case <-done:
	case <-time.After(20 * time.Second):
		t.Fatalf("%s does not end", name)
	}
}

// checkSolution looks at both orders of the sides, with a list of one equation too.
func checkSolution(t *testing.T, s []impl.Binding, a impl.Term, b impl.Term, want ...impl.Binding) {
	t.Helper()
	for _, sides := range [][2]impl.Term{{a, b}, {b, a}} {
		if got, ok := impl.Unify(s, sides[0], sides[1]); !ok || !sameSubst(got, want) {
			t.Errorf("Unify(%s, %s, %s) is %s, %v, want %s", briefSubst(s), brief(sides[0]), brief(sides[1]), briefSubst(got), ok, briefSubst(want))
		}
		if got, ok := impl.UnifyAll(s, sides[:1], sides[1:]); !ok || !sameSubst(got, want) {
			t.Errorf("UnifyAll(%s, [%s], [%s]) is %s, %v, want %s", briefSubst(s), brief(sides[0]), brief(sides[1]), briefSubst(got), ok, briefSubst(want))
		}
	}
}

func checkNoSolution(t *testing.T, name string, s []impl.Binding, a impl.Term, b impl.Term) {
	t.Helper()
	for _, sides := range [][2]impl.Term{{a, b}, {b, a}} {
		if got, ok := impl.Unify(s, sides[0], sides[1]); ok || len(got) != 0 {
			t.Errorf("%s: Unify has %d bindings, %v", name, len(got), ok)
		}
		if got, ok := impl.UnifyAll(s, sides[:1], sides[1:]); ok || len(got) != 0 {
			t.Errorf("%s: UnifyAll has %d bindings, %v", name, len(got), ok)
		}
	}
}

// orders returns all orders of the numbers below n.
func orders(n int) [][]int {
	if n == 0 {
		return [][]int{nil}
	}
	var all [][]int
	for _, order := range orders(n - 1) {
		for i := range n {
			next := append(append(append([]int{}, order[:i]...), n-1), order[i:]...)
			all = append(all, next)
		}
	}
	return all
}

// checkAllSolution looks at every order of the equations, with each side on either side.
func checkAllSolution(t *testing.T, s []impl.Binding, l []impl.Term, r []impl.Term, want ...impl.Binding) {
	t.Helper()
	inAllOrders(l, r, func(left []impl.Term, right []impl.Term) {
		if got, ok := impl.UnifyAll(s, left, right); !ok || !sameSubst(got, want) {
			t.Errorf("UnifyAll(%s, %s, %s) is %s, %v, want %s", briefSubst(s), brief(listOf(left...)), brief(listOf(right...)), briefSubst(got), ok, briefSubst(want))
		}
	})
}

func checkNoneForAll(t *testing.T, name string, s []impl.Binding, l []impl.Term, r []impl.Term) {
	t.Helper()
	inAllOrders(l, r, func(left []impl.Term, right []impl.Term) {
		if got, ok := impl.UnifyAll(s, left, right); ok || len(got) != 0 {
			t.Errorf("%s: UnifyAll has %d bindings, %v", name, len(got), ok)
		}
	})
}

func inAllOrders(l []impl.Term, r []impl.Term, f func([]impl.Term, []impl.Term)) {
	for _, order := range orders(len(l)) {
		for swapped := range 1 << len(l) {
			var left, right []impl.Term
			for _, i := range order {
				a, b := l[i], r[i]
				if swapped>>i&1 == 1 {
					a, b = b, a
				}
				left, right = append(left, a), append(right, b)
			}
			f(left, right)
		}
	}
}

func TestOrders(t *testing.T) {
	seen := map[[4]int]bool{}
	for _, order := range orders(4) {
		seen[[4]int(order)] = true
	}
	if len(orders(4)) != 24 || len(seen) != 24 || !seen[[4]int{0, 1, 2, 3}] || !seen[[4]int{3, 1, 2, 0}] {
		t.Errorf("orders(4) is %v", orders(4))
	}
	calls := 0
	inAllOrders(variables(0, 3), variables(3, 3), func(l []impl.Term, r []impl.Term) {
		calls++
		for i := range l {
			if d := l[i].Int - r[i].Int; d != 3 && d != -3 {
				t.Errorf("%s is on the other side of %s", brief(l[i]), brief(r[i]))
			}
		}
	})
	if calls != 48 {
		t.Errorf("%d orders of three equations", calls)
	}
}

// solutionByDefinition is for small valid arguments: it solves one equation
// after the other and fills in each new binding everywhere.
func solutionByDefinition(s []impl.Binding, l []impl.Term, r []impl.Term) ([]impl.Binding, bool) {
	var todo [][2]impl.Term
	for _, b := range s {
		todo = append(todo, [2]impl.Term{variable(b.Var), b.To})
	}
	for i := range l {
		todo = append(todo, [2]impl.Term{l[i], r[i]})
	}
	found := map[int]impl.Term{}
	for len(todo) > 0 {
		a, b := todo[0][0], todo[0][1]
		todo = todo[1:]
		if b.Kind == impl.KVar && (a.Kind != impl.KVar || a.Int < b.Int) {
			a, b = b, a
		}
		switch {
		case same(a, b):
		case a.Kind == impl.KVar:
			if impl.OccursIn(a.Int, b) {
				return nil, false
			}
			fill := func(t impl.Term) impl.Term { return applyByDefinition(substOf(bind(a.Int, b)), t) }
			for i := range todo {
				todo[i] = [2]impl.Term{fill(todo[i][0]), fill(todo[i][1])}
			}
			for v, to := range found {
				found[v] = fill(to)
			}
			found[a.Int] = b
		case a.Kind == impl.KPair && b.Kind == impl.KPair:
			todo = append(todo, [2]impl.Term{a.Args[0], b.Args[0]}, [2]impl.Term{a.Args[1], b.Args[1]})
		default:
			return nil, false
		}
	}
	var solution []impl.Binding
	for v := range 100 {
		if to, ok := found[v]; ok {
			solution = append(solution, bind(v, to))
		}
	}
	return solution, true
}
