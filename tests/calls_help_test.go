package tests

import (
	"slices"
	"testing"

	"loop.example/g00291/impl"
)

// steps tells [from][to] whether one comes there.
type steps [4][4]bool

// oneCall is the tests' own word on who calls whom; p is right.
func oneCall(p impl.Program) steps {
	var s steps
	for from, one := range p.Procs {
		for _, stmt := range one.Stmts {
			if stmt.Kind == impl.StCall {
				s[from][stmt.Y] = true
			}
		}
	}
	return s
}

// anyCalls is the tests' own word on where one comes by one or more calls: by way of each in turn.
func anyCalls(p impl.Program) steps {
	s := oneCall(p)
	for by := range s {
		for from := range s {
			for to := range s {
				s[from][to] = s[from][to] || s[from][by] && s[by][to]
			}
		}
	}
	return s
}

// procsWhere tells the procedures of p that are so, rising.
func procsWhere(p impl.Program, so func(i int64) bool) []int64 {
	return numbersWhere(len(p.Procs), so)
}

// groups is the tests' own word on Circles.
func groups(p impl.Program) [][]int64 {
	s := anyCalls(p)
	var list [][]int64
	for first := range int64(len(p.Procs)) {
		group := procsWhere(p, func(i int64) bool { return i == first || s[first][i] && s[i][first] })
		if group[0] == first {
			list = append(list, group)
		}
	}
	return list
}

// callsBehind asks whether, in this order of groups, one calls another that is behind it.
func callsBehind(p impl.Program, order [][]int64) bool {
	s := oneCall(p)
	for i, group := range order {
		for _, from := range group {
			for _, to := range slices.Concat(order[i+1:]...) {
				if s[from][to] {
					return true
				}
			}
		}
	}
	return false
}

// inAnyOrder calls f with every order of the lists.
func inAnyOrder(lists [][]int64, f func(order [][]int64)) {
	var put func(order, left [][]int64)
	put = func(order, left [][]int64) {
		if len(left) == 0 {
			f(order)
		}
		for i, next := range left {
			put(append(slices.Clone(order), next), slices.Delete(slices.Clone(left), i, i+1))
		}
	}
	put(nil, lists)
}

// leastOrder is the tests' own word on Order: of all orders of the groups in which nobody calls one that is behind, the one that
// has the lesser group where two part.
func leastOrder(p impl.Program) [][]int64 {
	var least [][]int64
	inAnyOrder(groups(p), func(order [][]int64) {
		lesser := least == nil || slices.CompareFunc(order, least, slices.Compare[[]int64]) < 0
		if lesser && !callsBehind(p, order) {
			least = order
		}
	})
	return least
}

// checkWhoCalls asks for all that the chapter tells of a right Program, and for nothing of a procedure that is not there.
func checkWhoCalls(t *testing.T, p impl.Program) {
	t.Helper()
	s := anyCalls(p)
	for i := range int64(len(p.Procs)) {
		want := procsWhere(p, func(j int64) bool { return i == j || s[i][j] })
		if got := impl.Reach(p, i); !slices.Equal(got, want) {
			t.Fatalf("%v: Reach of %d: %v, want %v", p, i, got, want)
		}
		if got := impl.Recursive(p, i); got != s[i][i] {
			t.Fatalf("%v: Recursive of %d: %v", p, i, got)
		}
	}
	if got, want := impl.Circles(p), groups(p); !sameLists(got, want) {
		t.Fatalf("%v: Circles %v, want %v", p, got, want)
	}
	if got, want := impl.Order(p), leastOrder(p); !sameLists(got, want) {
		t.Fatalf("%v: Order %v, want %v", p, got, want)
	}
	behind := int64(len(p.Procs))
	for _, i := range append([]int64{-2, -1, behind, behind + 1, 4, 5, 12}, farNumbers...) {
		checkNoReach(t, "no such procedure", p, i)
	}
}

// checkPromise9 asks the promise of what the program tells alone.
func checkPromise9(t *testing.T, p impl.Program) {
	t.Helper()
	circles, order := impl.Circles(p), impl.Order(p)
	if all := slices.Concat(circles...); !slices.Equal(rising(all...), procsWhere(p, func(int64) bool { return true })) {
		t.Fatalf("%v: each is not in just one of Circles %v", p, circles)
	}
	for i, one := range circles {
		for j, other := range circles {
			for _, a := range one {
				for _, b := range other {
					there, back := slices.Contains(impl.Reach(p, a), b), slices.Contains(impl.Reach(p, b), a)
					if (there && back) != (i == j) {
						t.Fatalf("%v: Circles %v, but %d and %d: %v, %v", p, circles, a, b, there, back)
					}
				}
			}
		}
	}
	ahead := []int64{}
	for _, group := range order {
		ahead = append(ahead, group...)
		for _, from := range group {
			for _, to := range impl.Calls(p, from) {
				if !slices.Contains(ahead, to) {
					t.Fatalf("%v: Order %v, but %d calls %d", p, order, from, to)
				}
			}
		}
	}
	slices.SortFunc(order, slices.Compare[[]int64])
	if !sameLists(order, circles) {
		t.Fatalf("%v: Order has %v, Circles %v", p, order, circles)
	}
}

func checkNoReach(t *testing.T, name string, p impl.Program, i int64) {
	t.Helper()
	if got := impl.Reach(p, i); len(got) != 0 || impl.Recursive(p, i) {
		t.Fatalf("%s: %.200v: of %d: Reach %v, Recursive %v", name, p, i, got, impl.Recursive(p, i))
	}
}

// checkWhoCallsWrong asks for the fixed answers of a Program that is not right.
func checkWhoCallsWrong(t *testing.T, name string, p impl.Program) {
	t.Helper()
	if c, o := impl.Circles(p), impl.Order(p); len(c) != 0 || len(o) != 0 {
		t.Fatalf("%s: %.200v: Circles %v, Order %v", name, p, c, o)
	}
	for _, i := range nearAndFar(-2, 6) {
		checkNoReach(t, name, p, i)
	}
}

// isProgram is the tests' own word on programs.
func isProgram(p impl.Program) bool {
	n := len(p.Procs)
	wrong := slices.ContainsFunc(p.Procs, func(one impl.Proc) bool {
		return !isProc(one) || slices.ContainsFunc(one.Stmts, func(s impl.Stmt) bool {
			return s.Kind == impl.StCall && s.Y >= int64(n)
		})
	})
	return n >= 1 && n <= 4 && !wrong
}

// callingPrograms calls f with every Program of n procedures in which each calls whomever it may: a bit for each call.
func callingPrograms(n int, f func(p impl.Program)) {
	for bits := range 1 << (n * n) {
		procs := make([]impl.Proc, n)
		for i := range procs {
			var called []int64
			for j := range int64(n) {
				if bits>>(i*n+int(j))&1 == 1 {
					called = append(called, j)
				}
			}
			procs[i] = calling(called...)
		}
		f(program(procs...))
	}
}

// spoilLists writes over the lists of an answer, over what holds them, and over the spare room behind each.
func spoilLists(lists [][]int64) {
	lists = lists[:cap(lists)]
	for i := range lists {
		spoilNumbers(lists[i])
		lists[i] = []int64{-4712}
	}
}
