package tests

import (
	"slices"
	"testing"

	"loop.example/g00291/impl"
)

// steps tells [from][to] whether one comes there.
type steps [4][4]bool

// oneCall is the tests' own word on who calls whom; p is right.
func oneCall(p impl.Program) steps {
	var s steps
	for from, one := range p.Procs {
		for _, stmt := range one.Stmts {
			if stmt.Kind == impl.StCall {
				s[from][stmt.Y] = true
			}
		}
	}
	return s
}

// anyCalls is the tests' own word on where one comes by one or more calls: by way of each in turn.
func anyCalls(p impl.Program) steps {
	s := oneCall(p)
	for by := range s {
		for from := range s {
			for to := range s {
				s[from][to] = s[from][to] || s[from][by] && s[by][to]
			}
		}
	}
	return s
}

// procsWhere tells the procedures of p that are so, rising.
func procsWhere(p impl.Program, so func(i int64) bool) []int64 {
	return numbersWhere(len(p.Procs), so)
}

// groups is the tests' own word on Circles.
func groups(p impl.Program) [][]int64 {
	s := anyCalls(p)
	var list [][]int64
	for first := range int64(len(p.Procs)) {
		group := procsWhere(p, func(i int64) bool { return i == first || s[first][i] && s[i][first] })
		if group[0] == first {
			list = append(list, group)
		}
	}
	return list
}

// callsBehind asks whether, in this order of groups, one calls another that is behind it.
func callsBehind(p impl.Program, order [][]int64) bool {
	s := oneCall(p)
	for i, group := range order {
		for _, from := range group {
			for _, to := range slices.Concat(order[i+1:]...) {
				if s[from][to] {
					return true
				}
			}
		}
	}
	return false
}

// inAnyOrder calls f with every order of the lists.
func inAnyOrder(lists [][]int64, f func(order [][]int64)) {
	var put func(order, left [][]int64)
	put = func(order, left [][]int64) {
		if len(left) == 0 {
			f(order)
		}
		for i, next := range left {
			put(append(slices.Clone(order), next), slices.Delete(slices.Clone(left), i, i+1))
		}
	}
	put(nil, lists)
}

// leastOrder is the tests' own word on Order: of all orders of the groups in which nobody calls one that is behind, the one that
// has the lesser group where two part.
func leastOrder(p impl.Program) [][]int64 {
	var least [][]int64
	inAnyOrder(groups(p), func(order [][]int64) {
		lesser := least == nil || slices.CompareFunc(order, least, slices.Compare[[]int64]) < 0
		if lesser && !callsBehind(p, order) {
			least = order
		}
	})
	return least
}

// checkWhoCalls asks for all that the chapter tells of a right Program, and for nothing of a procedure that is not there.
func checkWhoCalls(t *testing.T, p impl.Program) {
	t.Helper()
	s := anyCalls(p)
	for i := range int64(len(p.Procs)) {
		want := procsWhere(p, func(j int64) bool { return i == j || s[i][j] })
		if got := impl.Reach(p, i); !slices.Equal(got, want) {
			t.Fatalf("%v: Reach of %d: %v, want %v", p, i, got, want)
		}
		if got := impl.Recursive(p, i); got != s[i][i] {
			t.Fatalf("%v: Recursive of %d: %v", p, i, got)
		}
	}
	if got, want := impl.Circles(p), groups(p); !sameLists(got, want) {
		t.Fatalf("%v: Circles %v, want %v", p, got, want)
	}
	if got, want := impl.Order(p), leastOrder(p); !sameLists(got, want) {
		t.Fatalf("%v: Order %v, want %v", p, got, want)
	}
	behind := int64(len(p.Procs))
	for _, i := range append([]int64{-2, -1, behind, behind + 1, 4, 5, 12}, farNumbers...) {
		checkNoReach(t, "no such procedure", p, i)
	}
}

// checkPromise9 asks the promise of what the program tells alone.
func checkPromise9(t *testing.T, p impl.Program) {
	t.Helper()
	circles, order := impl.Circles(p), impl.Order(p)
	if all := slices.Concat(circles...); !slices.Equal(rising(all...), procsWhere(p, func(int64) bool { return true })) {
		t.Fatalf("%v: each is not in just one of Circles %v", p, circles)
	}
	for i, one := range circles {
		for j, other := range circles {
			for _, a := range one {
				for _, b := range other {
					there, back := slices.Contains(impl.Reach(p, a), b), slices.Contains(impl.Reach(p, b), a)
					if (there && back) != (i == j) {
						t.Fatalf("%v: Circles %v, but %d and %d: %v, %v", p, circles, a, b, there, back)
					}
				}
			}
		}
	}
	ahead := []int64{}
	for _, group := range order {
		ahead = append(ahead, group...)
		for _, from := range group {
			for _, to := range impl.Calls(p, from) {
				if !slices.Contains(ahead, to) {
					t.Fatalf("%v: Order %v, but %d calls %d", p, order, from, to)
				}
			}
		}
	}
	slices.SortFunc(order, slices.Compare[[]int64])
	if !sameLists(order, circles) {
		t.Fatalf("%v: Order has %v, Circles %v", p, order, circles)
	}
}

func checkNoReach(t *testing.T, name string, p impl.Program, i int64) {
	t.Helper()
	if got := impl.Reach(p, i); len(got) != 0 || impl.Recursive(p, i) {
		t.Fatalf("%s: %.200v: of %d: Reach %v, Recursive %v", name, p, i, got, impl.Recursive(p, i))
	}
}

// checkWhoCallsWrong asks for the fixed answers of a Program that is not right.
func checkWhoCallsWrong(t *testing.T, name string, p impl.Program) {
	t.Helper()
	if c, o := impl.Circles(p), impl.Order(p); len(c) != 0 || len(o) != 0 {
		t.Fatalf("%s: %.200v: Circles %v, Order %v", name, p, c, o)
	}
	for _, i := range nearAndFar(-2, 6) {
		checkNoReach(t, name, p, i)
	}
}

// isProgram is the tests' own word on programs.
func isProgram(p impl.Program) bool {
	n := len(p.Procs)
	wrong := slices.ContainsFunc(p.Procs, func(one impl.Proc) bool {
		return !isProc(one) || slices.ContainsFunc(one.Stmts, func(s impl.Stmt) bool {
			return s.Kind == impl.StCall && s.Y >= int64(n)
		})
	})
	return n >= 1 && n <= 4 && !wrong
}

// callingPrograms calls f with every Program of n procedures in which each calls whomever it may: a bit for each call.
func callingPrograms(n int, f func(p impl.Program)) {
	for bits := range 1 << (n * n) {
		procs := make([]impl.Proc, n)
		for i := range procs {
			var called []int64
			for j := range int64(n) {
				if bits>>(i*n+int(j))&1 == 1 {
					called = append(called, j)
				}
			}
			procs[i] = calling(called...)
		}
		f(program(procs...))
	}
}

// spoilLists writes over the lists of an answer, over what holds them, and over the spare room behind each.
func spoilLists(lists [][]int64) {
	lists = lists[:cap(lists)]
	for i := range lists {
		spoilNumbers(lists[i])
		lists[i] = []int64{-4712}
	}
}

// checkListsApart asks that no two of these lists share any memory.
func checkListsApart[T any](t *testing.T, name string, lists [][]T) {
	t.Helper()
	var lie []stretch
	for i, list := range lists {
		if overlap(lie, liesAt(list)) {
			t.Fatalf("%s: answer %d shares memory: %v", name, i, list)
		}
		lie = append(lie, liesAt(list)...)
	}
}

// checkNewMemory asks that no two lists of an answer, nor of two answers, share any memory, and that what is asked is told again
// when all of it was written over.
func checkNewMemory(t *testing.T, name string, asked func() (lists [][]int64, holders [][][]int64)) {
	t.Helper()
	lists, holders := asked()
	checkListsApart(t, name, lists)
	var want [][]int64
	for _, got := range lists {
		want = append(want, slices.Clone(got))
	}
	for _, got := range lists {
		spoilNumbers(got)
	}
	for i, told := range holders {
		if slices.ContainsFunc(told, func(list []int64) bool { return list[0] == -4712 }) {
			t.Fatalf("%s: what holds answer %d holds another one, too", name, i)
		}
		spoilLists(told)
	}
	if again, _ := asked(); !sameLists(again, want) {
		t.Fatalf("%s: %v, once written over %v", name, want, again)
	}
}

// callers are procedures of all kinds of statements, each with a call.
func callers() impl.Program {
	return program(
		proc(mark(1), call(1), jump(0), back()), proc(assign(0, 2), call(2), both(3, 4), back()),
		proc(wipe(5), call(0), ask(1), call(1), back()), proc(skip(), call(2), back()),
	)
}

// inOneField calls f with callers in which each field of each statement alone is made each number, and tells whether that is a
// Program still.
func inOneField(t *testing.T, f func(p impl.Program, is bool)) {
	t.Helper()
	wrong := 0
	for at, one := range callers().Procs {
		for i := range one.Stmts {
			for _, number := range nearAndFar(-2, 14) {
				for field := range 3 {
					p := roomy(callers())
					s := &p.Procs[at].Stmts[i]
					*[]*int64{&s.Kind, &s.X, &s.Y}[field] = number
					if !isProgram(p) {
						wrong++
					}
					f(p, isProgram(p))
				}
			}
		}
	}
	if wrong < 1000 {
		t.Error("only", wrong, "wrong ones")
	}
}

// howManyProcs calls f with programs of none, of up to MaxProcs procedures, and of more, and tells whether that is a Program.
func howManyProcs(f func(p impl.Program, is bool)) {
	f(impl.Program{}, false)
	f(impl.Program{Procs: []impl.Proc{}}, false)
	for n := 1; n <= 20; n++ {
		for _, one := range []impl.Proc{long(1), long(12), calling(0), calling(int64(min(n, 4)) - 1), carrying()} {
			f(program(slices.Repeat([]impl.Proc{one}, n)...), n <= 4)
		}
	}
}

// howManyStmts calls f with programs of which one procedure has none, up to MaxStmts statements, or more, and tells whether that is
// a Program.
func howManyStmts(f func(p impl.Program, is bool)) {
	for n := range 16 {
		for at := range 4 {
			p := calls([]int64{1}, []int64{2}, []int64{3}, []int64{0})
			p.Procs[at] = long(n)
			f(p, n >= 1 && n <= 12)
		}
	}
}

// oneWrongProc calls f with programs that are right but for one procedure.
func oneWrongProc(f func(p impl.Program)) {
	for _, wrong := range wrongProcs() {
		for n := 1; n <= 4; n++ {
			for at := range n {
				procs := slices.Repeat([]impl.Proc{calling(0)}, n)
				procs[at] = wrong
				f(program(procs...))
			}
		}
	}
}
