package tests

import (
	"cmp"
	"maps"
	"slices"
	"testing"

	"loop.example/g00291/impl"
)

// callRows calls f with every row of at most three calls from this procedure on, told by the numbers of the statements that call,
// and with where it ends: no procedure of four needs more calls than three.
func callRows(p impl.Program, here int64, row []int64, f func(end int64, row []int64)) {
	f(here, row)
	if len(row) == 3 {
		return
	}
	for at, s := range p.Procs[here].Stmts {
		if s.Kind == impl.StCall {
			callRows(p, s.Y, append(slices.Clone(row), int64(at)), f)
		}
	}
}

// byRow puts the shorter row first, of alike long ones the lesser.
func byRow(a, b []int64) int {
	return cmp.Or(cmp.Compare(len(a), len(b)), slices.Compare(a, b))
}

// cameBy is the tests' own word on the order in which one comes to procedures: by the first row of calls to each.
func cameBy(p impl.Program, proc int64) []int64 {
	first := map[int64][]int64{}
	callRows(p, proc, nil, func(end int64, row []int64) {
		if old, is := first[end]; !is || byRow(row, old) < 0 {
			first[end] = row
		}
	})
	return slices.SortedFunc(maps.Keys(first), func(a, b int64) int { return byRow(first[a], first[b]) })
}

// ordered is the Program of these procedures of p, in this order; it has all that they call.
func ordered(p impl.Program, order []int64) impl.Program {
	number := map[int64]int64{}
	for i, there := range order {
		number[there] = int64(i)
	}
	var procs []impl.Proc
	for _, there := range order {
		var stmts []impl.Stmt
		for _, s := range p.Procs[there].Stmts {
			if s.Kind == impl.StCall {
				s = call(number[s.Y])
			}
			stmts = append(stmts, s)
		}
		procs = append(procs, proc(stmts...))
	}
	return program(procs...)
}

// pairing are procedures of two programs that are held to be alike, told from either side.
type pairing struct {
	a, b        impl.Program
	there, back map[int64]int64
}

// pair asks whether procedure i of a and j of b, and all whom they call, have the same statements but for the numbers of the called,
// where each of the one is paired with one of the other alone.
func (m pairing) pair(i, j int64) bool {
	to, is := m.there[i]
	from, isBack := m.back[j]
	if is || isBack {
		return is && isBack && to == j && from == i
	}
	m.there[i], m.back[j] = j, i
	return slices.EqualFunc(m.a.Procs[i].Stmts, m.b.Procs[j].Stmts, func(s, u impl.Stmt) bool {
		if s.Kind == impl.StCall && u.Kind == impl.StCall {
			return m.pair(s.Y, u.Y)
		}
		return s == u
	})
}

// madeAlike is the tests' own word on whether procedures have one Content; it makes no text, and no order.
func madeAlike(a impl.Program, i int64, b impl.Program, j int64) bool {
	return pairing{a, b, map[int64]int64{}, map[int64]int64{}}.pair(i, j)
}

// alikeOf is the tests' own word on Alike; both are right.
func alikeOf(a, b impl.Program) []impl.Place {
	var list []impl.Place
	for i := range int64(len(a.Procs)) {
		for j := range int64(len(b.Procs)) {
			if madeAlike(a, i, b, j) {
				list = append(list, impl.Place{Proc: i, At: j})
			}
		}
	}
	return list
}

// checkContents asks for Closure and Content of each procedure of a right Program, and for nothing of those that are not there.
func checkContents(t *testing.T, p impl.Program) {
	t.Helper()
	s := anyCalls(p)
	for i := range int64(len(p.Procs)) {
		order := cameBy(p, i)
		want := ordered(p, order)
		got := impl.Closure(p, i)
		if !sameProgram(got, want) || !impl.ProgramOk(got) {
			t.Fatalf("%v: Closure of %d: %v, want %v", p, i, got, want)
		}
		if reach := procsWhere(p, func(j int64) bool { return i == j || s[i][j] }); !slices.Equal(rising(order...), reach) {
			t.Fatalf("%v: Closure of %d: %v has %v of it, Reach %v", p, i, got, order, reach)
		}
		if again := impl.Closure(got, 0); !sameProgram(again, got) {
			t.Fatalf("%v: Closure of %d: %v, and Closure of that: %v", p, i, got, again)
		}
		content := impl.Content(p, i)
		if content != shownOf(want) || content != impl.ShowProgram(got) || content != impl.Content(got, 0) {
			t.Fatalf("%v: Content of %d: %q, want %q; Closure is shown as %q, and has Content %q", p, i, content, shownOf(want), impl.ShowProgram(got), impl.Content(got, 0))
		}
		if read, is := impl.ReadProgram(content); !is || !sameProgram(read, got) {
			t.Fatalf("%v: Content of %d: %q, of which ReadProgram makes %v, %v", p, i, content, read, is)
		}
	}
	behind := int64(len(p.Procs))
	for _, i := range append([]int64{-2, -1, behind, behind + 1, 4, 5, 12}, farNumbers...) {
		checkNoContent(t, "no such procedure", p, i)
	}
}

func checkNoContent(t *testing.T, name string, p impl.Program, i int64) {
	t.Helper()
	if got, content := impl.Closure(p, i), impl.Content(p, i); len(got.Procs) != 0 || content != "" {
		t.Fatalf("%s: %.200v: of %d: Closure %v, Content %q", name, p, i, got, content)
	}
}

// checkAlike asks for Alike of two right programs, whatever the order in which they are told, and that it tells those with one
// Content; it tells how many pairs there are.
func checkAlike(t *testing.T, a, b impl.Program) int {
	t.Helper()
	want := alikeOf(a, b)
	if got := impl.Alike(a, b); !slices.Equal(got, want) {
		t.Fatalf("%v, %v: Alike %v, want %v", a, b, got, want)
	}
	if got, want := impl.Alike(b, a), alikeOf(b, a); !slices.Equal(got, want) {
		t.Fatalf("%v, %v: Alike %v, want %v", b, a, got, want)
	}
	for i := range int64(len(a.Procs)) {
		for j := range int64(len(b.Procs)) {
			if is := slices.Contains(want, impl.Place{Proc: i, At: j}); (impl.Content(a, i) == impl.Content(b, j)) != is {
				t.Fatalf("%v, %v: %d and %d are alike: %v; Content %q, %q", a, b, i, j, is, impl.Content(a, i), impl.Content(b, j))
			}
		}
	}
	return len(want)
}

// checkPromise14 asks the promise of what the program tells alone, of both clients, and tells how many pairs have one Content.
func checkPromise14(t *testing.T, a, b impl.Program) int {
	t.Helper()
	pairs := 0
	for _, client := range bothClients {
		ours, theirs := impl.Tables(a, client), impl.Tables(b, client)
		for i := range a.Procs {
			for j := range b.Procs {
				content := impl.Content(a, int64(i))
				if content != impl.Content(b, int64(j)) {
					continue
				}
				pairs++
				if !slices.Equal(ours[i], theirs[j]) {
					t.Fatalf("client %d: %v and %v: Content of %d and of %d: %q, but the tables are %v and %v", client, a, b, i, j, content, ours[i], theirs[j])
				}
			}
		}
	}
	return pairs / len(bothClients)
}

// checkTablesOfClosures asks that a Closure does what those do of which it is made: by the tests' own word on tables, too.
func checkTablesOfClosures(t *testing.T, p impl.Program) {
	t.Helper()
	for _, client := range bothClients {
		own := summed(p, client).tables(p)
		for i := range int64(len(p.Procs)) {
			tables := impl.Tables(impl.Closure(p, i), client)
			for k, there := range cameBy(p, i) {
				if !slices.Equal(tables[k], own[there]) {
					t.Fatalf("%v, client %d: Closure of %d: table %d is %v, that of %d was %v", p, client, i, k, tables[k], there, own[there])
				}
			}
		}
	}
}

// checkAllOfContents asks all that one right Program tells.
func checkAllOfContents(t *testing.T, p impl.Program) {
	t.Helper()
	checkContents(t, p)
	checkTablesOfClosures(t, p)
	// Each is at least alike to itself.
	if n := checkAlike(t, p, p); n < len(p.Procs) || checkPromise14(t, p, p) != n {
		t.Fatalf("%v: %d pairs with itself", p, n)
	}
}

// checkContentsWrong asks for the fixed answers of a Program that is not right: alone, on either side, and on both.
func checkContentsWrong(t *testing.T, name string, p impl.Program) {
	t.Helper()
	for _, i := range nearAndFar(-2, 6) {
		checkNoContent(t, name, p, i)
	}
	for _, other := range []impl.Program{alone(back()), callers(), callAll(), {}, p, program(long(1), long(13))} {
		if l, r := impl.Alike(p, other), impl.Alike(other, p); len(l) != 0 || len(r) != 0 {
			t.Fatalf("%s: %.200v: Alike %v, %v", name, p, l, r)
		}
	}
}

// renamed calls f with p, its procedures put in every order, and with the number that each has then.
func renamed(p impl.Program, f func(q impl.Program, number []int64)) {
	var each [][]int64
	for i := range int64(len(p.Procs)) {
		each = append(each, []int64{i})
	}
	inAnyOrder(each, func(order [][]int64) {
		now := slices.Concat(order...)
		number := make([]int64, len(now))
		for i, there := range now {
			number[there] = int64(i)
		}
		f(ordered(p, now), number)
	})
}

// checkRenamed asks that no Content hangs on the numbers of procedures.
func checkRenamed(t *testing.T, p impl.Program) {
	t.Helper()
	renamed(p, func(q impl.Program, number []int64) {
		for i := range int64(len(p.Procs)) {
			was, is := impl.Content(p, i), impl.Content(q, number[i])
			if was != is || !sameProgram(impl.Closure(p, i), impl.Closure(q, number[i])) {
				t.Fatalf("%v: Content of %d: %q; as %d of %v it is %q", p, i, was, number[i], q, is)
			}
		}
		if n := checkPromise14(t, p, q); n < len(p.Procs) {
			t.Fatalf("%v, %v: only %d pairs", p, q, n)
		}
	})
}

// checkMore asks that procedures more that nobody calls change no Content.
func checkMore(t *testing.T, p impl.Program, more ...impl.Proc) {
	t.Helper()
	q := program(slices.Concat(p.Procs, more)...)
	for i := range int64(len(p.Procs)) {
		if was, is := impl.Content(p, i), impl.Content(q, i); was != is || was == "" {
			t.Fatalf("%v: Content of %d: %q; with %v more %q", p, i, was, more, is)
		}
	}
	if n := checkPromise14(t, p, q); n < len(p.Procs) {
		t.Fatalf("%v, %v: only %d pairs", p, q, n)
	}
	checkAlike(t, p, q)
}

// callLists are all lists of at most this many calls of n procedures.
func callLists(n, most int) [][]int64 {
	lists := [][]int64{nil}
	longest := lists
	for range most {
		var longer [][]int64
		for _, list := range longest {
			for y := range int64(n) {
				longer = append(longer, append(slices.Clone(list), y))
			}
		}
		lists, longest = append(lists, longer...), longer
	}
	return lists
}

// everyCalling calls f with every Program of n procedures, each of which calls at most this many, in whatever order.
func everyCalling(n, most int, f func(p impl.Program)) {
	lists := callLists(n, most)
	var put func(called [][]int64)
	put = func(called [][]int64) {
		if len(called) == n {
			f(calls(called...))
			return
		}
		for _, list := range lists {
			put(append(slices.Clone(called), list))
		}
	}
	put(nil)
}

// simple draws a Program of few sorts of procedures, so that some are alike.
func (d *draws) simple() impl.Program {
	procs := make([]impl.Proc, 1+d.below(4))
	sorts := []impl.Stmt{skip(), mark(0), wipe(1), assign(1, 0), jump(0)}
	for i := range procs {
		procs[i] = long(1 + d.below(4))
		for at := range len(procs[i].Stmts) - 1 {
			if d.below(2) == 0 {
				procs[i].Stmts[at] = call(int64(d.below(len(procs))))
			} else {
				procs[i].Stmts[at] = sorts[d.below(len(sorts))]
			}
		}
	}
	return program(procs...)
}

// everyOther calls f with p in which one field of one statement is another number, each in turn, where that is a Program still.
func everyOther(p impl.Program, f func(q impl.Program, place impl.Place)) {
	for i, one := range p.Procs {
		for at, s := range one.Stmts {
			for number := range int64(12) {
				for field := range 3 {
					q := roomy(p)
					changed := &q.Procs[i].Stmts[at]
					*[]*int64{&changed.Kind, &changed.X, &changed.Y}[field] = number
					if *changed != s && isProgram(q) {
						f(q, impl.Place{Proc: int64(i), At: int64(at)})
					}
				}
			}
		}
	}
}
