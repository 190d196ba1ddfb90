package tests

import (
	"fmt"
	"math"
	"slices"
	"testing"

	"loop.example/g00291/impl"
)

// callsCase tells Reach of each procedure, Circles, Order, and which are Recursive.
type callsCase struct {
	name      string
	p         impl.Program
	reach     [][]int64
	circles   [][]int64
	order     [][]int64
	recursive []int64
}

func checkCallsCase(t *testing.T, c callsCase) {
	t.Helper()
	for i := range int64(len(c.p.Procs)) {
		if got := impl.Reach(c.p, i); !slices.Equal(got, c.reach[i]) {
			t.Errorf("%s: Reach of %d: %v, want %v", c.name, i, got, c.reach[i])
		}
	}
	if got := impl.Circles(c.p); !sameLists(got, c.circles) {
		t.Errorf("%s: Circles %v, want %v", c.name, got, c.circles)
	}
	if got := impl.Order(c.p); !sameLists(got, c.order) {
		t.Errorf("%s: Order %v, want %v", c.name, got, c.order)
	}
	if got := procsWhere(c.p, func(i int64) bool { return impl.Recursive(c.p, i) }); !slices.Equal(got, c.recursive) {
		t.Errorf("%s: Recursive %v, want %v", c.name, got, c.recursive)
	}
	checkWhoCalls(t, c.p)
	checkPromise9(t, c.p)
}

// calls is a Program of procedures that call these, one by one.
func calls(called ...[]int64) impl.Program {
	var procs []impl.Proc
	for _, list := range called {
		procs = append(procs, calling(list...))
	}
	return program(procs...)
}

func callAll() impl.Program {
	all := []int64{0, 1, 2, 3}
	return calls(all, all, all, all)
}

// twoRounds has two circles, of which that of 0 and 2 calls that of 1 and 3.
func twoRounds() impl.Program { return calls([]int64{2, 3}, []int64{3}, []int64{0}, []int64{1}) }

func TestP9WithoutACircle(t *testing.T) {
	cases := []callsCase{
		{"one without a call", calls(nil), [][]int64{{0}}, [][]int64{{0}}, [][]int64{{0}}, nil},
		{"two without a call", calls(nil, nil), [][]int64{{0}, {1}}, [][]int64{{0}, {1}}, [][]int64{{0}, {1}}, nil},
		{"four without a call", calls(nil, nil, nil, nil), [][]int64{{0}, {1}, {2}, {3}}, [][]int64{{0}, {1}, {2}, {3}}, [][]int64{{0}, {1}, {2}, {3}}, nil},
		{"a chain", calls([]int64{1}, []int64{2}, []int64{3}, nil),
			[][]int64{{0, 1, 2, 3}, {1, 2, 3}, {2, 3}, {3}}, [][]int64{{0}, {1}, {2}, {3}}, [][]int64{{3}, {2}, {1}, {0}}, nil},
		{"a chain from the last one on", calls(nil, []int64{0}, []int64{1}, []int64{2}),
			[][]int64{{0}, {0, 1}, {0, 1, 2}, {0, 1, 2, 3}}, [][]int64{{0}, {1}, {2}, {3}}, [][]int64{{0}, {1}, {2}, {3}}, nil},
		{"a chain here and there", calls([]int64{2}, nil, []int64{3}, []int64{1}),
			[][]int64{{0, 1, 2, 3}, {1}, {1, 2, 3}, {1, 3}}, [][]int64{{0}, {1}, {2}, {3}}, [][]int64{{1}, {3}, {2}, {0}}, nil},
		{"two ways to one", calls([]int64{1, 2}, []int64{3}, []int64{3}, nil),
			[][]int64{{0, 1, 2, 3}, {1, 3}, {2, 3}, {3}}, [][]int64{{0}, {1}, {2}, {3}}, [][]int64{{3}, {1}, {2}, {0}}, nil},
		{"over one and by it", calls([]int64{1, 2}, nil, []int64{1}), [][]int64{{0, 1, 2}, {1}, {1, 2}}, [][]int64{{0}, {1}, {2}}, [][]int64{{1}, {2}, {0}}, nil},
		{"nobody calls 0, nor 3", calls([]int64{1}, nil, nil, []int64{2}),
			[][]int64{{0, 1}, {1}, {2}, {2, 3}}, [][]int64{{0}, {1}, {2}, {3}}, [][]int64{{1}, {0}, {2}, {3}}, nil},
	}
	for _, c := range cases {
		checkCallsCase(t, c)
	}
}

func TestP9Circles(t *testing.T) {
	cases := []callsCase{
		{"one that calls itself", calls([]int64{0}), [][]int64{{0}}, [][]int64{{0}}, [][]int64{{0}}, []int64{0}},
		{"one within a chain that calls itself", calls([]int64{1}, []int64{1, 2}, nil), [][]int64{{0, 1, 2}, {1, 2}, {2}}, [][]int64{{0}, {1}, {2}}, [][]int64{{2}, {1}, {0}}, []int64{1}},
		{"each calls itself", calls([]int64{0}, []int64{1}, []int64{2}, []int64{3}), [][]int64{{0}, {1}, {2}, {3}}, [][]int64{{0}, {1}, {2}, {3}}, [][]int64{{0}, {1}, {2}, {3}}, []int64{0, 1, 2, 3}},
		{"two round and round", calls([]int64{1}, []int64{0}), [][]int64{{0, 1}, {0, 1}}, [][]int64{{0, 1}}, [][]int64{{0, 1}}, []int64{0, 1}},
		{"two round and round, the outer ones", calls([]int64{3}, nil, nil, []int64{0}),
			[][]int64{{0, 3}, {1}, {2}, {0, 3}}, [][]int64{{0, 3}, {1}, {2}}, [][]int64{{0, 3}, {1}, {2}}, []int64{0, 3}},
		{"three round and round", calls([]int64{1}, []int64{2}, []int64{0}), [][]int64{{0, 1, 2}, {0, 1, 2}, {0, 1, 2}}, [][]int64{{0, 1, 2}}, [][]int64{{0, 1, 2}}, []int64{0, 1, 2}},
		{"three, the other way round", calls([]int64{2}, []int64{0}, []int64{1}), [][]int64{{0, 1, 2}, {0, 1, 2}, {0, 1, 2}}, [][]int64{{0, 1, 2}}, [][]int64{{0, 1, 2}}, []int64{0, 1, 2}},
		{"three that nobody calls from 0", calls(nil, []int64{3}, []int64{1}, []int64{2}),
			[][]int64{{0}, {1, 2, 3}, {1, 2, 3}, {1, 2, 3}}, [][]int64{{0}, {1, 2, 3}}, [][]int64{{0}, {1, 2, 3}}, []int64{1, 2, 3}},
		{"two that share one", calls([]int64{1}, []int64{0, 2}, []int64{1}), [][]int64{{0, 1, 2}, {0, 1, 2}, {0, 1, 2}}, [][]int64{{0, 1, 2}}, [][]int64{{0, 1, 2}}, []int64{0, 1, 2}},
		{"four round and round", calls([]int64{2}, []int64{0}, []int64{3}, []int64{1}),
			slices.Repeat([][]int64{{0, 1, 2, 3}}, 4), [][]int64{{0, 1, 2, 3}}, [][]int64{{0, 1, 2, 3}}, []int64{0, 1, 2, 3}},
		{"all that call all", callAll(), slices.Repeat([][]int64{{0, 1, 2, 3}}, 4), [][]int64{{0, 1, 2, 3}}, [][]int64{{0, 1, 2, 3}}, []int64{0, 1, 2, 3}},
	}
	for _, c := range cases {
		checkCallsCase(t, c)
	}
}

func TestP9CirclesAndOthers(t *testing.T) {
	cases := []callsCase{
		{"two circles apart", calls([]int64{1}, []int64{0}, []int64{3}, []int64{2}),
			[][]int64{{0, 1}, {0, 1}, {2, 3}, {2, 3}}, [][]int64{{0, 1}, {2, 3}}, [][]int64{{0, 1}, {2, 3}}, []int64{0, 1, 2, 3}},
		{"the first circle calls the other", calls([]int64{1, 2}, []int64{0}, []int64{3}, []int64{2}),
			[][]int64{{0, 1, 2, 3}, {0, 1, 2, 3}, {2, 3}, {2, 3}}, [][]int64{{0, 1}, {2, 3}}, [][]int64{{2, 3}, {0, 1}}, []int64{0, 1, 2, 3}},
		{"the other circle calls the first", calls([]int64{1}, []int64{0}, []int64{3}, []int64{1, 2}),
			[][]int64{{0, 1}, {0, 1}, {0, 1, 2, 3}, {0, 1, 2, 3}}, [][]int64{{0, 1}, {2, 3}}, [][]int64{{0, 1}, {2, 3}}, []int64{0, 1, 2, 3}},
		{"circles that lie across", twoRounds(),
			[][]int64{{0, 1, 2, 3}, {1, 3}, {0, 1, 2, 3}, {1, 3}}, [][]int64{{0, 2}, {1, 3}}, [][]int64{{1, 3}, {0, 2}}, []int64{0, 1, 2, 3}},
		{"into a circle and out of it", calls([]int64{1}, []int64{2}, []int64{1, 3}, nil),
			[][]int64{{0, 1, 2, 3}, {1, 2, 3}, {1, 2, 3}, {3}}, [][]int64{{0}, {1, 2}, {3}}, [][]int64{{3}, {1, 2}, {0}}, []int64{1, 2}},
		{"a circle that comes twice to one", calls([]int64{1, 2}, nil, []int64{0, 1}), [][]int64{{0, 1, 2}, {1}, {0, 1, 2}}, [][]int64{{0, 2}, {1}}, [][]int64{{1}, {0, 2}}, []int64{0, 2}},
		{"a circle that one calls that nobody calls", calls([]int64{1}, []int64{0}, []int64{0}), [][]int64{{0, 1}, {0, 1}, {0, 1, 2}}, [][]int64{{0, 1}, {2}}, [][]int64{{0, 1}, {2}}, []int64{0, 1}},
	}
	for _, c := range cases {
		checkCallsCase(t, c)
	}
}

// Of those that may come next, the one with the least is first, also where it could come only now, or was found later.
func TestP9TheLeastThatMayComeNext(t *testing.T) {
	cases := []struct {
		p    impl.Program
		want [][]int64
	}{
		{calls([]int64{2}, nil, nil), [][]int64{{1}, {2}, {0}}},
		{calls([]int64{3}, nil, nil, nil), [][]int64{{1}, {2}, {3}, {0}}},
		{calls([]int64{3}, []int64{2}, nil, nil), [][]int64{{2}, {1}, {3}, {0}}},
		{calls([]int64{2}, []int64{3}, nil, nil), [][]int64{{2}, {0}, {3}, {1}}},
		{calls(nil, []int64{3}, nil, nil), [][]int64{{0}, {2}, {3}, {1}}},
		{calls(nil, []int64{2}, []int64{0}, []int64{0}), [][]int64{{0}, {2}, {1}, {3}}},
		{calls([]int64{1}, []int64{2}, nil, nil), [][]int64{{2}, {1}, {0}, {3}}},
		{calls([]int64{2, 3}, []int64{2}, nil, nil), [][]int64{{2}, {1}, {3}, {0}}},
		{calls([]int64{3, 2}, nil, nil, []int64{0}), [][]int64{{1}, {2}, {0, 3}}},
		{calls([]int64{2}, []int64{3}, nil, []int64{1}), [][]int64{{1, 3}, {2}, {0}}},
		{calls([]int64{1}, []int64{0, 2}, nil, []int64{3}), [][]int64{{2}, {0, 1}, {3}}},
	}
	for _, c := range cases {
		if got := impl.Order(c.p); !sameLists(got, c.want) {
			t.Errorf("%v: Order %v, want %v", c.p, got, c.want)
		}
		checkWhoCalls(t, c.p)
		checkPromise9(t, c.p)
	}
}

func TestP9WhereverTheCallStands(t *testing.T) {
	cases := []callsCase{
		{"where no way comes", program(proc(back(), call(1), back()), proc(jump(2), call(0), back())), [][]int64{{0, 1}, {0, 1}}, [][]int64{{0, 1}}, [][]int64{{0, 1}}, []int64{0, 1}},
		{"other kinds call nobody", program(proc(assign(0, 1), both(1, 1), mark(1), wipe(1), ask(1), jump(1), skip(), back()), proc(jump(0), jump(1), back())),
			[][]int64{{0}, {1}}, [][]int64{{0}, {1}}, [][]int64{{0}, {1}}, nil},
		{"over and over, in any order", calls([]int64{2, 1, 2, 1, 2}, []int64{0, 0, 0}, nil), [][]int64{{0, 1, 2}, {0, 1, 2}, {2}}, [][]int64{{0, 1}, {2}}, [][]int64{{2}, {0, 1}}, []int64{0, 1}},
		{"at the end of the longest ones", program(proc(append(slices.Repeat([]impl.Stmt{skip()}, 10), call(1), back())...), proc(append(slices.Repeat([]impl.Stmt{mark(0)}, 10), call(2), back())...), long(12)),
			[][]int64{{0, 1, 2}, {1, 2}, {2}}, [][]int64{{0}, {1}, {2}}, [][]int64{{2}, {1}, {0}}, nil},
	}
	for _, c := range cases {
		checkCallsCase(t, c)
	}
}

func TestP9EveryoneCallsWhomever(t *testing.T) {
	for n := 1; n <= 4; n++ {
		callingPrograms(n, func(p impl.Program) {
			checkWhoCalls(t, p)
			checkPromise9(t, p)
		})
	}
}

func TestP9ManyPrograms(t *testing.T) {
	d := draws(9)
	for range 5000 {
		p := d.program()
		checkWhoCalls(t, p)
		checkPromise9(t, p)
		spoilt := roomy(p)
		stmts := spoilt.Procs[d.below(len(p.Procs))].Stmts
		s := &stmts[d.below(len(stmts))]
		*[]*int64{&s.Kind, &s.X, &s.Y}[d.below(3)] = farNumbers[d.below(len(farNumbers))]
		checkWhoCallsWrong(t, "spoilt", spoilt)
	}
}

func TestP9EdgesOfHowMany(t *testing.T) {
	asked := func(p impl.Program, is bool) {
		if !is {
			checkWhoCallsWrong(t, "too few or too many", p)
			return
		}
		checkWhoCalls(t, p)
		checkPromise9(t, p)
	}
	howManyProcs(asked)
	howManyStmts(asked)
}

func TestP9EdgesOfTheProc(t *testing.T) {
	for n := 1; n <= 4; n++ {
		last := int64(n) - 1
		for _, p := range []impl.Program{program(slices.Repeat([]impl.Proc{long(1)}, n)...), program(slices.Repeat([]impl.Proc{calling(0, last)}, n)...)} {
			for _, i := range []int64{0, last} {
				if got := impl.Reach(p, i); !slices.Contains(got, i) || impl.Recursive(p, i) != (len(p.Procs[0].Stmts) > 1) {
					t.Errorf("%v: of %d: Reach %v, Recursive %v", p, i, got, impl.Recursive(p, i))
				}
			}
			for _, i := range append([]int64{-4, -2, -1, last + 1, last + 2, 4, 5, 12}, farNumbers...) {
				checkNoReach(t, "one beyond", p, i)
			}
		}
	}
}

// A call of each number, from a program of each size: just those of procedures that are there are right.
func TestP9EdgesOfTheCalled(t *testing.T) {
	for n := 1; n <= 4; n++ {
		for at := range n {
			for _, y := range nearAndFar(-2, 6) {
				procs := slices.Repeat([]impl.Proc{long(1)}, n)
				procs[at] = calling(y)
				if y < 0 || y >= int64(n) {
					checkWhoCallsWrong(t, "no such procedure", program(procs...))
					continue
				}
				checkWhoCalls(t, program(procs...))
				if got := impl.Reach(program(procs...), int64(at)); !slices.Equal(got, slices.Compact(rising(int64(at), y))) {
					t.Errorf("%d of %d calls %d: Reach %v", at, n, y, got)
				}
			}
		}
	}
}

func TestP9OneWrongProc(t *testing.T) {
	oneWrongProc(func(p impl.Program) { checkWhoCallsWrong(t, "one wrong procedure", p) })
}

func TestP9WrongInOneField(t *testing.T) {
	checkWhoCalls(t, callers())
	inOneField(t, func(p impl.Program, is bool) {
		if is {
			checkWhoCalls(t, p)
		} else {
			checkWhoCallsWrong(t, "one wrong field", p)
		}
	})
}

// The spare room behind procedures and statements is no part of them, whatever calls lie there.
func TestP9TheRoomBehindIsNoPart(t *testing.T) {
	full := callAll()
	for n := 1; n < 4; n++ {
		procs := slices.Clone(full.Procs)
		for i := range procs {
			stmts := slices.Concat(calling(0).Stmts, calling(1, 2, 3).Stmts)
			procs[i].Stmts = stmts[:2]
		}
		p := impl.Program{Procs: procs[:n]}
		checkWhoCalls(t, p)
		if got := impl.Circles(p); len(got) != n || impl.Recursive(p, int64(n)-1) != (n == 1) {
			t.Errorf("%v: Circles %v", p, got)
		}
	}
}

// callsAnswers are the lists that the chapter tells, each asked for twice, and what holds them.
func callsAnswers(p impl.Program) (lists [][]int64, holders [][][]int64) {
	for range 2 {
		for i := range int64(len(p.Procs)) {
			lists = append(lists, impl.Reach(p, i))
		}
		for _, told := range [][][]int64{impl.Circles(p), impl.Order(p)} {
			lists = append(lists, told...)
			holders = append(holders, told)
		}
	}
	return lists, holders
}

func TestP21CallsAnswersAreNewMemory(t *testing.T) {
	programs := []impl.Program{calls(nil), calls(nil, nil, nil, nil), calls([]int64{1}, []int64{2}, []int64{3}, nil), callAll(), twoRounds(), calls([]int64{1, 2}, nil, []int64{0, 1})}
	for _, p := range programs {
		checkNewMemory(t, fmt.Sprint(p), func() ([][]int64, [][][]int64) { return callsAnswers(p) })
	}
}

// askCalls calls each function of the chapter twice, and writes over what it answers.
func askCalls(p impl.Program, i int64) {
	for range 2 {
		spoilNumbers(impl.Reach(p, i))
		spoilLists(impl.Circles(p))
		spoilLists(impl.Order(p))
		impl.Recursive(p, i)
	}
}

func TestP21CallsArgumentsStay(t *testing.T) {
	programs := []impl.Program{
		{}, calls(nil), callAll(), twoRounds(), calls([]int64{3, 1, 3}, []int64{0}, nil, []int64{2, 2}), program(long(12), calling(0), long(12)),
		program(slices.Repeat([]impl.Proc{calling(0)}, 5)...), program(calling(1), long(1), calling(3)), program(long(1), proc(), calling(0)),
	}
	for _, wrong := range wrongProcs() {
		programs = append(programs, program(calling(1), wrong), program(wrong, calling(0)))
	}
	for _, p := range programs {
		for _, i := range nearAndFar(-2, 6) {
			staysWhile(t, "calls", p, func(p impl.Program) { askCalls(p, i) })
		}
	}
}

func TestP21EndsOfInt64Calls(t *testing.T) {
	for _, end := range []int64{math.MinInt64, math.MaxInt64} {
		for _, p := range []impl.Program{{}, calls(nil), callAll()} {
			checkNoReach(t, "an end", p, end)
		}
		for _, s := range []impl.Stmt{call(end), jump(end), mark(end), assign(0, end), {Kind: end}, {Kind: end, X: end, Y: end}, {Kind: impl.StCall, X: end}, {Kind: impl.StCall, X: end, Y: end}} {
			checkWhoCallsWrong(t, "an end", program(proc(s, back())))
			checkWhoCallsWrong(t, "an end", program(calling(1), calling(2), calling(3), proc(call(0), s, back())))
		}
	}
}

func TestP21GreatCalls(t *testing.T) {
	great := long(1 << 22)
	checkWhoCallsWrong(t, "a great procedure", program(calling(1), great))
	checkWhoCallsWrong(t, "many procedures", program(slices.Repeat([]impl.Proc{calling(0)}, 1<<20)...))
	checkWhoCallsWrong(t, "many great ones", program(slices.Repeat([]impl.Proc{great}, 1<<16)...))
}
