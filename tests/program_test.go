package tests

import (
	"math"
	"slices"
	"testing"

	"loop.example/g00291/impl"
)

// farNumbers lie at the ends of int64, and where a narrower kind of number would wrap round to a small one.
var farNumbers = []int64{math.MinInt64, math.MinInt64 + 1, math.MaxInt64, math.MaxInt64 - 1, 1 << 8, 1<<8 + 1, 1 << 16, 1 << 32, 1<<32 + 1, -1 << 32, 1<<63 - 1<<32}

func nearAndFar(from, to int64) []int64 {
	numbers := slices.Clone(farNumbers)
	for n := from; n <= to; n++ {
		numbers = append(numbers, n)
	}
	return numbers
}

// rooms tells how many numbers X and Y of a Kind may be, from 0 on; 0 of what is no Kind.
func rooms(kind int64) (x, y int64) {
	table := [][2]int64{{0, 0}, {1, 1}, {6, 6}, {6, 6}, {6, 1}, {6, 1}, {6, 1}, {1, 12}, {1, 4}, {1, 1}}
	if kind < 0 || kind >= int64(len(table)) {
		return 0, 0
	}
	return table[kind][0], table[kind][1]
}

func checkProc(t *testing.T, name string, p impl.Proc, want bool) {
	t.Helper()
	if got := impl.ProcOk(p); got != want {
		t.Errorf("%s: ProcOk(%v) = %v", name, p, got)
	}
}

func checkProgramRight(t *testing.T, name string, p impl.Program, size int64) {
	t.Helper()
	if !impl.ProgramOk(p) || impl.Size(p) != size {
		t.Errorf("%s: %v: ProgramOk %v, Size %d, want %d", name, p, impl.ProgramOk(p), impl.Size(p), size)
	}
}

// checkProgramWrong asks for the fixed answers of a Program that is not right.
func checkProgramWrong(t *testing.T, name string, p impl.Program) {
	t.Helper()
	if impl.ProgramOk(p) || impl.Size(p) != -1 {
		t.Errorf("%s: ProgramOk %v, Size %d", name, impl.ProgramOk(p), impl.Size(p))
	}
	for _, n := range nearAndFar(-2, 6) {
		if c, r := impl.Calls(p, n), impl.Callers(p, n); len(c) != 0 || len(r) != 0 {
			t.Errorf("%s: procedure %d: Calls %v, Callers %v", name, n, c, r)
		}
	}
}

// checkCalls asks for Calls of each procedure, for Callers as those tell them, and for nothing of a procedure that is not there.
func checkCalls(t *testing.T, p impl.Program, want [][]int64) {
	t.Helper()
	callers := make([][]int64, len(want))
	for i, called := range want {
		for _, n := range called {
			callers[n] = append(callers[n], int64(i))
		}
	}
	for i := range want {
		if got := impl.Calls(p, int64(i)); !slices.Equal(got, want[i]) {
			t.Fatalf("%v: Calls of %d: %v, want %v", p, i, got, want[i])
		}
		if got := impl.Callers(p, int64(i)); !slices.Equal(got, callers[i]) {
			t.Fatalf("%v: Callers of %d: %v, want %v", p, i, got, callers[i])
		}
	}
	behind := int64(len(want))
	for _, n := range append([]int64{-2, -1, behind, behind + 1, behind + 2, 12}, farNumbers...) {
		if c, r := impl.Calls(p, n), impl.Callers(p, n); len(c) != 0 || len(r) != 0 {
			t.Fatalf("%v: no procedure %d: Calls %v, Callers %v", p, n, c, r)
		}
	}
}

func TestP3Constants(t *testing.T) {
	kinds := []int64{impl.StSkip, impl.StCopy, impl.StBoth, impl.StClear, impl.StMark, impl.StTest, impl.StJump, impl.StCall, impl.StBack}
	if !slices.Equal(kinds, []int64{1, 2, 3, 4, 5, 6, 7, 8, 9}) || impl.MaxStmts != 12 || impl.MaxProcs != 4 {
		t.Error(kinds, impl.MaxStmts, impl.MaxProcs)
	}
}

func TestP3EdgesOfStmts(t *testing.T) {
	right := []impl.Stmt{
		skip(), back(), assign(0, 0), assign(5, 5), assign(0, 5), assign(5, 0), both(0, 0), both(5, 5), both(2, 3),
		wipe(0), wipe(5), mark(0), mark(5), ask(0), ask(5), jump(0), jump(11), call(0), call(3),
	}
	for _, s := range right {
		if !impl.StmtOk(s) {
			t.Errorf("%v is not right", s)
		}
	}
	wrong := []impl.Stmt{
		{}, {Kind: 0}, {Kind: 10}, {Kind: -1}, {Kind: 10, X: 1, Y: 1}, {X: 1}, {Y: 1},
		assign(-1, 0), assign(6, 0), assign(0, -1), assign(0, 6), both(-1, 0), both(6, 0), both(0, -1), both(0, 6),
		wipe(-1), wipe(6), mark(-1), mark(6), ask(-1), ask(6), jump(-1), jump(12), call(-1), call(4),
		{Kind: impl.StSkip, X: 1}, {Kind: impl.StSkip, Y: 1}, {Kind: impl.StBack, X: 1}, {Kind: impl.StBack, Y: 1},
		{Kind: impl.StClear, Y: 1}, {Kind: impl.StMark, Y: 1}, {Kind: impl.StTest, Y: 1}, {Kind: impl.StClear, X: 1, Y: -1},
		{Kind: impl.StJump, X: 1}, {Kind: impl.StJump, X: -1, Y: 1}, {Kind: impl.StCall, X: 1}, {Kind: impl.StCall, X: -1, Y: 1},
	}
	for _, s := range wrong {
		if impl.StmtOk(s) {
			t.Errorf("%v is right", s)
		}
	}
}

func TestP3EveryStmt(t *testing.T) {
	for _, kind := range nearAndFar(-3, 14) {
		roomX, roomY := rooms(kind)
		for _, x := range nearAndFar(-3, 15) {
			for _, y := range nearAndFar(-3, 15) {
				s := impl.Stmt{Kind: kind, X: x, Y: y}
				want := x >= 0 && x < roomX && y >= 0 && y < roomY
				if impl.StmtOk(s) != want {
					t.Fatalf("StmtOk(%v) = %v", s, !want)
				}
				if impl.ProcOk(proc(skip(), s, back())) != (want && (kind != impl.StJump || y < 3)) {
					t.Fatalf("ProcOk with %v", s)
				}
				if impl.ProgramOk(program(proc(s, back()), long(1))) != (want && (kind != impl.StJump && kind != impl.StCall || y < 2)) {
					t.Fatalf("ProgramOk with %v", s)
				}
			}
		}
	}
}

func TestP3LengthsOfProcs(t *testing.T) {
	for n := range 40 {
		checkProc(t, "long", long(n), n >= 1 && n <= 12)
	}
	checkProc(t, "no statements", impl.Proc{}, false)
	checkProc(t, "no statements, a list", impl.Proc{Stmts: []impl.Stmt{}}, false)
	checkProc(t, "all of them StBack", proc(slices.Repeat([]impl.Stmt{back()}, 12)...), true)
	checkProc(t, "a kind each", proc(skip(), assign(1, 2), both(3, 4), wipe(5), mark(0), ask(1), jump(8), call(3), back()), true)
	checkProc(t, "StBack within", proc(back(), skip(), back()), true)
}

func TestP3LastIsBack(t *testing.T) {
	for _, s := range []impl.Stmt{skip(), assign(0, 1), both(0, 1), wipe(0), mark(0), ask(0), jump(0), call(0), {}, {Kind: 10}} {
		checkProc(t, "alone", proc(s), false)
		checkProc(t, "behind StBack", proc(back(), s), false)
		full := long(12)
		full.Stmts[11] = s
		checkProc(t, "the last of 12", full, false)
		checkProgramWrong(t, "not the last", program(long(2), proc(back(), s), long(1)))
	}
	checkProc(t, "StBack that tells X", proc(skip(), impl.Stmt{Kind: impl.StBack, X: 1}), false)
	checkProc(t, "StBack that tells Y", proc(skip(), impl.Stmt{Kind: impl.StBack, Y: 1}), false)
}

// A jump goes to one of its own procedure's statements, wherever it stands.
func TestP3JumpsWithin(t *testing.T) {
	for n := 2; n <= 12; n++ {
		for at := range n - 1 {
			for _, y := range nearAndFar(-2, 14) {
				p := long(n)
				p.Stmts[at] = jump(y)
				want := y >= 0 && y < int64(n)
				checkProc(t, "jump", p, want)
				if impl.ProgramOk(program(long(12), p)) != want {
					t.Errorf("ProgramOk: a jump to %d of %d", y, n)
				}
			}
		}
	}
	checkProc(t, "jumps to each other and to themselves", proc(jump(1), jump(0), jump(2), back()), true)
}

// A call's Y is no statement: that a procedure is short does not bar it.
func TestP3CallsOfProcs(t *testing.T) {
	for _, y := range nearAndFar(-2, 6) {
		for n := 1; n <= 4; n++ {
			checkProc(t, "call", proc(call(y), back()), y >= 0 && y < 4)
			for at := range n {
				procs := slices.Repeat([]impl.Proc{long(1)}, n)
				procs[at] = proc(call(y), back())
				if y >= 0 && y < int64(n) {
					checkProgramRight(t, "call", program(procs...), int64(n+1))
				} else {
					checkProgramWrong(t, "call", program(procs...))
				}
			}
		}
	}
}

func TestP3HowManyProcs(t *testing.T) {
	checkProgramWrong(t, "none", impl.Program{})
	checkProgramWrong(t, "none, a list", impl.Program{Procs: []impl.Proc{}})
	for n := 1; n <= 20; n++ {
		p := program(slices.Repeat([]impl.Proc{long(3)}, n)...)
		if n <= 4 {
			checkProgramRight(t, "right", p, int64(3*n))
		} else {
			checkProgramWrong(t, "too many", p)
		}
	}
}

func TestP3Sizes(t *testing.T) {
	checkProgramRight(t, "the least", alone(back()), 1)
	checkProgramRight(t, "a full one", program(long(12)), 12)
	checkProgramRight(t, "the most", program(long(12), long(12), long(12), long(12)), 48)
	for a := 1; a <= 12; a++ {
		for b := 1; b <= 12; b++ {
			checkProgramRight(t, "two", program(long(a), long(b)), int64(a+b))
			checkProgramRight(t, "four", program(long(b), long(1), long(a), long(7)), int64(a+b+8))
		}
	}
}

func TestP3OneWrongProc(t *testing.T) {
	wrong := []impl.Proc{
		{}, proc(skip()), long(13), long(0), proc(impl.Stmt{}, back()), proc(jump(2), back()), proc(jump(-1), back()), proc(call(4), back()), proc(call(-1), back()),
		proc(assign(6, 0), back()), proc(assign(0, 6), back()), proc(impl.Stmt{Kind: impl.StSkip, Y: 1}, back()), proc(impl.Stmt{Kind: 10}, back()),
		proc(back(), call(0)), proc(impl.Stmt{Kind: math.MaxInt64}, back()), proc(impl.Stmt{Kind: math.MinInt64}, back()),
		proc(jump(math.MaxInt64), back()), proc(jump(math.MinInt64), back()), proc(call(math.MaxInt64), back()), proc(call(math.MinInt64), back()),
		proc(mark(math.MaxInt64), back()), proc(mark(math.MinInt64), back()),
	}
	for _, w := range wrong {
		checkProc(t, "wrong", w, false)
		for n := 1; n <= 4; n++ {
			for at := range n {
				procs := slices.Repeat([]impl.Proc{proc(call(0), back())}, n)
				procs[at] = w
				checkProgramWrong(t, "one wrong procedure", program(procs...))
			}
		}
	}
}

func TestP3CallsAndCallers(t *testing.T) {
	cases := []struct {
		p    impl.Program
		want [][]int64
	}{
		{alone(back()), [][]int64{{}}},
		{alone(call(0), back()), [][]int64{{0}}},
		{program(calling(1), long(1)), [][]int64{{1}, {}}},
		{program(calling(1), calling(0)), [][]int64{{1}, {0}}},
		{program(long(2), calling(0)), [][]int64{{}, {0}}},
		{program(calling(3, 1, 3, 0, 1, 3), long(1), long(1), long(1)), [][]int64{{0, 1, 3}, {}, {}, {}}},
		{program(calling(3, 2, 1, 0), calling(2), calling(2), calling(3, 3, 3)), [][]int64{{0, 1, 2, 3}, {2}, {2}, {3}}},
		{program(calling(1, 2), calling(2), calling(0), long(12)), [][]int64{{1, 2}, {2}, {0}, {}}},
		{program(proc(back(), call(1), back()), long(1)), [][]int64{{1}, {}}},
		{program(proc(jump(2), call(1), back()), long(1)), [][]int64{{1}, {}}},
		{program(proc(assign(0, 1), both(1, 2), mark(3), wipe(2), ask(1), jump(1), skip(), back()), long(1)), [][]int64{{}, {}}},
	}
	for _, c := range cases {
		checkCalls(t, c.p, c.want)
	}
}

// Programs of 1 to 4 procedures in which each calls whomever it may: a bit for each call.
func TestP3WhoeverCallsWhom(t *testing.T) {
	for n := 1; n <= 4; n++ {
		for bits := range 1 << (n * n) {
			procs := make([]impl.Proc, n)
			want := make([][]int64, n)
			for i := range n {
				for j := range n {
					if bits>>(i*n+j)&1 == 1 {
						want[i] = append(want[i], int64(j))
					}
				}
				procs[i] = calling(want[i]...)
			}
			checkCalls(t, program(procs...), want)
		}
	}
}

func (d *draws) stmt(stmts, procs int) impl.Stmt {
	x, y := int64(d.below(6)), int64(d.below(6))
	switch kind := 1 + d.below(9); kind {
	case impl.StCopy, impl.StBoth:
		return impl.Stmt{Kind: int64(kind), X: x, Y: y}
	case impl.StClear, impl.StMark, impl.StTest:
		return impl.Stmt{Kind: int64(kind), X: x}
	case impl.StJump:
		return jump(int64(d.below(stmts)))
	case impl.StCall:
		return call(int64(d.below(procs)))
	default:
		return impl.Stmt{Kind: int64(kind)}
	}
}

func (d *draws) program() impl.Program {
	procs := make([]impl.Proc, 1+d.below(4))
	for i := range procs {
		procs[i] = long(1 + d.below(12))
		for at := range len(procs[i].Stmts) - 1 {
			procs[i].Stmts[at] = d.stmt(len(procs[i].Stmts), len(procs))
		}
	}
	return program(procs...)
}

func TestP3ManyPrograms(t *testing.T) {
	d := draws(3)
	for range 3000 {
		p := d.program()
		size := int64(0)
		want := make([][]int64, len(p.Procs))
		for i, one := range p.Procs {
			size += int64(len(one.Stmts))
			for _, s := range one.Stmts {
				if !impl.StmtOk(s) {
					t.Fatalf("%v in %v", s, p)
				}
				if s.Kind == 8 {
					want[i] = append(want[i], s.Y)
				}
			}
			slices.Sort(want[i])
			want[i] = slices.Compact(want[i])
			checkProc(t, "drawn", one, true)
		}
		checkProgramRight(t, "drawn", p, size)
		checkCalls(t, p, want)
		spoilt := roomy(p)
		stmts := spoilt.Procs[d.below(len(p.Procs))].Stmts
		s := &stmts[d.below(len(stmts))]
		*[]*int64{&s.Kind, &s.X, &s.Y}[d.below(3)] = farNumbers[d.below(len(farNumbers))]
		checkProgramWrong(t, "spoilt", spoilt)
	}
}

// askPrograms calls each function of the chapter once with p and what it is made of.
func askPrograms(p impl.Program, n int64) {
	for _, one := range p.Procs {
		for _, s := range one.Stmts {
			impl.StmtOk(s)
		}
		impl.ProcOk(one)
	}
	impl.ProgramOk(p)
	impl.Size(p)
	spoilNumbers(impl.Calls(p, n))
	spoilNumbers(impl.Callers(p, n))
}

func TestP21ProgramsStay(t *testing.T) {
	for _, p := range []impl.Program{
		{}, alone(back()), alone(call(0), back()), program(calling(3, 1, 3), calling(0), long(12), calling(2, 2)),
		program(long(12), long(13)), program(long(1), proc(skip())), program(proc(jump(5), back()), calling(3)), program(long(1), proc(), long(1)),
		program(slices.Repeat([]impl.Proc{calling(0)}, 5)...), alone(impl.Stmt{Kind: 10, X: -1, Y: math.MaxInt64}, back()),
	} {
		for _, n := range nearAndFar(-2, 6) {
			staysWhile(t, "programs", p, func(p impl.Program) { askPrograms(p, n) })
		}
	}
}

func TestP21ProgramAnswersAreNewMemory(t *testing.T) {
	p := program(calling(3, 1, 3, 0), calling(0, 1, 2, 3), calling(0), calling(1, 0))
	for n := range int64(4) {
		called, callers := impl.Calls(p, n), impl.Callers(p, n)
		wantCalled, wantCallers := slices.Clone(called), slices.Clone(callers)
		spoilNumbers(impl.Calls(p, n))
		spoilNumbers(impl.Callers(p, n))
		if !slices.Equal(called, wantCalled) || !slices.Equal(callers, wantCallers) {
			t.Errorf("procedure %d: an answer shares memory with a later one: %v, %v", n, called, callers)
		}
		spoilNumbers(called)
		spoilNumbers(callers)
		if !slices.Equal(impl.Calls(p, n), wantCalled) || !slices.Equal(impl.Callers(p, n), wantCallers) {
			t.Errorf("procedure %d: %v, %v", n, impl.Calls(p, n), impl.Callers(p, n))
		}
	}
	if len(impl.Calls(p, 1)) != 4 || len(impl.Callers(p, 0)) != 4 {
		t.Error(impl.Calls(p, 1), impl.Callers(p, 0))
	}
}

func TestP21GreatPrograms(t *testing.T) {
	great := long(1 << 22)
	if impl.ProcOk(great) {
		t.Error("a great procedure")
	}
	checkProgramWrong(t, "a great procedure", program(long(1), great))
	checkProgramWrong(t, "many procedures", program(slices.Repeat([]impl.Proc{calling(0)}, 1<<20)...))
	checkProgramWrong(t, "many great ones", program(slices.Repeat([]impl.Proc{great}, 1<<16)...))
}
