package tests

import (
	"math"
	"slices"
	"testing"

	"loop.example/g00291/impl"
)

// winding has a circle, jumps over a statement, a StBack within, and behind it two statements to which no way comes.
func winding() impl.Proc {
	return proc(mark(1), jump(3), wipe(1), assign(4, 1), jump(1), jump(7), skip(), back(), skip(), back())
}

// turning goes on, or back to 0, at each of its statements but the last one: nothing has more ways.
func turning() impl.Proc {
	return proc(append(slices.Repeat([]impl.Stmt{jump(0)}, 11), back())...)
}

func TestP4NextOfEachKind(t *testing.T) {
	for _, s := range []impl.Stmt{skip(), assign(1, 2), both(3, 4), wipe(5), mark(0), ask(1), call(0), call(3), assign(2, 0), both(0, 2)} {
		p := proc(s, s, back())
		if !slices.Equal(impl.Next(p, 0), []int64{1}) || !slices.Equal(impl.Next(p, 1), []int64{2}) || len(impl.Next(p, 2)) != 0 {
			t.Errorf("%v: Next %v, %v, %v", s, impl.Next(p, 0), impl.Next(p, 1), impl.Next(p, 2))
		}
		if len(impl.Before(p, 0)) != 0 || !slices.Equal(impl.Before(p, 1), []int64{0}) || !slices.Equal(impl.Before(p, 2), []int64{1}) {
			t.Errorf("%v: Before %v, %v, %v", s, impl.Before(p, 0), impl.Before(p, 1), impl.Before(p, 2))
		}
		if !slices.Equal(impl.Reached(p), []int64{0, 1, 2}) || impl.Short(p, 2) != 3 || !sameLists(impl.Ways(p, 2, 9), [][]int64{{0, 1, 2}}) {
			t.Errorf("%v: Reached %v, Short %d, Ways %v", s, impl.Reached(p), impl.Short(p, 2), impl.Ways(p, 2, 9))
		}
	}
}

func TestP4Jumps(t *testing.T) {
	cases := []struct {
		name         string
		y            int64
		next, before []int64
	}{
		{"back to the first", 0, []int64{0, 3}, []int64{2}},
		{"back to the one ahead", 1, []int64{1, 3}, []int64{0, 2}},
		{"to itself", 2, []int64{2, 3}, []int64{1, 2}},
		{"to the next one", 3, []int64{3}, []int64{2}},
		{"over one", 4, []int64{3, 4}, []int64{2, 3}},
		{"to the last one", 5, []int64{3, 5}, []int64{2, 4}},
	}
	for _, c := range cases {
		p := proc(skip(), skip(), jump(c.y), skip(), skip(), back())
		if got := impl.Next(p, 2); !slices.Equal(got, c.next) {
			t.Errorf("%s: Next %v, want %v", c.name, got, c.next)
		}
		if got := impl.Before(p, c.y); !slices.Equal(got, c.before) {
			t.Errorf("%s: Before %v, want %v", c.name, got, c.before)
		}
		checkSteps(t, p)
		checkWays(t, p, 9)
	}
}

func TestP4BackWithin(t *testing.T) {
	p := proc(skip(), back(), skip(), jump(1), back())
	if len(impl.Next(p, 1)) != 0 || len(impl.Before(p, 2)) != 0 || !slices.Equal(impl.Before(p, 1), []int64{0, 3}) {
		t.Error(impl.Next(p, 1), impl.Before(p, 2), impl.Before(p, 1))
	}
	if !slices.Equal(impl.Reached(p), []int64{0, 1}) || impl.Short(p, 1) != 2 || impl.Short(p, 2) != 0 || impl.Short(p, 4) != 0 {
		t.Error(impl.Reached(p), impl.Short(p, 1), impl.Short(p, 2), impl.Short(p, 4))
	}
	if len(impl.Ways(p, 2, 9)) != 0 || len(impl.Ways(p, 4, 9)) != 0 || impl.WayOk(p, []int64{0, 1, 2}) {
		t.Error(impl.Ways(p, 2, 9), impl.Ways(p, 4, 9))
	}
	if got := impl.Reached(proc(back(), jump(0), back())); !slices.Equal(got, []int64{0}) {
		t.Error(got)
	}
}

// A jump far ahead, back and ahead again: what is reached is told rising, though it is come to in another order.
func TestP4ReachedRises(t *testing.T) {
	p := proc(jump(9), back(), skip(), jump(6), back(), skip(), jump(11), back(), skip(), jump(3), back(), back())
	if got := impl.Reached(p); !slices.Equal(got, []int64{0, 1, 3, 4, 6, 7, 9, 10, 11}) {
		t.Error(got)
	}
	for at, want := range []int64{1, 2, 0, 3, 4, 0, 4, 5, 0, 2, 3, 5} {
		if got := impl.Short(p, int64(at)); got != want {
			t.Errorf("Short of %d: %d, want %d", at, got, want)
		}
	}
	if got := impl.Reached(long(12)); !slices.Equal(got, []int64{0, 1, 2, 3, 4, 5, 6, 7, 8, 9, 10, 11}) {
		t.Error(got)
	}
}

func TestP4WaysInOrder(t *testing.T) {
	circle := proc(skip(), jump(0), back())
	far := proc(skip(), jump(10), jump(11), skip(), skip(), skip(), skip(), skip(), skip(), skip(), skip(), back())
	self := proc(jump(0), back())
	cases := []struct {
		p        impl.Proc
		at, most int64
		want     [][]int64
	}{
		{long(1), 0, 1, [][]int64{{0}}},
		{long(1), 0, 9, [][]int64{{0}}},
		{proc(jump(1), back()), 1, 9, [][]int64{{0, 1}}},
		{self, 0, 4, [][]int64{{0}, {0, 0}, {0, 0, 0}, {0, 0, 0, 0}}},
		{self, 1, 4, [][]int64{{0, 1}, {0, 0, 1}, {0, 0, 0, 1}}},
		{circle, 2, 2, nil},
		{circle, 2, 3, [][]int64{{0, 1, 2}}},
		{circle, 2, 4, [][]int64{{0, 1, 2}}},
		{circle, 2, 9, [][]int64{{0, 1, 2}, {0, 1, 0, 1, 2}, {0, 1, 0, 1, 0, 1, 2}, {0, 1, 0, 1, 0, 1, 0, 1, 2}}},
		{circle, 0, 5, [][]int64{{0}, {0, 1, 0}, {0, 1, 0, 1, 0}}},
		{proc(jump(2), skip(), jump(4), skip(), back()), 4, 9, [][]int64{{0, 2, 4}, {0, 1, 2, 4}, {0, 2, 3, 4}, {0, 1, 2, 3, 4}}},
		{proc(jump(2), jump(0), jump(1), back()), 1, 4, [][]int64{{0, 1}, {0, 2, 1}, {0, 1, 0, 1}, {0, 1, 2, 1}}},
		{far, 11, 4, [][]int64{{0, 1, 2, 11}, {0, 1, 10, 11}}},
	}
	for _, c := range cases {
		if got := impl.Ways(c.p, c.at, c.most); !sameLists(got, c.want) {
			t.Errorf("%v: Ways to %d of at most %d: %v, want %v", c.p, c.at, c.most, got, c.want)
		}
	}
}

func TestP4EdgesOfMost(t *testing.T) {
	line := long(12)
	for at := range int64(12) {
		for most := int64(1); most <= 9; most++ {
			if got := len(impl.Ways(line, at, most)); (got == 1) != (at < most) || got > 1 {
				t.Errorf("at %d, most %d: %d ways", at, most, got)
			}
		}
	}
	for most, want := int64(1), 1; most <= 9; most, want = most+1, want*2 {
		if got := len(impl.Ways(turning(), 0, most)); got != want {
			t.Errorf("at most %d: %d ways to 0, want %d", most, got, want)
		}
	}
	for _, most := range append([]int64{-9, -2, -1, 0, 10, 11, 100}, farNumbers...) {
		for _, p := range []impl.Proc{long(1), line, turning(), winding()} {
			if got := impl.Ways(p, 0, most); len(got) != 0 {
				t.Errorf("at most %d: %v", most, got)
			}
		}
	}
}

func TestP4EdgesOfAt(t *testing.T) {
	for n := 1; n <= 12; n++ {
		p := long(n)
		last := int64(n) - 1
		if impl.Short(p, 0) != 1 || impl.Short(p, last) != int64(n) || len(impl.Next(p, last)) != 0 || len(impl.Before(p, 0)) != 0 {
			t.Errorf("%d statements: Short %d, %d, Next %v, Before %v", n, impl.Short(p, 0), impl.Short(p, last), impl.Next(p, last), impl.Before(p, 0))
		}
		checkSteps(t, p)
		checkWays(t, p, 9)
		for _, at := range append([]int64{-12, -2, -1, last + 1, last + 2, 12, 13}, farNumbers...) {
			checkNoStmt(t, p, at)
			checkNoStmt(t, proc(append(slices.Repeat([]impl.Stmt{jump(last)}, n-1), back())...), at)
		}
	}
}

func TestP4EdgesOfWays(t *testing.T) {
	self := proc(jump(0), back())
	for _, size := range []int{1, 2, 3, 50, 99, 100, 101, 102, 200, 1 << 20} {
		round := make([]int64, size)
		if impl.WayOk(self, round) != (size <= 100) {
			t.Errorf("%d statements round and round", size)
		}
		round[size-1] = 1
		if impl.WayOk(self, round) != (size > 1 && size <= 100) {
			t.Errorf("%d statements, the last one behind it", size)
		}
		circle := make([]int64, size)
		for i := range circle {
			circle[i] = int64(i % 12)
		}
		p := long(12)
		p.Stmts[10] = jump(0)
		if impl.WayOk(p, circle) != (size <= 11) {
			t.Errorf("%d statements beyond StBack", size)
		}
		for i := range circle {
			circle[i] = int64(i % 11)
		}
		if impl.WayOk(p, circle) != (size <= 100) {
			t.Errorf("%d statements in a circle", size)
		}
	}
	for _, p := range []impl.Proc{long(1), self, long(12), winding()} {
		if impl.WayOk(p, nil) || impl.WayOk(p, []int64{}) || !impl.WayOk(p, []int64{0}) {
			t.Errorf("%v: ways of 0 and 1 statements", p)
		}
	}
}

func TestP4WrongWays(t *testing.T) {
	p := winding()
	right := [][]int64{{0}, {0, 1}, {0, 1, 2}, {0, 1, 3}, {0, 1, 2, 3, 4, 1, 3, 4, 5, 7}, {0, 1, 3, 4, 5, 6, 7}}
	for _, way := range right {
		if !impl.WayOk(p, way) {
			t.Errorf("%v is a way", way)
		}
	}
	wrong := [][]int64{
		{1}, {1, 2}, {9}, {3, 4, 5}, {0, 0}, {0, 2}, {0, 1, 4}, {0, 1, 1}, {0, 1, 0}, {0, 1, 2, 4}, {0, 1, 3, 4, 5, 7, 8}, {0, 1, 3, 4, 5, 7, 0},
		{-1}, {10}, {0, -1}, {0, 10}, {0, 1, -1}, {0, 1, 10}, {0, 1, 3, 4, 5, 7, 10}, {0, 1, 3, 10}, {0, 11}, {0, 12}, {0, 1, 12, 3},
	}
	for _, way := range wrong {
		if impl.WayOk(p, way) {
			t.Errorf("%v is no way", way)
		}
	}
	for _, far := range farNumbers {
		way := []int64{0, 1, 2, 3, 4, 5, 6, 7}
		for i, was := range way {
			way[i] = far
			if impl.WayOk(p, way) || impl.WayOk(p, way[:i+1]) {
				t.Errorf("%v is no way", way)
			}
			way[i] = was
		}
		if !impl.WayOk(p, way) {
			t.Errorf("%v is a way", way)
		}
	}
}

// Every row of up to 4 numbers, one beyond each end among them, is a way just where the tests' own word is.
func TestP4EveryShortWay(t *testing.T) {
	for n := 1; n <= 4; n++ {
		var rows [][]int64
		for level := [][]int64{nil}; len(level[0]) <= 4; {
			rows = append(rows, level...)
			var longer [][]int64
			for _, row := range level {
				for k := int64(-1); k <= int64(n); k++ {
					longer = append(longer, append(slices.Clone(row), k))
				}
			}
			level = longer
		}
		smallProcs(n, func(p impl.Proc) {
			for _, row := range rows {
				if got := impl.WayOk(p, row); got != isWay(p, row) {
					t.Fatalf("%v: WayOk(%v) = %v", p, row, got)
				}
			}
		})
	}
}

func TestP4EverySmallProc(t *testing.T) {
	for n := 1; n <= 5; n++ {
		smallProcs(n, func(p impl.Proc) {
			checkSteps(t, p)
			checkWays(t, p, 1)
			checkWays(t, p, 4)
			checkWays(t, p, 7)
		})
	}
}

func TestP4ManyProcs(t *testing.T) {
	d := draws(4)
	for range 1500 {
		p := d.program().Procs[0]
		for at := range len(p.Stmts) - 1 {
			if d.below(3) == 0 {
				p.Stmts[at] = jump(int64(d.below(len(p.Stmts))))
			}
		}
		checkSteps(t, p)
		checkWays(t, p, 9)
		checkWays(t, p, 1+int64(d.below(8)))
	}
}

func TestP4MostWays(t *testing.T) {
	for _, p := range []impl.Proc{turning(), winding()} {
		checkSteps(t, p)
		for most := int64(1); most <= 9; most++ {
			checkWays(t, p, most)
		}
	}
}

func TestP4WrongProcs(t *testing.T) {
	for _, p := range wrongProcs() {
		checkFlowWrong(t, "wrong", p)
	}
}

// askFlow calls each function of the chapter once, and writes over what it answers.
func askFlow(p impl.Proc, at, most int64, way []int64) {
	spoilNumbers(impl.Next(p, at))
	spoilNumbers(impl.Before(p, at))
	spoilNumbers(impl.Reached(p))
	impl.Short(p, at)
	impl.WayOk(p, way)
	for _, found := range impl.Ways(p, at, most) {
		spoilNumbers(found)
	}
}

func TestP21FlowArgumentsStay(t *testing.T) {
	procs := []impl.Proc{{}, long(1), long(12), long(13), winding(), turning(), proc(skip()), proc(jump(5), back()), proc(jump(0), back())}
	ways := [][]int64{{}, {0}, {0, 1}, {0, 1, 2}, {0, 0}, {1}, {0, -1}, {0, math.MaxInt64}, make([]int64, 101)}
	for _, p := range procs {
		for _, at := range nearAndFar(-2, 13) {
			staysWhile(t, "flow", program(p), func(p impl.Program) { askFlow(p.Procs[0], at, 9, nil) })
		}
		for _, most := range nearAndFar(-2, 11) {
			staysWhile(t, "flow", program(p), func(p impl.Program) { askFlow(p.Procs[0], 0, most, nil) })
		}
		for _, way := range ways {
			room := append(slices.Clone(way), 4711, 4712)
			before := slices.Clone(room)
			askFlow(p, 1, 5, room[:len(way)])
			if !slices.Equal(room, before) {
				t.Errorf("%v: %v was changed to %v", p, before, room)
			}
		}
	}
}

func TestP21FlowAnswersAreNewMemory(t *testing.T) {
	for _, p := range []impl.Proc{winding(), turning(), long(12), proc(jump(0), back())} {
		for at := range int64(len(p.Stmts)) {
			next, before, reached, ways := impl.Next(p, at), impl.Before(p, at), impl.Reached(p), impl.Ways(p, at, 9)
			askFlow(p, at, 9, nil)
			for _, got := range append([][]int64{next, before, reached}, ways...) {
				if slices.Contains(got, -4711) {
					t.Fatalf("%v: at %d: an answer shares memory with a later one: %v", p, at, got)
				}
				spoilNumbers(got)
			}
			checkSteps(t, p)
			checkWays(t, p, 9)
		}
	}
}

func TestP21WaysLieApart(t *testing.T) {
	for _, p := range []impl.Proc{winding(), turning(), proc(jump(0), back())} {
		for at := range int64(len(p.Stmts)) {
			ways := impl.Ways(p, at, 9)
			var lie []stretch
			for _, way := range ways {
				if overlap(lie, liesAt(way)) {
					t.Fatalf("%v: two Ways to %d share memory", p, at)
				}
				lie = append(lie, liesAt(way)...)
			}
		}
	}
}

func TestP21GreatFlows(t *testing.T) {
	checkFlowWrong(t, "a great procedure", long(1<<20))
	great := make([]int64, 1<<22)
	for _, p := range []impl.Proc{proc(jump(0), back()), turning(), {}} {
		if impl.WayOk(p, great) {
			t.Error("a great way")
		}
	}
}
