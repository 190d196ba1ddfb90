package tests

import (
	"slices"
	"testing"

	"loop.example/g00291/impl"
)

// gatesCase tells of each statement Gates and Gate, and of each of Loops its Body.
type gatesCase struct {
	name   string
	p      impl.Proc
	gates  [][]int64
	gate   []int64
	loops  [][]int64
	bodies [][]int64
}

func checkGatesCase(t *testing.T, c gatesCase) {
	t.Helper()
	for n := range c.p.Stmts {
		if got := impl.Gates(c.p, int64(n)); !slices.Equal(got, c.gates[n]) {
			t.Errorf("%s: Gates of %d: %v, want %v", c.name, n, got, c.gates[n])
		}
		if got := impl.Gate(c.p, int64(n)); got != c.gate[n] {
			t.Errorf("%s: Gate of %d: %d, want %d", c.name, n, got, c.gate[n])
		}
	}
	if got := impl.Loops(c.p); !sameLists(got, c.loops) {
		t.Errorf("%s: Loops %v, want %v", c.name, got, c.loops)
	}
	for i, loop := range c.loops {
		if got := impl.Body(c.p, loop[0], loop[1]); !slices.Equal(got, c.bodies[i]) {
			t.Errorf("%s: Body of %v: %v, want %v", c.name, loop, got, c.bodies[i])
		}
	}
	checkGates(t, c.p)
	checkLoops(t, c.p)
	if len(c.p.Stmts) <= 9 {
		checkOnWays(t, c.p)
	}
}

// circleInCircle has a circle within a circle; behind both a statement that jumps to itself.
func circleInCircle() impl.Proc {
	return proc(skip(), mark(0), ask(0), jump(2), jump(1), jump(5), back())
}

// twoRound has two circles with one gate.
func twoRound() impl.Proc { return proc(skip(), jump(3), jump(1), jump(1), back()) }

func TestP5StraightOnes(t *testing.T) {
	cases := []gatesCase{
		{"one statement", long(1), [][]int64{{0}}, []int64{-1}, nil, nil},
		{"two", long(2), [][]int64{{0}, {0, 1}}, []int64{-1, 0}, nil, nil},
		{"all kinds that go on", proc(mark(1), assign(1, 2), both(3, 4), wipe(5), ask(1), call(3), back()),
			[][]int64{{0}, {0, 1}, {0, 1, 2}, {0, 1, 2, 3}, {0, 1, 2, 3, 4}, {0, 1, 2, 3, 4, 5}, {0, 1, 2, 3, 4, 5, 6}}, []int64{-1, 0, 1, 2, 3, 4, 5}, nil, nil},
		{"a jump to the next one", proc(jump(1), jump(2), back()), [][]int64{{0}, {0, 1}, {0, 1, 2}}, []int64{-1, 0, 1}, nil, nil},
		{"StBack within", proc(skip(), back(), jump(2), jump(0), back()), [][]int64{{0}, {0, 1}, nil, nil, nil}, []int64{-1, 0, -1, -1, -1}, nil, nil},
	}
	for _, c := range cases {
		checkGatesCase(t, c)
	}
}

func TestP5JumpsForward(t *testing.T) {
	cases := []gatesCase{
		{"over one", proc(jump(2), skip(), back()), [][]int64{{0}, {0, 1}, {0, 2}}, []int64{-1, 0, 0}, nil, nil},
		{"over one, behind 0", proc(skip(), jump(3), skip(), back()), [][]int64{{0}, {0, 1}, {0, 1, 2}, {0, 1, 3}}, []int64{-1, 0, 1, 1}, nil, nil},
		{"twice to one", proc(jump(3), jump(3), skip(), back()), [][]int64{{0}, {0, 1}, {0, 1, 2}, {0, 3}}, []int64{-1, 0, 1, 0}, nil, nil},
		{"over one that goes back", proc(jump(2), back(), skip(), back()), [][]int64{{0}, {0, 1}, {0, 2}, {0, 2, 3}}, []int64{-1, 0, 0, 2}, nil, nil},
		{"two, one behind the other", proc(jump(2), skip(), jump(4), skip(), back()), [][]int64{{0}, {0, 1}, {0, 2}, {0, 2, 3}, {0, 2, 4}}, []int64{-1, 0, 0, 2, 2}, nil, nil},
		{"from within what is jumped over", proc(jump(3), jump(4), skip(), skip(), back()), [][]int64{{0}, {0, 1}, {0, 1, 2}, {0, 3}, {0, 4}}, []int64{-1, 0, 1, 0, 0}, nil, nil},
	}
	for _, c := range cases {
		checkGatesCase(t, c)
	}
}

func TestP5JumpsBack(t *testing.T) {
	cases := []gatesCase{
		{"to the first", proc(skip(), jump(0), back()), [][]int64{{0}, {0, 1}, {0, 1, 2}}, []int64{-1, 0, 1}, [][]int64{{1, 0}}, [][]int64{{0, 1}}},
		{"0 to itself", proc(jump(0), back()), [][]int64{{0}, {0, 1}}, []int64{-1, 0}, [][]int64{{0, 0}}, [][]int64{{0}}},
		{"to itself", proc(skip(), jump(1), back()), [][]int64{{0}, {0, 1}, {0, 1, 2}}, []int64{-1, 0, 1}, [][]int64{{1, 1}}, [][]int64{{1}}},
		{"to itself, in a circle", proc(skip(), jump(1), jump(1), jump(0), back()), [][]int64{{0}, {0, 1}, {0, 1, 2}, {0, 1, 2, 3}, {0, 1, 2, 3, 4}}, []int64{-1, 0, 1, 2, 3},
			[][]int64{{1, 1}, {2, 1}, {3, 0}}, [][]int64{{1}, {1, 2}, {0, 1, 2, 3}}},
		{"nested circles", circleInCircle(), [][]int64{{0}, {0, 1}, {0, 1, 2}, {0, 1, 2, 3}, {0, 1, 2, 3, 4}, {0, 1, 2, 3, 4, 5}, {0, 1, 2, 3, 4, 5, 6}}, []int64{-1, 0, 1, 2, 3, 4, 5},
			[][]int64{{3, 2}, {4, 1}, {5, 5}}, [][]int64{{2, 3}, {1, 2, 3, 4}, {5}}},
		{"two circles with one gate", twoRound(), [][]int64{{0}, {0, 1}, {0, 1, 2}, {0, 1, 3}, {0, 1, 3, 4}}, []int64{-1, 0, 1, 1, 3},
			[][]int64{{2, 1}, {3, 1}}, [][]int64{{1, 2}, {1, 2, 3}}},
		{"two circles with one gate, apart", proc(skip(), jump(4), jump(1), back(), jump(1), back()), [][]int64{{0}, {0, 1}, {0, 1, 2}, {0, 1, 2, 3}, {0, 1, 4}, {0, 1, 4, 5}},
			[]int64{-1, 0, 1, 2, 1, 4}, [][]int64{{2, 1}, {4, 1}}, [][]int64{{1, 2}, {1, 4}}},
		{"winding", winding(), [][]int64{{0}, {0, 1}, {0, 1, 2}, {0, 1, 3}, {0, 1, 3, 4}, {0, 1, 3, 4, 5}, {0, 1, 3, 4, 5, 6}, {0, 1, 3, 4, 5, 7}, nil, nil},
			[]int64{-1, 0, 1, 1, 3, 4, 5, 5, -1, -1}, [][]int64{{4, 1}}, [][]int64{{1, 2, 3, 4}}},
	}
	for _, c := range cases {
		checkGatesCase(t, c)
	}
}

// Where statements are come to from behind only, a gate has a greater number, and a step that is no jump goes to a gate.
func TestP5GatesBehind(t *testing.T) {
	cases := []gatesCase{
		{"a step on to a gate", proc(jump(3), back(), skip(), jump(2), back()), [][]int64{{0}, {0, 1}, {0, 2, 3}, {0, 3}, {0, 3, 4}}, []int64{-1, 0, 3, 0, 3},
			[][]int64{{2, 3}}, [][]int64{{2, 3}}},
		{"the greatest is the gate of the least", proc(jump(6), back(), jump(5), back(), jump(2), back(), jump(4), back()),
			[][]int64{{0}, {0, 1}, {0, 2, 4, 6}, {0, 2, 3, 4, 6}, {0, 4, 6}, {0, 4, 5, 6}, {0, 6}, {0, 6, 7}}, []int64{-1, 0, 4, 2, 6, 4, 0, 6}, nil, nil},
	}
	for _, c := range cases {
		checkGatesCase(t, c)
	}
}

func TestP5StepsThatGoToNoGate(t *testing.T) {
	cases := []gatesCase{
		{"a circle that is come to twice", proc(jump(2), skip(), jump(1), back()), [][]int64{{0}, {0, 1}, {0, 2}, {0, 2, 3}}, []int64{-1, 0, 0, 2}, nil, nil},
		{"within one that has a gate", proc(jump(2), skip(), jump(1), jump(0), back()), [][]int64{{0}, {0, 1}, {0, 2}, {0, 2, 3}, {0, 2, 3, 4}}, []int64{-1, 0, 0, 2, 3},
			[][]int64{{3, 0}}, [][]int64{{0, 1, 2, 3}}},
		{"circles that no way comes to", proc(back(), jump(1), jump(1), jump(0), back()), [][]int64{{0}, nil, nil, nil, nil}, []int64{-1, -1, -1, -1, -1}, nil, nil},
	}
	for _, c := range cases {
		checkGatesCase(t, c)
	}
}

// All from which one comes to the end are told, those that no way comes to among them.
func TestP5BodyHasAllThatComeThere(t *testing.T) {
	checkGatesCase(t, gatesCase{"one that is not reached", proc(skip(), skip(), jump(1), back(), jump(2), back()),
		[][]int64{{0}, {0, 1}, {0, 1, 2}, {0, 1, 2, 3}, nil, nil}, []int64{-1, 0, 1, 2, -1, -1}, [][]int64{{2, 1}}, [][]int64{{1, 2, 4}}})
	checkGatesCase(t, gatesCase{"one that comes there by the gate alone", proc(skip(), skip(), jump(1), back(), jump(1), back()),
		[][]int64{{0}, {0, 1}, {0, 1, 2}, {0, 1, 2, 3}, nil, nil}, []int64{-1, 0, 1, 2, -1, -1}, [][]int64{{2, 1}}, [][]int64{{1, 2}}})
}

func TestP5LongOnes(t *testing.T) {
	line, round := long(12), turning()
	for n := range int64(12) {
		upTo := []int64{0, 1, 2, 3, 4, 5, 6, 7, 8, 9, 10, 11}[:n+1]
		if !slices.Equal(impl.Gates(line, n), upTo) || !slices.Equal(impl.Gates(round, n), upTo) {
			t.Errorf("Gates of %d: %v, %v", n, impl.Gates(line, n), impl.Gates(round, n))
		}
		if impl.Gate(line, n) != n-1 || impl.Gate(round, n) != n-1 {
			t.Errorf("Gate of %d: %d, %d", n, impl.Gate(line, n), impl.Gate(round, n))
		}
		if n < 11 && !slices.Equal(impl.Body(round, n, 0), upTo) {
			t.Errorf("Body of %d: %v", n, impl.Body(round, n, 0))
		}
	}
	if len(impl.Loops(line)) != 0 || len(impl.Loops(round)) != 11 || len(impl.Body(round, 11, 0)) != 0 {
		t.Error(impl.Loops(line), impl.Loops(round), impl.Body(round, 11, 0))
	}
	for _, p := range []impl.Proc{line, round} {
		checkGates(t, p)
		checkLoops(t, p)
	}
}

func TestP5EdgesOfTheAsked(t *testing.T) {
	for n := 1; n <= 12; n++ {
		last := int64(n) - 1
		for _, p := range []impl.Proc{long(n), proc(append(slices.Repeat([]impl.Stmt{jump(last)}, n-1), back())...)} {
			if !slices.Equal(impl.Gates(p, 0), []int64{0}) || impl.Gate(p, 0) != -1 || !slices.Contains(impl.Gates(p, last), last) {
				t.Errorf("%v: Gates of 0 %v, Gate %d, Gates of the last one %v", p, impl.Gates(p, 0), impl.Gate(p, 0), impl.Gates(p, last))
			}
			if n > 1 && impl.Gate(p, last) == -1 {
				t.Errorf("%v: no Gate of the last one", p)
			}
			for _, at := range append([]int64{-12, -2, -1, last + 1, last + 2, 12, 13}, farNumbers...) {
				checkNoGates(t, p, at)
			}
			checkGates(t, p)
			checkLoops(t, p)
		}
	}
}

func TestP5NotReached(t *testing.T) {
	p := winding()
	checkNoGates(t, p, 8)
	checkNoGates(t, p, 9)
	allBack := proc(slices.Repeat([]impl.Stmt{back()}, 12)...)
	if !slices.Equal(impl.Gates(allBack, 0), []int64{0}) || impl.Gate(allBack, 0) != -1 {
		t.Error(impl.Gates(allBack, 0), impl.Gate(allBack, 0))
	}
	for n := int64(1); n < 12; n++ {
		checkNoGates(t, allBack, n)
	}
	early := proc(append([]impl.Stmt{back()}, turning().Stmts[1:]...)...)
	if len(impl.Loops(early)) != 0 || len(impl.Body(early, 1, 0)) != 0 {
		t.Error(impl.Loops(early), impl.Body(early, 1, 0))
	}
}

// Each of the two alone wrong: from and gate are changed, one at a time, to every other number.
func TestP5EdgesOfBody(t *testing.T) {
	for _, p := range []impl.Proc{winding(), circleInCircle(), twoRound(), turning(), proc(jump(0), back()), proc(jump(3), back(), skip(), jump(2), back())} {
		loops := impl.Loops(p)
		for _, loop := range loops {
			if body := impl.Body(p, loop[0], loop[1]); !slices.Contains(body, loop[0]) || !slices.Contains(body, loop[1]) {
				t.Errorf("%v: Body of %v: %v", p, loop, body)
			}
			for _, n := range nearAndFar(-2, 14) {
				if b := impl.Body(p, n, loop[1]); (len(b) > 0) != hasLoop(loops, n, loop[1]) {
					t.Errorf("%v: from %d, gate %d: %v", p, n, loop[1], b)
				}
				if b := impl.Body(p, loop[0], n); (len(b) > 0) != hasLoop(loops, loop[0], n) {
					t.Errorf("%v: from %d, gate %d: %v", p, loop[0], n, b)
				}
			}
		}
	}
	for _, c := range []struct {
		p          impl.Proc
		from, gate int64
	}{
		{winding(), 1, 4}, {winding(), 3, 4}, {winding(), 3, 1}, {winding(), 5, 1}, {winding(), 4, 0}, {winding(), 4, 4},
		{circleInCircle(), 3, 1}, {circleInCircle(), 4, 2}, {circleInCircle(), 2, 2}, {circleInCircle(), 5, 2}, {long(3), 0, 0}, {long(3), 1, 0}, {long(3), 0, 1},
		{proc(jump(2), skip(), jump(1), back()), 2, 1}, {proc(jump(2), skip(), jump(1), back()), 1, 2}, {long(1), 0, 0},
		{proc(back(), jump(1), back()), 1, 1}, {proc(back(), jump(0), back()), 1, 0},
	} {
		if b := impl.Body(c.p, c.from, c.gate); len(b) != 0 {
			t.Errorf("%v: Body of %d, %d: %v", c.p, c.from, c.gate, b)
		}
	}
}

func TestP5EverySmallProc(t *testing.T) {
	for n := 1; n <= 5; n++ {
		smallProcs(n, func(p impl.Proc) {
			checkGates(t, p)
			checkLoops(t, p)
			checkOnWays(t, p)
		})
	}
	smallProcs(6, func(p impl.Proc) { checkGates(t, p) })
}

func TestP5ManyProcs(t *testing.T) {
	d := draws(5)
	for range 6000 {
		p := d.program().Procs[0]
		for at := range len(p.Stmts) - 1 {
			switch d.below(6) {
			case 0:
				p.Stmts[at] = back()
			case 1, 2:
				p.Stmts[at] = jump(int64(d.below(len(p.Stmts))))
			}
		}
		checkGates(t, p)
		checkLoops(t, p)
		if len(p.Stmts) <= 9 {
			checkOnWays(t, p)
		}
	}
}

func TestP5WrongProcs(t *testing.T) {
	for _, p := range wrongProcs() {
		checkGatesWrong(t, p)
	}
}

// askGates calls each function of the chapter, Body of each of Loops, too, and writes over what it answers.
func askGates(p impl.Proc, n, gate int64) {
	spoilNumbers(impl.Gates(p, n))
	impl.Gate(p, n)
	for _, loop := range impl.Loops(p) {
		spoilNumbers(impl.Body(p, loop[0], loop[1]))
		spoilNumbers(loop)
	}
	spoilNumbers(impl.Body(p, n, gate))
}

func TestP21GatesArgumentsStay(t *testing.T) {
	procs := []impl.Proc{{}, long(1), long(12), long(13), winding(), turning(), circleInCircle(), twoRound(), proc(skip()), proc(jump(5), back()), proc(jump(0), back())}
	for _, p := range procs {
		for _, n := range nearAndFar(-2, 13) {
			for _, gate := range nearAndFar(-2, 13) {
				staysWhile(t, "gates", program(p), func(p impl.Program) { askGates(p.Procs[0], n, gate) })
			}
		}
	}
}

func TestP21GatesAnswersAreNewMemory(t *testing.T) {
	for _, p := range []impl.Proc{winding(), turning(), circleInCircle(), twoRound(), long(12), proc(jump(0), back())} {
		for n := range int64(len(p.Stmts)) {
			answers := append(impl.Loops(p), impl.Gates(p, n), impl.Gates(p, n))
			for _, loop := range impl.Loops(p) {
				answers = append(answers, impl.Body(p, loop[0], loop[1]))
			}
			askGates(p, n, 0)
			var lie []stretch
			for _, got := range answers {
				if slices.Contains(got, -4711) || overlap(lie, liesAt(got)) {
					t.Fatalf("%v: of %d: an answer shares memory: %v", p, n, answers)
				}
				lie = append(lie, liesAt(got)...)
			}
			for _, got := range answers {
				spoilNumbers(got)
			}
			checkGates(t, p)
			checkLoops(t, p)
		}
	}
}

func TestP21GreatGates(t *testing.T) {
	great := long(1 << 20)
	if len(impl.Loops(great)) != 0 || len(impl.Body(great, 1, 0)) != 0 {
		t.Error("a great procedure")
	}
	checkNoGates(t, great, 0)
}
