package tests

import (
	"math"
	"slices"
	"testing"

	"loop.example/g00291/impl"
)

// slowest carries a mark from one variable to the next one once a round: it takes six rounds to bring it to the last one.
func slowest() impl.Proc {
	return proc(skip(), skip(), skip(), skip(), assign(5, 4), assign(4, 3), assign(3, 2), assign(2, 1), assign(1, 0), mark(0), jump(0), back())
}

// twoCircles has a circle within a circle; a mark goes through both, again and again, until variable 0 has it.
func twoCircles() impl.Proc {
	return proc(mark(5), assign(0, 4), assign(4, 3), jump(2), assign(3, 5), jump(1), back())
}

// twoArms comes to its last statement by two ways of one size, of which the lesser clears variable 0.
func twoArms() impl.Proc {
	return proc(jump(3), wipe(0), jump(5), skip(), skip(), back())
}

// carrying needs a second round to bring the mark of variable 0 to variable 2.
func carrying() impl.Proc { return proc(mark(0), assign(2, 1), assign(1, 0), jump(1), back()) }

// cutOff has statements that nobody comes to, and that would come back to where somebody does.
func cutOff() impl.Proc { return proc(mark(0), back(), mark(1), jump(1), back()) }

// fromTheTop goes round by statement 0.
func fromTheTop() impl.Proc { return proc(assign(1, 0), mark(0), jump(0), back()) }

// ordinary are procedures of every sort, with what is Solved of each client's Start.
var ordinary = []struct {
	name        string
	p           impl.Proc
	mark, unset []int64
}{
	{"one statement", long(1), []int64{1}, []int64{127}},
	{"nothing done", long(3), []int64{1, 1, 1}, []int64{127, 127, 127}},
	{"straight", proc(mark(0), assign(3, 0), wipe(0), both(4, 3), ask(3), back()), []int64{1, 3, 19, 17, 49, 49}, []int64{127, 125, 109, 109, 109, 109}},
	{"a branch that sets", proc(jump(3), mark(1), skip(), assign(4, 1), back()), []int64{1, 1, 5, 5, 37}, []int64{127, 127, 123, 127, 127}},
	{"all branches set", proc(jump(3), mark(0), jump(4), mark(0), ask(0), back()), []int64{1, 1, 3, 3, 3, 3}, []int64{127, 127, 125, 127, 125, 125}},
	{"a loop", carrying(), []int64{1, 15, 15, 15, 15}, []int64{127, 125, 125, 121, 121}},
	{"a loop in a loop", twoCircles(), []int64{1, 115, 115, 115, 115, 115, 115}, []int64{127, 63, 63, 63, 63, 47, 47}},
	{"a jump to itself", proc(mark(1), jump(1), assign(0, 1), back()), []int64{1, 5, 5, 7}, []int64{127, 123, 123, 121}},
	{"a jump to itself at 0", proc(jump(0), back()), []int64{1, 1}, []int64{127, 127}},
	{"nobody comes", cutOff(), []int64{1, 3, 0, 0, 0}, []int64{127, 125, 0, 0, 0}},
	{"calls", proc(call(0), mark(3), call(3), assign(0, 3), back()), []int64{1, 1, 17, 17, 19}, []int64{127, 127, 111, 111, 109}},
	{"back to 0", fromTheTop(), []int64{7, 7, 7, 7}, []int64{127, 127, 125, 125}},
	{"round and round", winding(), []int64{1, 37, 37, 37, 37, 37, 37, 37, 0, 0}, []int64{127, 123, 123, 123, 91, 91, 91, 91, 0, 0}},
}

func TestP8Ordinary(t *testing.T) {
	for _, c := range ordinary {
		if got := impl.Solved(c.p, impl.ClMark, 1); !slices.Equal(got, c.mark) {
			t.Errorf("%s: ClMark: %v, want %v", c.name, got, c.mark)
		}
		if got := impl.Solved(c.p, impl.ClUnset, 127); !slices.Equal(got, c.unset) {
			t.Errorf("%s: ClUnset: %v, want %v", c.name, got, c.unset)
		}
		checkInside(t, c.p, 0, 1, 2, 3, 37, 64, 126, 127)
	}
}

func TestP8ProofsTold(t *testing.T) {
	meeting := proc(jump(2), jump(3), skip(), back())
	for _, c := range []struct {
		p                       impl.Proc
		client, start, at, fact int64
		want                    []int64
	}{
		{long(1), 1, 1, 0, 0, []int64{0}},
		{long(1), 1, 1, 0, 1, nil},
		{long(1), 2, 127, 0, 6, []int64{0}},
		{long(1), 2, 0, 0, 0, nil},
		{meeting, 1, 1, 3, 0, []int64{0, 1, 3}},
		{meeting, 2, 127, 2, 6, []int64{0, 2}},
		{twoArms(), 1, 3, 5, 0, []int64{0, 1, 2, 5}},
		{twoArms(), 1, 3, 5, 1, []int64{0, 3, 4, 5}},
		{twoArms(), 2, 127, 5, 2, []int64{0, 1, 2, 5}},
		{twoArms(), 2, 127, 5, 1, []int64{0, 3, 4, 5}},
		{carrying(), 1, 1, 4, 1, []int64{0, 1, 2, 3, 4}},
		{carrying(), 1, 1, 4, 3, []int64{0, 1, 2, 3, 1, 2, 3, 4}},
		{carrying(), 2, 127, 4, 2, nil},
		{twoCircles(), 1, 1, 6, 1, []int64{0, 1, 2, 3, 4, 5, 1, 2, 3, 4, 5, 1, 2, 3, 4, 5, 6}},
		{twoCircles(), 1, 1, 2, 5, []int64{0, 1, 2, 3, 4, 5, 1, 2, 3, 2}},
		{twoCircles(), 2, 127, 6, 4, nil},
		{cutOff(), 1, 1, 1, 1, []int64{0, 1}},
		{cutOff(), 1, 1, 2, 0, nil},
		{cutOff(), 1, 1, 1, 2, nil},
		{fromTheTop(), 1, 1, 0, 2, []int64{0, 1, 2, 0, 1, 2, 0}},
	} {
		if got := impl.Proof(c.p, c.client, c.start, c.at, c.fact); !slices.Equal(got, c.want) {
			t.Errorf("%v, client %d, start %d: Proof of %d at %d: %v, want %v", c.p, c.client, c.start, c.fact, c.at, got, c.want)
		}
	}
}

// Proofs that go round and round are far longer than Ways go.
func TestP8LongProofs(t *testing.T) {
	p := slowest()
	for fact, want := range map[int64]int{0: 12, 1: 12, 2: 23, 3: 34, 4: 45, 5: 56, 6: 67} {
		if got := impl.Proof(p, impl.ClMark, 1, 11, fact); len(got) != want {
			t.Errorf("Proof of %d: %d statements, want %d: %v", fact, len(got), want, got)
		}
	}
	if got := impl.Proof(p, impl.ClMark, 1, 4, 6); len(got) != 71 || impl.Along(p, impl.ClMark, got, 1) != 127 {
		t.Errorf("Proof of 6 at 4: %d statements: %v", len(got), got)
	}
	for _, stmts := range [][]impl.Stmt{p.Stmts, turning().Stmts, twoCircles().Stmts} {
		checkInside(t, proc(stmts...), 0, 1, 2, 3, 64, 85, 127)
	}
	for _, one := range []int64{0, 1, 2, 3, 4, 5} {
		p.Stmts[one] = jump(6)
		checkInside(t, p, 1, 127)
	}
}

// What is marked is so by fact 0 alone.
func TestP8WithoutFact0(t *testing.T) {
	p := proc(mark(0), assign(2, 1), back())
	for _, c := range []struct {
		start int64
		want  []int64
	}{{0, []int64{0, 0, 0}}, {4, []int64{4, 4, 12}}, {6, []int64{6, 4, 12}}, {7, []int64{7, 7, 15}}, {8, []int64{8, 8, 0}}, {126, []int64{126, 124, 124}}} {
		if got := impl.Solved(p, impl.ClMark, c.start); !slices.Equal(got, c.want) {
			t.Errorf("start %d: %v, want %v", c.start, got, c.want)
		}
	}
	for start := range int64(allSets) {
		checkInside(t, p, start)
	}
}

func TestP8CallsAreAsSkip(t *testing.T) {
	d := draws(80)
	for range 300 {
		calls, skips := d.stirring(), impl.Proc{}
		for at := range len(calls.Stmts) - 1 {
			if d.below(4) == 0 {
				calls.Stmts[at] = call(int64(d.below(4)))
			}
		}
		for _, s := range calls.Stmts {
			if s.Kind == impl.StCall {
				s = skip()
			}
			skips.Stmts = append(skips.Stmts, s)
		}
		way, at, fact, start := d.wandering(calls, 30), int64(d.below(len(calls.Stmts))), int64(d.below(7)), int64(d.below(allSets))
		for _, client := range bothClients {
			one, other := impl.Solved(calls, client, start), impl.Solved(skips, client, start)
			if !slices.Equal(one, other) || !impl.Covers(calls, client, start, other) {
				t.Fatalf("%v, client %d, start %d: %v, with skips %v", calls, client, start, one, other)
			}
			if one, other := impl.Along(calls, client, way, start), impl.Along(skips, client, way, start); one != other {
				t.Fatalf("%v, client %d: %d along %v: %d, with skips %d", calls, client, start, way, one, other)
			}
			if one, other := impl.Proof(calls, client, start, at, fact), impl.Proof(skips, client, start, at, fact); !slices.Equal(one, other) {
				t.Fatalf("%v, client %d, start %d: Proof of %d at %d: %v, with skips %v", calls, client, start, fact, at, one, other)
			}
		}
	}
}

func TestP8EverySmallProc(t *testing.T) {
	for n := 1; n <= 4; n++ {
		writingProcs(n, func(p impl.Proc) { checkInside(t, p, 0, 1, 5, 127) })
	}
}

func TestP8ManyProcs(t *testing.T) {
	d := draws(8)
	for range 300 {
		checkInside(t, d.program().Procs[0], 1, 127, int64(d.below(allSets)))
		checkInside(t, d.stirring(), 1, 127, int64(d.below(allSets)))
	}
	for range 1500 {
		p := d.stirring()
		for _, client := range bothClients {
			checkSolved(t, p, client, impl.Start(client))
			checkSolved(t, p, client, int64(d.below(allSets)))
			checkSolved(t, p, client, 1<<d.below(7))
		}
	}
}

// Of one way nothing is lost by asking set by set: Along goes with what every single statement does.
func TestP8AlongEverySet(t *testing.T) {
	d := draws(81)
	for range 150 {
		p := d.stirring()
		way := d.wandering(p, 1+d.below(100))
		for _, client := range bothClients {
			for start := range int64(allSets) {
				if got, want := impl.Along(p, client, way, start), becomes(p, client, way, start); got != want {
					t.Fatalf("%v, client %d: %d along %v: %d, want %d", p, client, start, way, got, want)
				}
			}
		}
	}
}

// What the last statement of a way does is not part of what start becomes.
func TestP8AheadOfTheLastStatement(t *testing.T) {
	p := proc(mark(0), wipe(0), mark(1), back())
	for size, want := range []int64{1, 3, 1, 5} {
		if got := impl.Along(p, impl.ClMark, []int64{0, 1, 2, 3}[:size+1], 1); got != want {
			t.Errorf("%d statements: %d, want %d", size+1, got, want)
		}
	}
	for start := range int64(allSets) {
		for _, client := range bothClients {
			if got := impl.Along(p, client, []int64{0}, start); got != start {
				t.Errorf("client %d: %d becomes %d at once", client, start, got)
			}
		}
	}
}

// Sets that Cover have all that Solved has; what is drawn Covers just where the tests' own word is.
func TestP8WhatCovers(t *testing.T) {
	d := draws(82)
	covers := 0
	for range 4000 {
		p, client, start := d.stirring(), int64(1+d.below(2)), int64(d.below(allSets))
		sets := make([]int64, len(p.Stmts))
		for range d.below(5) {
			sets[d.below(len(sets))] |= int64(d.below(allSets))
		}
		if d.below(4) > 0 {
			sets[0] |= start
		}
		if d.below(4) > 0 {
			sets = closed(p, client, sets)
		}
		checkCovered(t, p, client, start, sets, isCovered(p, client, start, sets))
		if !impl.Covers(p, client, start, sets) {
			continue
		}
		covers++
		for at, set := range impl.Solved(p, client, start) {
			if set&sets[at] != set {
				t.Fatalf("%v, client %d, start %d: %v Covers, but Solved has %d at %d", p, client, start, sets, set, at)
			}
		}
	}
	if covers < 1000 || covers > 3500 {
		t.Error(covers, "of 4000 Cover")
	}
}

// What is said of a statement that nobody comes to goes on from there as well.
func TestP8CoversWhereNobodyComes(t *testing.T) {
	p := proc(back(), mark(0), back())
	for _, c := range []struct {
		sets []int64
		want bool
	}{
		{[]int64{1, 0, 0}, true}, {[]int64{1, 1, 0}, false}, {[]int64{1, 1, 1}, false}, {[]int64{1, 1, 2}, false}, {[]int64{1, 1, 3}, true},
		{[]int64{1, 2, 0}, true}, {[]int64{1, 0, 2}, true}, {[]int64{127, 127, 127}, true}, {[]int64{0, 0, 0}, false}, {[]int64{126, 127, 127}, false},
	} {
		checkCovered(t, p, impl.ClMark, 1, c.sets, c.want)
	}
}

func TestP8EdgesOfTheSize(t *testing.T) {
	for n := range 15 {
		p, sets := long(n), slices.Repeat([]int64{1}, n)
		is := n >= 1 && n <= 12
		for _, client := range bothClients {
			if !is {
				checkInsideWrong(t, p, client, 1)
				continue
			}
			if got := impl.Solved(p, client, 1); !slices.Equal(got, sets) || !impl.Covers(p, client, 1, sets) {
				t.Errorf("%d statements: %v", n, got)
			}
			if got := impl.Proof(p, client, 1, int64(n)-1, 0); len(got) != n || impl.Along(p, client, got, 1) != 1 {
				t.Errorf("%d statements: %v", n, got)
			}
		}
		if is {
			checkInside(t, p, 0, 1, 127)
		}
	}
}

func TestP8EdgesOfTheWay(t *testing.T) {
	self, circle := proc(jump(0), back()), slowest()
	for _, size := range []int{0, 1, 2, 99, 100, 101, 102, 1 << 16} {
		round, longWay := make([]int64, size), make([]int64, size)
		for i := range longWay {
			longWay[i] = int64(i % 11)
		}
		for _, client := range bothClients {
			if got := impl.Along(self, client, round, 85); (got == 85) != (size >= 1 && size <= 100) || got != 85 && got != -1 {
				t.Errorf("%d statements: %d", size, got)
			}
			want := int64(-1)
			if size >= 1 && size <= 100 {
				want = becomes(circle, client, longWay, 1)
			}
			if got := impl.Along(circle, client, longWay, 1); got != want {
				t.Errorf("%d statements in a circle: %d, want %d", size, got, want)
			}
		}
	}
}

func TestP8WrongWays(t *testing.T) {
	p := winding()
	wrong := [][]int64{
		nil, {}, {1}, {1, 2}, {9}, {3, 4, 5}, {0, 0}, {0, 2}, {0, 1, 4}, {0, 1, 1}, {0, 1, 0}, {0, 1, 3, 4, 5, 7, 8}, {0, 1, 3, 4, 5, 7, 0},
		{-1}, {10}, {0, -1}, {0, 10}, {0, 1, -1}, {0, 1, 10}, {0, 1, 3, 4, 5, 7, 10}, {0, 1, 12, 3},
	}
	for _, far := range farNumbers {
		for at := range 8 {
			wrong = append(wrong, changed([]int64{0, 1, 2, 3, 4, 5, 6, 7}, at, far))
		}
	}
	for _, way := range wrong {
		for _, client := range bothClients {
			if got := impl.Along(p, client, way, 1); got != -1 {
				t.Errorf("client %d: 1 along %v: %d", client, way, got)
			}
		}
	}
}

func TestP8EdgesOfTheClient(t *testing.T) {
	for _, client := range nearAndFar(-3, 12) {
		is := client == 1 || client == 2
		for _, p := range []impl.Proc{long(1), winding(), slowest()} {
			if !is {
				checkInsideWrong(t, p, client, 1)
				checkInsideWrong(t, p, client, 127)
				continue
			}
			if len(impl.Solved(p, client, 127)) != len(p.Stmts) || impl.Along(p, client, []int64{0}, 127) != 127 {
				t.Errorf("client %d: Solved %v", client, impl.Solved(p, client, 127))
			}
		}
	}
}

func TestP8EdgesOfTheStart(t *testing.T) {
	for _, start := range nearAndFar(-130, 260) {
		is := start >= 0 && start <= 127
		for _, p := range []impl.Proc{long(1), winding()} {
			for _, client := range bothClients {
				if !is {
					checkInsideWrong(t, p, client, start)
					continue
				}
				if got := impl.Along(p, client, []int64{0}, start); got != start {
					t.Errorf("%d becomes %d", start, got)
				}
				checkSolved(t, p, client, start)
				checkCovers(t, p, client, start)
			}
		}
	}
}

func TestP8EdgesOfAtAndFact(t *testing.T) {
	for _, p := range []impl.Proc{long(1), long(5), long(12), slowest()} {
		for _, at := range nearAndFar(-3, 14) {
			for _, fact := range nearAndFar(-3, 9) {
				is := at >= 0 && at < int64(len(p.Stmts)) && fact >= 0 && fact <= 6
				if got := impl.Proof(p, impl.ClMark, 127, at, fact); (len(got) > 0) != is {
					t.Errorf("%v: Proof of %d at %d: %v", p, fact, at, got)
				}
			}
		}
	}
}

func TestP8EdgesOfTheSets(t *testing.T) {
	for _, p := range []impl.Proc{long(1), long(2), winding(), long(12)} {
		n := len(p.Stmts)
		whole := slices.Repeat([]int64{127}, n)
		for _, client := range bothClients {
			for _, size := range []int{0, n - 1, n, n + 1, 2 * n, 13, 128, 1 << 16} {
				for _, start := range []int64{0, 1, 127} {
					checkCovered(t, p, client, start, slices.Repeat([]int64{127}, size), size == n)
					checkCovered(t, p, client, start, make([]int64, size), size == n && start == 0)
				}
			}
			for at := range n {
				for _, set := range nearAndFar(-130, 260) {
					sets := changed(whole, at, set)
					want := set >= 0 && set <= 127 && isCovered(p, client, 0, sets)
					checkCovered(t, p, client, 0, sets, want)
				}
			}
		}
	}
	if !impl.Covers(long(3), impl.ClMark, 0, []int64{0, 0, 0}) || !impl.Covers(long(3), impl.ClMark, 127, []int64{127, 127, 127}) {
		t.Error("sets at both ends")
	}
}

// The spare room behind a list is no part of it.
func TestP8TheRoomBehindIsNoPart(t *testing.T) {
	for _, c := range ordinary {
		p := roomy(program(c.p)).Procs[0]
		sets, way := roomyNumbers(c.mark), roomyNumbers([]int64{0})
		if !impl.Covers(p, impl.ClMark, 1, sets) || impl.Along(p, impl.ClMark, way, 1) != 1 || !slices.Equal(impl.Solved(p, impl.ClMark, 1), c.mark) {
			t.Errorf("%s, with room behind", c.name)
		}
	}
}

func TestP8WrongProcs(t *testing.T) {
	for _, p := range append(wrongProcs(), long(1<<16)) {
		for _, client := range nearAndFar(0, 3) {
			checkInsideWrong(t, p, client, 1)
			checkInsideWrong(t, p, client, 127)
		}
	}
}

// Each field of each statement alone is made each number.
func TestP8WrongInOneField(t *testing.T) {
	right := proc(mark(1), assign(0, 2), both(3, 4), wipe(5), ask(1), jump(8), call(3), skip(), jump(0), back())
	wrong := 0
	for at := range right.Stmts {
		for _, number := range nearAndFar(-2, 14) {
			for field := range 3 {
				p := proc(slices.Clone(right.Stmts)...)
				*[]*int64{&p.Stmts[at].Kind, &p.Stmts[at].X, &p.Stmts[at].Y}[field] = number
				if isProc(p) {
					checkSolved(t, p, impl.ClMark, 1)
					continue
				}
				wrong++
				checkInsideWrong(t, p, impl.ClMark, 1)
				checkInsideWrong(t, p, impl.ClUnset, 127)
			}
		}
	}
	if wrong < 500 {
		t.Error("only", wrong, "wrong ones")
	}
}

// insideAnswers are the lists that the chapter tells, each asked for twice.
func insideAnswers(p impl.Proc, client, start int64) [][]int64 {
	var answers [][]int64
	for range 2 {
		answers = append(answers, impl.Solved(p, client, start))
		for at := range p.Stmts {
			for fact := range int64(7) {
				answers = append(answers, impl.Proof(p, client, start, int64(at), fact))
			}
		}
	}
	return answers
}

func TestP21InsideAnswersAreNewMemory(t *testing.T) {
	for _, c := range ordinary {
		for _, client := range bothClients {
			answers := insideAnswers(c.p, client, impl.Start(client))
			var lie []stretch
			var want [][]int64
			for i, got := range answers {
				if overlap(lie, liesAt(got)) {
					t.Fatalf("%s, client %d: answer %d shares memory: %v", c.name, client, i, got)
				}
				lie = append(lie, liesAt(got)...)
				want = append(want, slices.Clone(got))
			}
			for _, got := range answers {
				spoilNumbers(got)
			}
			if again := insideAnswers(c.p, client, impl.Start(client)); !sameLists(again, want) {
				t.Fatalf("%s, client %d: %v, once written over %v", c.name, client, want, again)
			}
		}
	}
}

// askInside calls each function of the chapter, and writes over what it answers.
func askInside(p impl.Proc, client, start int64, numbers []int64) {
	for range 2 {
		impl.Along(p, client, numbers, start)
		impl.Covers(p, client, start, numbers)
		spoilNumbers(impl.Solved(p, client, start))
		for at := int64(-1); at <= int64(min(len(p.Stmts), 13)); at++ {
			for fact := int64(-1); fact <= 7; fact++ {
				spoilNumbers(impl.Proof(p, client, start, at, fact))
			}
		}
	}
}

func TestP21InsideArgumentsStay(t *testing.T) {
	procs := append(wrongProcs(), long(1), long(12), winding(), turning(), twoCircles(), slowest(), twoArms())
	for _, p := range procs {
		lists := [][]int64{
			nil, {0}, {0, 1}, {0, 1, 2}, {1}, {0, -1}, {0, math.MaxInt64}, make([]int64, 101),
			slices.Repeat([]int64{127}, len(p.Stmts)), slices.Repeat([]int64{128}, len(p.Stmts)), make([]int64, len(p.Stmts)+1),
		}
		for _, list := range lists {
			numbers := roomyNumbers(list)
			before := slices.Clone(numbers[:cap(numbers)])
			for _, two := range [][2]int64{{1, 1}, {2, 127}, {0, 1}, {1, 128}, {math.MinInt64, math.MaxInt64}, {math.MaxInt64, math.MinInt64}} {
				staysWhile(t, "inside", program(p), func(p impl.Program) { askInside(p.Procs[0], two[0], two[1], numbers) })
			}
			if !slices.Equal(numbers[:cap(numbers)], before) {
				t.Fatalf("%v: %v was changed to %v", p, before, numbers[:cap(numbers)])
			}
		}
	}
}

func TestP21EndsOfInt64Inside(t *testing.T) {
	ends := []int64{math.MinInt64, math.MaxInt64}
	for _, p := range []impl.Proc{{}, long(1), slowest()} {
		for _, a := range ends {
			for _, b := range ends {
				checkInsideWrong(t, p, a, b)
				checkNoProof(t, p, a, b, a, b)
				checkNoProof(t, p, impl.ClMark, 127, a, b)
				checkCovered(t, p, impl.ClMark, 0, slices.Repeat([]int64{a}, len(p.Stmts)), false)
				if got := impl.Along(p, impl.ClMark, []int64{a, b}, 1); got != -1 {
					t.Errorf("along %d, %d: %d", a, b, got)
				}
			}
		}
	}
}

func TestP21GreatInside(t *testing.T) {
	great := make([]int64, 1<<20)
	checkInsideWrong(t, long(1<<20), impl.ClMark, 1)
	for _, p := range []impl.Proc{proc(jump(0), back()), turning(), {}} {
		if impl.Along(p, impl.ClMark, great, 1) != -1 || impl.Covers(p, impl.ClMark, 0, great) {
			t.Error("a great list")
		}
	}
}
