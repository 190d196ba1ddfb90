package tests

import (
	"fmt"
	"math"
	"runtime"
	"slices"
	"strings"
	"testing"

	"loop.example/g00291/impl"
)

func TestP17NewQueue(t *testing.T) {
	q := impl.NewQueue()
	if !impl.QueueOk(q) || impl.Length(q) != 0 || len(q.Lines) != 8 || q.Turn != 0 {
		t.Fatalf("%v: QueueOk %v, Length %d", q, impl.QueueOk(q), impl.Length(q))
	}
	for session, line := range q.Lines {
		if len(line) != 0 {
			t.Errorf("Line %d is %v", session, line)
		}
	}
	if got, session, n := impl.Served(q); session != -1 || n != 0 || !sameQueue(got, queue(0, nil)) {
		t.Errorf("Served %v, %d, %d", got, session, n)
	}
	checkRightQueue(t, q)
}

func TestP17Came(t *testing.T) {
	five := []int64{5, 4, 3, 2, 1}
	for _, c := range []struct {
		q          impl.Queue
		session, n int64
		want       impl.Queue
		is         bool
	}{
		{queue(0, nil), 0, 1, queue(0, lines{0: {1}}), true}, {queue(0, nil), 7, 1000000, queue(0, lines{7: {1000000}}), true}, {queue(7, nil), 0, 9, queue(7, lines{0: {9}}), true}, {queue(3, nil), 3, 3, queue(3, lines{3: {3}}), true},
		{queue(4, lines{2: {8}}), 2, 1, queue(4, lines{2: {8, 1}}), true}, {queue(4, lines{2: {1}}), 2, 8, queue(4, lines{2: {1, 8}}), true}, {queue(4, lines{2: {1}}), 1, 8, queue(4, lines{1: {8}, 2: {1}}), true}, {queue(4, lines{2: {1}}), 3, 8, queue(4, lines{2: {1}, 3: {8}}), true}, {queue(0, lines{2: {7, 7}}), 2, 7, queue(0, lines{2: {7, 7, 7}}), true}, {queue(1, lines{6: {7}}), 2, 7, queue(1, lines{2: {7}, 6: {7}}), true},
		// Up to MaxLine, and no more.
		{queue(0, lines{5: {5, 4, 3, 2}}), 5, 1, queue(0, lines{5: five}), true}, {queue(0, lines{5: five}), 5, 1, queue(0, lines{5: five}), false}, {queue(5, lines{5: five}), 5, 6, queue(5, lines{5: five}), false}, {queue(0, lines{5: five}), 4, 1, queue(0, lines{4: {1}, 5: five}), true}, {queue(0, lines{5: five}), 6, 1, queue(0, lines{5: five, 6: {1}}), true},
		// Out of range.
		{queue(2, lines{1: {2}}), -1, 1, queue(2, lines{1: {2}}), false}, {queue(2, lines{1: {2}}), 8, 1, queue(2, lines{1: {2}}), false}, {queue(2, lines{1: {2}}), 1, 0, queue(2, lines{1: {2}}), false}, {queue(2, lines{1: {2}}), 1, 1000001, queue(2, lines{1: {2}}), false}, {queue(2, lines{1: {2}}), 1, -1, queue(2, lines{1: {2}}), false}, {queue(2, lines{0: five}), 0, 0, queue(2, lines{0: five}), false}, {queue(2, nil), 8, 0, queue(2, nil), false},
	} {
		got, is := impl.Came(c.q, c.session, c.n)
		if is != c.is || !sameQueue(got, c.want) {
			t.Errorf("%v: Came %d, %d: %v, %v; want %v, %v", c.q, c.session, c.n, got, is, c.want, c.is)
		}
		arrivalsOf(c.q).checkCame(t, c.q, c.session, c.n)
		arrivalsOf(c.q).checkCame(t, roomyQueue(c.q), c.session, c.n)
		checkRightQueue(t, got)
	}
}

func TestP17Served(t *testing.T) {
	for _, c := range []struct {
		q          impl.Queue
		session, n int64
		want       impl.Queue
	}{
		{queue(0, lines{0: {1}}), 0, 1, queue(1, nil)}, {queue(7, lines{7: {1000000}}), 7, 1000000, queue(0, nil)}, {queue(0, lines{7: {4}}), 7, 4, queue(0, nil)}, {queue(7, lines{0: {4}}), 0, 4, queue(1, nil)}, {queue(3, lines{2: {4}}), 2, 4, queue(3, nil)}, {queue(3, lines{4: {4}}), 4, 4, queue(5, nil)}, {queue(1, lines{6: {4}}), 6, 4, queue(7, nil)}, {queue(6, lines{6: {4}}), 6, 4, queue(7, nil)},
		// The first one of the Line goes, and no other.
		{queue(0, lines{0: {9, 1}}), 0, 9, queue(1, lines{0: {1}})}, {queue(2, lines{2: {1, 9, 1}}), 2, 1, queue(3, lines{2: {9, 1}})}, {queue(5, lines{4: {3, 5, 1, 4, 2}}), 4, 3, queue(5, lines{4: {5, 1, 4, 2}})}, {queue(0, lines{3: {6, 6, 6}}), 3, 6, queue(4, lines{3: {6, 6}})},
		// Of some the first from Turn on.
		{queue(0, lines{1: {11}, 4: {44}, 6: {66}}), 1, 11, queue(2, lines{4: {44}, 6: {66}})}, {queue(1, lines{1: {11}, 4: {44}, 6: {66}}), 1, 11, queue(2, lines{4: {44}, 6: {66}})}, {queue(2, lines{1: {11}, 4: {44}, 6: {66}}), 4, 44, queue(5, lines{1: {11}, 6: {66}})}, {queue(4, lines{1: {11}, 4: {44}, 6: {66}}), 4, 44, queue(5, lines{1: {11}, 6: {66}})}, {queue(5, lines{1: {11}, 4: {44}, 6: {66}}), 6, 66, queue(7, lines{1: {11}, 4: {44}})}, {queue(7, lines{1: {11}, 4: {44}, 6: {66}}), 1, 11, queue(2, lines{4: {44}, 6: {66}})},
		{queue(7, lines{0: {1, 2}, 7: {3, 4}}), 7, 3, queue(0, lines{0: {1, 2}, 7: {4}})}, {queue(0, lines{0: {1, 2}, 7: {3, 4}}), 0, 1, queue(1, lines{0: {2}, 7: {3, 4}})}, {queue(1, lines{0: {1, 2}, 7: {3, 4}}), 7, 3, queue(0, lines{0: {1, 2}, 7: {4}})},
		// None waits.
		{queue(0, nil), -1, 0, queue(0, nil)}, {queue(5, nil), -1, 0, queue(5, nil)}, {queue(7, lines{3: {}}), -1, 0, queue(7, nil)},
	} {
		got, session, n := impl.Served(c.q)
		if session != c.session || n != c.n || !sameQueue(got, c.want) {
			t.Errorf("%v: Served %v, %d, %d; want %v, %d, %d", c.q, got, session, n, c.want, c.session, c.n)
		}
		arrivalsOf(c.q).checkServed(t, c.q)
		arrivalsOf(c.q).checkServed(t, roomyQueue(c.q))
		checkRightQueue(t, got)
	}
}

// shownRow tells who was Served, and what.
func shownRow(told []arrival) string {
	var words []string
	for _, one := range told {
		words = append(words, fmt.Sprintf("%d.%d", one.session, one.n))
	}
	return strings.Join(words, " ")
}

func TestP17TheOrderByHand(t *testing.T) {
	for _, c := range []struct {
		q    impl.Queue
		want string
	}{
		{queue(0, nil), ""}, {queue(0, lines{5: {1, 2, 3}, 2: {9}, 6: {4}}), "2.9 5.1 6.4 5.2 5.3"}, {queue(6, lines{5: {1, 2, 3}, 2: {9}, 6: {4}}), "6.4 2.9 5.1 5.2 5.3"}, {queue(3, lines{5: {1, 2, 3}, 2: {9, 8}, 6: {4}}), "5.1 6.4 2.9 5.2 2.8 5.3"},
		{queue(0, lines{0: {1, 2, 3, 4, 5}}), "0.1 0.2 0.3 0.4 0.5"}, {queue(4, lines{3: {5, 4, 3, 2, 1}}), "3.5 3.4 3.3 3.2 3.1"}, {queue(1, lines{0: {1, 2, 3, 4, 5}, 7: {8}}), "7.8 0.1 0.2 0.3 0.4 0.5"}, {queue(0, lines{0: {1, 2, 3, 4, 5}, 7: {8, 9}}), "0.1 7.8 0.2 7.9 0.3 0.4 0.5"},
		{queue(4, lines{0: {1, 2}, 1: {3}, 2: {4, 5, 6}, 7: {7, 8, 9, 10}}), "7.7 0.1 1.3 2.4 7.8 0.2 2.5 7.9 2.6 7.10"}, {queue(2, lines{0: {1}, 1: {1}, 2: {1}, 3: {1}, 4: {1}, 5: {1}, 6: {1}, 7: {1}}), "2.1 3.1 4.1 5.1 6.1 7.1 0.1 1.1"},
	} {
		if got := shownRow(checkEmptied(t, c.q)); got != c.want {
			t.Errorf("%v: %s, want %s", c.q, got, c.want)
		}
		if got := shownRow(checkEmptied(t, roomyQueue(c.q))); got != c.want {
			t.Errorf("%v: %s, want %s", c.q, got, c.want)
		}
	}
}

// Came to each session, from an empty Line up to a full one, and once more.
func TestP17CameUpToMaxLine(t *testing.T) {
	if impl.MaxLine != 5 {
		t.Error("MaxLine is", impl.MaxLine)
	}
	for turn := range int64(8) {
		q := queue(turn, nil)
		a := arrivalsOf(q)
		for session := range int64(8) {
			for i := range int64(5) {
				q = a.checkCame(t, q, session, 100*session+10-i)
				if got := impl.Length(q); got != 5*session+i+1 || int64(len(q.Lines[session])) != i+1 || q.Lines[session][i] != 100*session+10-i {
					t.Fatalf("%v: Length %d", q, got)
				}
			}
			for range 2 {
				if got, is := impl.Came(q, session, 1); is || !sameQueue(got, q) {
					t.Fatalf("%v: Came %d, 1: %v, %v", q, session, got, is)
				}
				q = a.checkCame(t, q, session, 1)
			}
		}
		if impl.Length(q) != 40 || q.Turn != turn {
			t.Errorf("%v: Length %d", q, impl.Length(q))
		}
	}
}

// A full Line has room again once it was Served, but not once another one was.
func TestP17RoomOnceServed(t *testing.T) {
	for session := range int64(8) {
		other := (session + 3) % 8
		q := queue(session, lines{session: {1, 2, 3, 4, 5}, other: {6, 7, 8, 9, 10}})
		a := arrivalsOf(q)
		q, _, _ = a.checkServed(t, q)
		checkNotCome(t, q, other, 11)
		q = a.checkCame(t, q, session, 11)
		checkNotCome(t, q, session, 12)
		if !slices.Equal(q.Lines[session], []int64{2, 3, 4, 5, 11}) {
			t.Error(q)
		}
		q, _, _ = a.checkServed(t, q)
		checkNotCome(t, q, session, 12)
		q = a.checkCame(t, q, other, 12)
		if !slices.Equal(q.Lines[other], []int64{7, 8, 9, 10, 12}) || impl.Length(q) != 10 {
			t.Error(q)
		}
	}
}

// From each Turn on, with each choice of sessions that have a Line.
func TestP17EachTurnAndEachChoice(t *testing.T) {
	for mask := range 256 {
		for turn := range int64(8) {
			q := chosen(turn, mask)
			first := int64(-1)
			for i := int64(7); i >= 0; i-- {
				if mask>>((turn+i)%8)&1 == 1 {
					first = (turn + i) % 8
				}
			}
			got, session, n := impl.Served(q)
			if session != first || first == -1 && n != 0 || first != -1 && (n != 1000*(first+1) || got.Turn != (first+1)%8) {
				t.Fatalf("%v: Served %v, %d, %d; want %d", q, got, session, n, first)
			}
			told := checkEmptied(t, q)
			// In the first round each that has a Line is Served, and none twice.
			var round []int64
			for i := range int64(8) {
				if at := (turn + i) % 8; mask>>at&1 == 1 {
					round = append(round, at)
				}
			}
			for i, at := range round {
				if told[i].session != at || told[i].n != 1000*(at+1) {
					t.Fatalf("%v: %s", q, shownRow(told))
				}
			}
		}
	}
}

// All Lines are full: round and round, over the last session to the first one.
func TestP17RoundAndRound(t *testing.T) {
	for turn := range int64(8) {
		q := queue(turn, nil)
		for session := range q.Lines {
			for i := range 5 {
				q.Lines[session] = append(q.Lines[session], int64(10*session+i+1))
			}
		}
		if impl.Length(q) != 40 {
			t.Fatal(impl.Length(q))
		}
		for i, one := range checkEmptied(t, q) {
			if want := (turn + int64(i)) % 8; one.session != want || one.n != 10*want+int64(i/8)+1 {
				t.Errorf("Turn %d: number %d is %v", turn, i, one)
			}
		}
	}
}

// One who asks much has a full Line at all times; each other one that has a Line is Served between two of it.
func TestP17NobodyWaitsBehindOneWhoAsksMuch(t *testing.T) {
	for much := range int64(8) {
		for mask := range 256 {
			q := chosen(much, mask)
			q.Lines[much] = []int64{1, 2, 3, 4, 5}
			a, w := arrivalsOf(q), &turnsWatch{}
			waited := [8]int{}
			for i := range int64(30) {
				got, session, _ := a.checkServed(t, q)
				w.saw(t, session, got)
				for other, line := range q.Lines {
					if waited[other]++; len(line) == 0 || int64(other) == session {
						waited[other] = 0
					}
					if waited[other] > 7 {
						t.Fatalf("%v: session %d waited behind 8", q, other)
					}
				}
				q = got
				if session == much {
					q = a.checkCame(t, q, much, 6+i)
				}
			}
		}
	}
}

// Every script of seven steps: one comes to one of three sessions, or one is Served.
func TestP17EveryScript(t *testing.T) {
	var goOn func(q impl.Queue, a *arrivals, w turnsWatch, left int)
	goOn = func(q impl.Queue, a *arrivals, w turnsWatch, left int) {
		if left == 0 {
			return
		}
		for _, session := range []int64{0, 3, 7} {
			came := a.copied()
			goOn(came.checkCame(t, q, session, int64(left)), came, w, left-1)
		}
		served := a.copied()
		got, session, _ := served.checkServed(t, q)
		if session != -1 {
			w.saw(t, session, got)
		}
		goOn(got, served, w, left-1)
	}
	for _, turn := range []int64{0, 3, 4, 7} {
		goOn(queue(turn, nil), arrivalsOf(queue(turn, nil)), turnsWatch{}, 7)
	}
}

// Drawn scripts, in which more come than are Served, or fewer; some are out of range.
func TestP17DrawnScripts(t *testing.T) {
	d := draws(171)
	full, none := 0, 0
	for script := range 200 {
		q := someQueues()[script%len(someQueues())]
		a, w := arrivalsOf(q), &turnsWatch{}
		many, among := 1+d.below(9), 1+d.below(8)
		for range 150 {
			if d.below(10) < many {
				session, n := int64(d.below(among)), int64(1+d.below(1000000))
				switch d.below(20) {
				case 0:
					session = nearAndFar(-3, 11)[d.below(20)]
				case 1:
					n = []int64{0, 1, -1, 1000000, 1000001, math.MinInt64, math.MaxInt64}[d.below(7)]
				}
				got := a.checkCame(t, q, session, n)
				if session >= 0 && session < 8 && len(q.Lines[session]) == 5 {
					full++
				}
				q = got
				continue
			}
			got, session, _ := a.checkServed(t, q)
			if session == -1 {
				none++
			} else {
				w.saw(t, session, got)
			}
			q = got
		}
		checkEmptied(t, q)
	}
	if full < 1000 || none < 1000 {
		t.Error("a full Line", full, "times, none with a Line", none, "times")
	}
}

// What comes to one session goes in the order in which it came, and all of it once, whatever comes to others.
func TestP17AllThatCameAreServedOnce(t *testing.T) {
	d := draws(172)
	for range 50 {
		q := impl.NewQueue()
		var came, gone [8][]int64
		for i := range int64(200) {
			session := int64(d.below(8))
			if got, is := impl.Came(q, session, i+1); is {
				came[session] = append(came[session], i+1)
				q = got
			}
			if d.below(3) > 0 {
				got, session, n := impl.Served(q)
				if session >= 0 {
					gone[session] = append(gone[session], n)
				}
				q = got
			}
		}
		for range impl.Length(q) {
			got, session, n := impl.Served(q)
			gone[session] = append(gone[session], n)
			q = got
		}
		if !sameLists(came[:], gone[:]) || impl.Length(q) != 0 {
			t.Fatalf("%v came, %v were Served", came, gone)
		}
	}
}

func TestP17LengthOfEachSize(t *testing.T) {
	for session := range 8 {
		for size := range 6 {
			q := queue(0, nil)
			q.Lines[session] = slices.Repeat([]int64{3}, size)
			q.Lines[(session+1)%8] = []int64{1}
			if got := impl.Length(q); got != int64(size+1) {
				t.Errorf("%v: Length %d", q, got)
			}
		}
	}
	for _, c := range []struct {
		q    impl.Queue
		want int64
	}{{queue(0, nil), 0}, {queue(7, lines{0: {1000000}}), 1}, {queue(5, lines{1: {9, 9}, 5: {9}, 6: {9, 9, 9}}), 6}, {queue(0, lines{0: {1, 2, 3, 4, 5}, 7: {1, 2, 3, 4, 5}}), 10}, {someQueues()[13], 40}} {
		if got := impl.Length(c.q); got != c.want {
			t.Errorf("%v: Length %d, want %d", c.q, got, c.want)
		}
	}
}

// 8 Lines, and no other number of them.
func TestP17EdgesOfLines(t *testing.T) {
	for size := range 25 {
		for _, line := range [][]int64{nil, {}, {1}, {1, 2, 3, 4, 5}} {
			for _, turn := range []int64{0, 6, 7, int64(size) - 1, int64(size)} {
				q := impl.Queue{Turn: turn}
				for range size {
					q.Lines = append(q.Lines, slices.Clone(line))
				}
				checkEitherQueue(t, "how many Lines", q, size == 8 && turn < 8)
			}
		}
	}
	for _, q := range someQueues() {
		checkNoQueue(t, "7 Lines", impl.Queue{Turn: q.Turn, Lines: q.Lines[:7]})
		checkNoQueue(t, "7 Lines", impl.Queue{Turn: q.Turn, Lines: q.Lines[1:]})
		checkNoQueue(t, "9 Lines", impl.Queue{Turn: q.Turn, Lines: append(slices.Clone(q.Lines), nil)})
		checkNoQueue(t, "9 Lines", impl.Queue{Turn: q.Turn, Lines: append(slices.Clone(q.Lines), []int64{1})})
		checkNoQueue(t, "no Lines", impl.Queue{Turn: q.Turn})
		checkNoQueue(t, "no Lines", impl.Queue{Turn: q.Turn, Lines: [][]int64{}})
	}
}

// A Line of 5, and of more, at each session, whatever the others are.
func TestP17EdgesOfOneLine(t *testing.T) {
	for _, q := range someQueues() {
		everyLine(q, func(copied impl.Queue, line *[]int64) {
			for size := range 12 {
				*line = slices.Repeat([]int64{7}, size)
				checkEitherQueue(t, "one Line", copied, size <= 5)
			}
			for size := range 7 {
				*line = []int64{9, 8, 7, 6, 5, 4}[:size]
				checkEitherQueue(t, "one Line", copied, size <= 5)
			}
		})
	}
}

// numbersAtEdges are near those of a Line, and far.
func numbersAtEdges() []int64 {
	return append(nearAndFar(-2, 3), 999998, 999999, 1000000, 1000001, 1000002, -1000000, 1000000+1<<32, 1<<32+1000001)
}

// Each number of each Line alone.
func TestP17EdgesOfOneNumber(t *testing.T) {
	wrong := 0
	for _, q := range someQueues() {
		everyLine(q, func(copied impl.Queue, line *[]int64) {
			for at := range *line {
				was := (*line)[at]
				for _, n := range numbersAtEdges() {
					(*line)[at] = n
					is := n >= 1 && n <= 1000000
					checkEitherQueue(t, "one number", copied, is)
					if !is {
						wrong++
					}
				}
				(*line)[at] = was
			}
		})
	}
	if wrong < 1000 {
		t.Error("only", wrong, "wrong ones")
	}
}

func TestP17EdgesOfTurn(t *testing.T) {
	for _, q := range someQueues() {
		for _, turn := range nearAndFar(-9, 17) {
			q.Turn = turn
			checkEitherQueue(t, "Turn", q, turn >= 0 && turn <= 7)
		}
	}
}

// Each session and each number that comes, at its edges and beyond: as it is and false where one is out of range.
func TestP17EdgesOfWhatComes(t *testing.T) {
	for _, q := range someQueues() {
		for _, session := range nearAndFar(-9, 17) {
			for _, n := range numbersAtEdges() {
				got := arrivalsOf(q).checkCame(t, q, session, n)
				inRange := session >= 0 && session <= 7 && n >= 1 && n <= 1000000
				if want := inRange && len(q.Lines[session]) < 5; want == sameQueue(got, q) {
					t.Fatalf("%v: Came %d, %d: %v", q, session, n, got)
				}
				if !inRange {
					checkNotCome(t, q, session, n)
				}
			}
		}
	}
}

func TestP17AFullLine(t *testing.T) {
	for session := range int64(8) {
		for turn := range int64(8) {
			for mask := range 256 {
				q := chosen(turn, mask)
				q.Lines[session] = []int64{1000000, 1, 1000000, 1, 2}
				for _, n := range []int64{1, 1000000, 0, 1000001} {
					checkNotCome(t, q, session, n)
				}
				if mask%16 == 0 {
					q.Lines[session] = q.Lines[session][:4]
					arrivalsOf(q).checkCame(t, q, session, 1)
				}
			}
		}
	}
}

// Not right in two of its parts, or in all.
func TestP17NotRightInMore(t *testing.T) {
	long, wrong := []int64{1, 2, 3, 4, 5, 6}, []int64{1, 0}
	for _, q := range someQueues() {
		everyLine(q, func(copied impl.Queue, line *[]int64) {
			*line = long
			copied.Turn = 8
			checkNoQueue(t, "a Line and Turn", copied)
			copied.Lines = copied.Lines[:7]
			checkNoQueue(t, "Lines and Turn", copied)
		})
		everyLine(q, func(copied impl.Queue, line *[]int64) {
			*line = wrong
			copied.Turn = -1
			checkNoQueue(t, "a number and Turn", copied)
			copied.Turn = 0
			checkNoQueue(t, "a number", copied)
			copied.Lines = append(copied.Lines, nil)
			checkNoQueue(t, "a number and Lines", copied)
		})
	}
	checkNoQueue(t, "all", impl.Queue{Turn: 9, Lines: slices.Repeat([][]int64{{0, 0, 0, 0, 0, 0, 0}}, 9)})
	for _, line := range [][]int64{{0, 0, 0, 0, 0, 0}, {1000001, 2, 3, 4, 5, 6}, slices.Repeat([]int64{math.MinInt64}, 6)} {
		checkNoQueue(t, "a long Line of wrong numbers", impl.Queue{Lines: slices.Repeat([][]int64{line}, 8)})
	}
}

func TestP17TheZeroQueue(t *testing.T) {
	checkNoQueue(t, "the zero Queue", impl.Queue{})
	checkNoQueue(t, "the zero Queue", impl.Queue{Lines: [][]int64{}})
	checkNoQueue(t, "the zero Queue with room", roomyQueue(impl.Queue{}))
	// What is told of no Queue is none, either.
	got, _ := impl.Came(impl.Queue{Turn: 8}, 0, 1)
	checkNoQueue(t, "what Came tells", got)
	got, _, _ = impl.Served(impl.Queue{Turn: 8})
	checkNoQueue(t, "what Served tells", got)
}

// Numbers need not be unlike: not in a Line, and not of two.
func TestP17OneNumberMoreThanOnce(t *testing.T) {
	for turn := range int64(8) {
		q := queue(turn, nil)
		a := arrivalsOf(q)
		for i := range int64(40) {
			q = a.checkCame(t, q, i%8, 4)
		}
		for i, one := range checkEmptied(t, q) {
			if one.n != 4 || one.session != (turn+int64(i))%8 {
				t.Errorf("number %d is %v", i, one)
			}
		}
	}
}

// The spare room behind each list is no part of a Queue, and neither is what lies ahead of one; nil is an empty Line.
func TestP17TheRoomBehindIsNoPart(t *testing.T) {
	for _, q := range someQueues() {
		checkRightQueue(t, q)
		checkRightQueue(t, roomyQueue(q))
	}
	row := []int64{0, 1, 2, 3, 4, 5, 0, 1000001}
	many := slices.Repeat([][]int64{row[1:6], row[1:1], nil, row[2:4], {}}, 3)
	for from := range 8 {
		checkRightQueue(t, impl.Queue{Turn: int64(from), Lines: many[from : from+8]})
	}
}

// queueAnswers are what the chapter tells of a Queue, each asked for twice.
func queueAnswers(q impl.Queue) []impl.Queue {
	var told []impl.Queue
	for range 2 {
		for session := int64(-1); session <= 8; session++ {
			for _, n := range []int64{0, 1, 1000000, 1000001} {
				got, _ := impl.Came(q, session, n)
				told = append(told, got)
			}
		}
		got, _, _ := impl.Served(q)
		told = append(told, got, impl.NewQueue())
	}
	return told
}

func checkQueueMemory(t *testing.T, q impl.Queue, given []stretch) {
	t.Helper()
	shown := fmt.Sprint(q)
	told := queueAnswers(q)
	lie := slices.Clone(given)
	for _, got := range told {
		lie = append(lie, queueLies(got)...)
	}
	checkManyApart(t, shown, lie)
	want := fmt.Sprint(told)
	for _, got := range told {
		spoilLists(got.Lines)
	}
	if again := fmt.Sprint(queueAnswers(q)); again != want || fmt.Sprint(q) != shown {
		t.Fatalf("%s is %v: %.900s, once written over %.900s", shown, q, want, again)
	}
	runtime.KeepAlive(q)
	runtime.KeepAlive(told)
}

func TestP21QueueAnswersAreNewMemory(t *testing.T) {
	queues := append(someQueues(), impl.Queue{}, impl.Queue{Lines: make([][]int64, 7)}, queue(8, nil), queue(-1, lines{0: {1, 2}}), queue(0, lines{3: {1, 2, 3, 4, 5, 6}}), queue(0, lines{7: {0}}))
	for mask := range 256 {
		queues = append(queues, chosen(int64(mask%8), mask))
	}
	for _, q := range queues {
		for _, given := range []impl.Queue{roomyQueue(q), {Turn: q.Turn, Lines: slices.Clip(roomyQueue(q).Lines)}, queueOfClipped(q)} {
			checkQueueMemory(t, given, queueLies(given))
		}
	}
}

// queueOfClipped is a copy of which no Line has room behind it.
func queueOfClipped(q impl.Queue) impl.Queue {
	copied := roomyQueue(q)
	for i, line := range copied.Lines {
		copied.Lines[i] = slices.Clip(line)
	}
	return copied
}

// What is given may share memory with itself; what is told of it does not.
func TestP21QueuesThatShareMemory(t *testing.T) {
	row := roomyNumbers([]int64{11, 12, 13, 14, 15, 16, 17, 18, 19, 20})
	for size := range 6 {
		for turn := range int64(8) {
			same, next := impl.Queue{Turn: turn}, impl.Queue{Turn: turn}
			for i := range 8 {
				same.Lines = append(same.Lines, row[:size])
				next.Lines = append(next.Lines, row[i%5:i%5+size])
			}
			for _, q := range []impl.Queue{same, next} {
				checkQueueMemory(t, q, slices.Concat(liesAt(q.Lines), liesAt(row)))
				checkRightQueue(t, q)
			}
		}
	}
	if !slices.Equal(row, []int64{11, 12, 13, 14, 15, 16, 17, 18, 19, 20}) {
		t.Errorf("it was changed to %v", row)
	}
}

// An answer is not written when one goes on from it, twice.
func TestP21QueuesThatWereToldStay(t *testing.T) {
	for _, q := range someQueues() {
		var told []impl.Queue
		var shown []string
		keep := func(got impl.Queue) {
			told, shown = append(told, got), append(shown, fmt.Sprint(got))
		}
		keep(q)
		for i := range int64(60) {
			from := told[len(told)-1]
			for session := range int64(8) {
				got, _ := impl.Came(from, session, 1+i)
				keep(got)
				other, _ := impl.Came(from, session, 1000+i)
				keep(other)
			}
			got, _, _ := impl.Served(told[len(told)-3])
			keep(got)
			got, _, _ = impl.Served(got)
			keep(got)
		}
		for i, got := range told {
			if fmt.Sprint(got) != shown[i] {
				t.Fatalf("%s was changed to %v", shown[i], got)
			}
		}
	}
}

// askQueue calls each function of the chapter twice, and writes over what it answers.
func askQueue(q impl.Queue) {
	for range 2 {
		impl.QueueOk(q)
		impl.Length(q)
		for session := int64(-1); session <= 8; session++ {
			for _, n := range []int64{0, 1, 1000000, 1000001, math.MinInt64, math.MaxInt64} {
				got, _ := impl.Came(q, session, n)
				spoilLists(got.Lines)
			}
		}
		got, _, _ := impl.Served(q)
		spoilLists(got.Lines)
		spoilLists(impl.NewQueue().Lines)
	}
}

func TestP21QueueArgumentsStay(t *testing.T) {
	queues := append(someQueues(), impl.Queue{}, queue(8, lines{0: {1}}), queue(-1, lines{7: {1, 2}}), impl.Queue{Lines: [][]int64{{1}, {2}}}, impl.Queue{Lines: slices.Repeat([][]int64{{1, 2}}, 9)}, queue(0, lines{0: {1, 2, 3, 4, 5, 6}}), queue(0, lines{4: {1, 0}}), queue(0, lines{4: {1000001}}))
	for mask := range 256 {
		queues = append(queues, chosen(int64(mask%8), mask))
	}
	for _, q := range queues {
		tablesStayWhile(t, q.Lines, func(given [][]int64) { askQueue(impl.Queue{Turn: q.Turn, Lines: given}) })
	}
}

func TestP21EndsOfInt64Queues(t *testing.T) {
	for _, end := range []int64{math.MinInt64, math.MinInt64 + 1, math.MaxInt64 - 1, math.MaxInt64} {
		for _, q := range someQueues() {
			for _, other := range []int64{1, 7, 0, 8, -1, end} {
				checkNotCome(t, q, end, other)
				checkNotCome(t, q, other, end)
			}
			wrong := roomyQueue(q)
			wrong.Turn = end
			checkNoQueue(t, "an end as Turn", wrong)
			everyLine(q, func(copied impl.Queue, line *[]int64) {
				*line = []int64{end}
				checkNoQueue(t, "an end alone", copied)
				*line = []int64{1, 2, end}
				checkNoQueue(t, "an end behind others", copied)
				*line = []int64{end, 1, 2, 3, 4}
				checkNoQueue(t, "an end ahead of others", copied)
			})
		}
	}
}

func TestP21GreatQueues(t *testing.T) {
	great := slices.Repeat([]int64{1}, 1<<22)
	checkNoQueue(t, "a great Line", queue(0, lines{3: great}))
	checkNoQueue(t, "great Lines", impl.Queue{Turn: 7, Lines: slices.Repeat([][]int64{great}, 8)})
	checkNoQueue(t, "many Lines", impl.Queue{Lines: make([][]int64, 1<<20)})
	checkNoQueue(t, "many Lines", impl.Queue{Turn: 1 << 19, Lines: slices.Repeat([][]int64{{1, 2}}, 1<<20)})
	checkNoQueue(t, "many great Lines", impl.Queue{Lines: slices.Repeat([][]int64{great}, 1<<10)})
	checkRightQueue(t, impl.Queue{Lines: slices.Repeat([][]int64{great[:5]}, 1<<10)[:8]})
}
