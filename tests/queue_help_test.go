package tests

import (
	"fmt"
	"slices"
	"testing"

	"loop.example/g00291/impl"
)

// lines tells which numbers wait at which sessions; at those that it does not tell, none does.
type lines map[int64][]int64

func queue(turn int64, waiting lines) impl.Queue {
	q := impl.Queue{Turn: turn, Lines: make([][]int64, 8)}
	for session, numbers := range waiting {
		q.Lines[session] = slices.Clone(numbers)
	}
	return q
}

// chosen has a Line at each session whose bit is in the mask: of 1 to 5 numbers, no two alike, which do not rise.
func chosen(turn int64, mask int) impl.Queue {
	q := queue(turn, nil)
	for session := range 8 {
		if mask>>session&1 == 1 {
			for i := range (session*3+mask)%5 + 1 {
				q.Lines[session] = append(q.Lines[session], int64(1000*(session+1)-7*i))
			}
		}
	}
	return q
}

func sameQueue(a, b impl.Queue) bool { return a.Turn == b.Turn && sameLists(a.Lines, b.Lines) }

// isQueue is the tests' own word on queues.
func isQueue(q impl.Queue) bool {
	return len(q.Lines) == 8 && slices.Contains([]int64{0, 1, 2, 3, 4, 5, 6, 7}, q.Turn) && !slices.ContainsFunc(q.Lines, func(line []int64) bool {
		return len(line) > 5 || len(line) > 0 && (slices.Min(line) < 1 || slices.Max(line) > 1000000)
	})
}

// arrival is one row: to whom it came, which number, and whether it was Served.
type arrival struct {
	session, n int64
	served     bool
}

// arrivals is the tests' own word on what becomes of a Queue: all that came stand in one row, whatever their session, and none is
// ever taken out. What waits, and who is Served, is found by going through it.
type arrivals struct {
	turn int64
	rows []arrival
}

func arrivalsOf(q impl.Queue) *arrivals {
	a := &arrivals{turn: q.Turn}
	for session, line := range q.Lines {
		for _, n := range line {
			a.rows = append(a.rows, arrival{session: int64(session), n: n})
		}
	}
	return a
}

func (a *arrivals) copied() *arrivals { return &arrivals{a.turn, slices.Clone(a.rows)} }

func (a *arrivals) line(session int64) []int64 {
	var line []int64
	for _, row := range a.rows {
		if row.session == session && !row.served {
			line = append(line, row.n)
		}
	}
	return line
}

func (a *arrivals) there() impl.Queue {
	q := queue(a.turn, nil)
	for session := range q.Lines {
		q.Lines[session] = a.line(int64(session))
	}
	return q
}

func (a *arrivals) length() int64 {
	var length int64
	for _, row := range a.rows {
		if !row.served {
			length++
		}
	}
	return length
}

func (a *arrivals) come(session, n int64) bool {
	if session < 0 || session > 7 || n < 1 || n > 1000000 || len(a.line(session)) > 4 {
		return false
	}
	a.rows = append(a.rows, arrival{session: session, n: n})
	return true
}

// stepsTo is how many turns a session is behind another one, by counting.
func stepsTo(from, to int64) int {
	round := []int64{0, 1, 2, 3, 4, 5, 6, 7, 0, 1, 2, 3, 4, 5, 6, 7}
	return slices.Index(round[from:], to)
}

// serve takes the nearest from Turn on, of one session the one that came first.
func (a *arrivals) serve() (int64, int64) {
	nearest := -1
	for i, row := range a.rows {
		if !row.served && (nearest < 0 || stepsTo(a.turn, row.session) < stepsTo(a.turn, a.rows[nearest].session)) {
			nearest = i
		}
	}
	if nearest < 0 {
		return -1, 0
	}
	row := &a.rows[nearest]
	row.served, a.turn = true, []int64{1, 2, 3, 4, 5, 6, 7, 0}[row.session]
	return row.session, row.n
}

// checkIs asks that a Queue is just what is there.
func (a *arrivals) checkIs(t *testing.T, what string, before, got impl.Queue) {
	t.Helper()
	if want := a.there(); !sameQueue(got, want) {
		t.Fatalf("%v: %s: %v, want %v", before, what, got, want)
	}
	if !impl.QueueOk(got) || !isQueue(got) || impl.Length(got) != a.length() {
		t.Fatalf("%v: %s: %v: QueueOk %v, Length %d, want %d", before, what, got, impl.QueueOk(got), impl.Length(got), a.length())
	}
}

func (a *arrivals) checkCame(t *testing.T, q impl.Queue, session, n int64) impl.Queue {
	t.Helper()
	before := roomyQueue(q)
	want := a.come(session, n)
	got, is := impl.Came(q, session, n)
	what := fmt.Sprintf("Came %d, %d", session, n)
	if is != want {
		t.Fatalf("%v: %s: %v, want %v", before, what, is, want)
	}
	a.checkIs(t, what, before, got)
	if !sameQueue(q, before) || !is && !sameQueue(got, before) {
		t.Fatalf("%v: %s: it is %v then, and %v is told", before, what, q, got)
	}
	if is && impl.Length(got) != impl.Length(before)+1 {
		t.Fatalf("%v: %s: Length %d", before, what, impl.Length(got))
	}
	return got
}

func (a *arrivals) checkServed(t *testing.T, q impl.Queue) (impl.Queue, int64, int64) {
	t.Helper()
	before := roomyQueue(q)
	wantSession, wantN := a.serve()
	got, session, n := impl.Served(q)
	if session != wantSession || n != wantN {
		t.Fatalf("%v: Served %d, %d, want %d, %d", before, session, n, wantSession, wantN)
	}
	a.checkIs(t, "Served", before, got)
	if !sameQueue(q, before) || session == -1 && !sameQueue(got, before) {
		t.Fatalf("%v: Served: it is %v then, and %v is told", before, q, got)
	}
	if session != -1 && impl.Length(got) != impl.Length(before)-1 {
		t.Fatalf("%v: Served: Length %d", before, impl.Length(got))
	}
	return got, session, n
}

// turnsWatch asks promise 17 of what the program tells alone. Owed[s][o] says that o had a Line when s was last Served, and was not
// Served since.
type turnsWatch struct {
	owed [8][8]bool
}

// saw takes the session that was Served, and the Queue behind it.
func (w *turnsWatch) saw(t *testing.T, session int64, behind impl.Queue) {
	t.Helper()
	if other := slices.Index(w.owed[session][:], true); other >= 0 {
		t.Fatalf("%v: session %d was Served twice, and %d waits", behind, session, other)
	}
	for s := range w.owed {
		w.owed[s][session] = false
	}
	for other, line := range behind.Lines {
		w.owed[session][other] = int64(other) != session && len(line) > 0
	}
}

// checkEmptied serves all that wait, and tells who was Served, and what.
func checkEmptied(t *testing.T, q impl.Queue) []arrival {
	t.Helper()
	a, w := arrivalsOf(q), &turnsWatch{}
	var told []arrival
	for range impl.Length(q) {
		got, session, n := a.checkServed(t, q)
		if session == -1 {
			t.Fatalf("%v: none is Served", q)
		}
		w.saw(t, session, got)
		told = append(told, arrival{session: session, n: n})
		q = got
	}
	if got, session, n := a.checkServed(t, q); session != -1 || n != 0 || impl.Length(got) != 0 {
		t.Fatalf("%v: Served %v, %d, %d", q, got, session, n)
	}
	return told
}

// checkRightQueue asks for all that the chapter tells of a Queue that is right.
func checkRightQueue(t *testing.T, q impl.Queue) {
	t.Helper()
	arrivalsOf(q).checkIs(t, "itself", q, q)
	for session := int64(-2); session <= 9; session++ {
		for _, n := range []int64{-1, 0, 1, 77, 1000000, 1000001} {
			arrivalsOf(q).checkCame(t, q, session, n)
		}
	}
	checkEmptied(t, q)
}

// shownQueue is what a Queue begins with, as a text: a great one would be shown for minutes.
func shownQueue(q impl.Queue) string {
	var some [][]int64
	for _, line := range q.Lines[:min(len(q.Lines), 10)] {
		some = append(some, line[:min(len(line), 10)])
	}
	return fmt.Sprintf("{%d %v} of %d Lines", q.Turn, some, len(q.Lines))
}

// checkNoQueue asks for the fixed answers of what is no Queue; what else is out of range changes nothing there.
func checkNoQueue(t *testing.T, why string, q impl.Queue) {
	t.Helper()
	if impl.QueueOk(q) || impl.Length(q) != -1 {
		t.Fatalf("%s: %s: QueueOk %v, Length %d", why, shownQueue(q), impl.QueueOk(q), impl.Length(q))
	}
	for session := int64(-2); session <= 9; session++ {
		for _, n := range []int64{-1, 0, 1, 1000000, 1000001} {
			if got, is := impl.Came(q, session, n); is || got.Turn != 0 || len(got.Lines) != 0 {
				t.Fatalf("%s: %s: Came %d, %d: %s, %v", why, shownQueue(q), session, n, shownQueue(got), is)
			}
		}
	}
	if got, session, n := impl.Served(q); session != -1 || n != 0 || got.Turn != 0 || len(got.Lines) != 0 {
		t.Fatalf("%s: %s: Served %s, %d, %d", why, shownQueue(q), shownQueue(got), session, n)
	}
}

// checkEitherQueue asks it of a Queue, and for the fixed answers of what is none.
func checkEitherQueue(t *testing.T, why string, q impl.Queue, is bool) {
	t.Helper()
	if is != isQueue(q) {
		t.Fatalf("%s: %s: the test's own word is %v", why, shownQueue(q), !is)
	}
	if is {
		checkRightQueue(t, q)
	} else {
		checkNoQueue(t, why, q)
	}
}

// checkNotCome asks that a right Queue is told as it is.
func checkNotCome(t *testing.T, q impl.Queue, session, n int64) {
	t.Helper()
	if got, is := impl.Came(q, session, n); is || !sameQueue(got, q) || !impl.QueueOk(got) {
		t.Fatalf("%v: Came %d, %d: %v, %v", q, session, n, got, is)
	}
}

// roomyQueue is a copy in memory of its own, with strangers in the spare room behind each list.
func roomyQueue(q impl.Queue) impl.Queue {
	return impl.Queue{Turn: q.Turn, Lines: roomyTables(q.Lines)}
}

// queueLies is where each list of a Queue lies, spare room included.
func queueLies(q impl.Queue) []stretch {
	lie := liesAt(q.Lines)
	for _, line := range q.Lines {
		lie = append(lie, liesAt(line)...)
	}
	return lie
}

// someQueues are right ones of all sorts.
func someQueues() []impl.Queue {
	full := queue(6, nil)
	for session := range full.Lines {
		full.Lines[session] = []int64{1, 1000000, int64(session + 1), 1, 500000}
	}
	return []impl.Queue{
		queue(0, nil), queue(7, nil), queue(0, lines{0: {1}}), queue(7, lines{7: {1000000}}), queue(3, lines{2: {5}}), queue(3, lines{4: {5}}), queue(0, lines{7: {1, 2, 3, 4, 5}}), queue(7, lines{0: {5, 4, 3, 2, 1}}), queue(5, lines{1: {9, 9}, 5: {9}, 6: {9, 9, 9}}),
		chosen(2, 0b10101010), chosen(2, 0b01010101), chosen(0, 0b11111111), chosen(7, 0b11111111), full,
	}
}

// everyLine calls f with a copy of a Queue, and with each Line of that.
func everyLine(q impl.Queue, f func(copied impl.Queue, line *[]int64)) {
	for i := range q.Lines {
		copied := roomyQueue(q)
		f(copied, &copied.Lines[i])
	}
}
