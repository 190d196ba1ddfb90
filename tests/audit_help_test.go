package tests

import (
	"fmt"
	"runtime"
	"slices"
	"strings"
	"testing"
	"time"

	"loop.example/g00291/impl"
)

// loner is the tests' own word on who asks alone: it keeps texts and Lines, no tables and no server, and asks one Question after the
// other by Facts, each when its turn comes.
type loner struct {
	now, next, turn int64
	texts           map[string][]string
	lines           [8][]impl.Question
	answers         []impl.Answer
	sights          map[sight]int
}

// sight is what a Question was answered of: whether its program has calls, and whether it is an older Version (of AnNone: whether
// it ever was).
type sight struct {
	code, client int64
	calls, older bool
}

func newLoner() *loner {
	return &loner{next: 1, texts: map[string][]string{}, sights: map[sight]int{}}
}

// lonerOf is what a script leaves.
func lonerOf(acts []impl.Act) *loner {
	l := newLoner()
	for _, a := range acts {
		l.happen(a)
	}
	return l
}

func (l *loner) happen(a impl.Act) {
	switch a.Kind {
	case 1:
		l.put(a)
	case 2:
		l.ask(a)
	case 3:
		l.run()
	case 4:
		if a.Long > 0 && a.Long <= 1000000 && l.now+a.Long <= 1000000 {
			l.now += a.Long
		}
	case 5:
		for session := range l.lines {
			for i := range l.lines[session] {
				if l.lines[session][i].Number == a.Number {
					l.lines[session][i].Gone = true
				}
			}
		}
	}
}

func (l *loner) put(a impl.Act) {
	_, reads := programRead(a.Text)
	_, there := l.texts[a.Project]
	if reads && a.Session >= 0 && a.Session < 8 && nameForm.MatchString(a.Project) && (there || len(l.texts) < 10) {
		l.texts[a.Project] = append(l.texts[a.Project], a.Text)
	}
}

func (l *loner) ask(a impl.Act) {
	q := impl.Question{Number: l.next, Session: a.Session, Project: a.Project, Version: a.Version, Client: a.Client, Proc: a.Proc, At: a.At, Fact: a.Fact, Due: 1}
	if a.Long < 1 || a.Long > 1000 || !isQuestion(q) {
		return
	}
	q.Due = l.now + a.Long
	l.next++
	if len(l.lines[a.Session]) == 5 {
		l.answer(q, 6)
		return
	}
	l.lines[a.Session] = append(l.lines[a.Session], q)
}

func (l *loner) run() {
	for range 8 {
		session := l.turn
		l.turn = (l.turn + 1) % 8
		if line := l.lines[session]; len(line) > 0 {
			l.lines[session] = line[1:]
			l.answer(line[0], l.codeOf(line[0]))
			return
		}
	}
}

func (l *loner) answer(q impl.Question, code int64) {
	l.answers = append(l.answers, impl.Answer{Number: q.Number, Session: q.Session, Code: code})
	texts := l.texts[q.Project]
	seen := sight{code: code, client: q.Client, older: q.Version < int64(len(texts))}
	if code < 3 {
		seen.calls = strings.Contains(texts[q.Version-1], "k")
	}
	l.sights[seen]++
}

// codeOf holds the last four texts of each Project to be there.
func (l *loner) codeOf(q impl.Question) int64 {
	last := int64(len(l.texts[q.Project]))
	if q.Gone {
		return 5
	} else if q.Due <= l.now {
		return 4
	} else if q.Version > last || q.Version+4 <= last {
		return 3
	}
	p, _ := programRead(l.texts[q.Project][q.Version-1])
	sets := impl.Facts(p, q.Client)
	if q.Proc < int64(len(sets)) && q.At < int64(len(sets[q.Proc])) && sets[q.Proc][q.At]>>q.Fact&1 == 1 {
		return 1
	}
	return 2
}

// waiting are the Numbers in all Lines, rising.
func (l *loner) waiting() []int64 {
	var numbers []int64
	for _, line := range l.lines {
		for _, q := range line {
			numbers = append(numbers, q.Number)
		}
	}
	slices.Sort(numbers)
	return numbers
}

// played are the servers behind a script: of these Rooms, and one that has gone on from a server that was told midway.
func played(t *testing.T, acts []impl.Act, rooms ...int64) []impl.Server {
	t.Helper()
	var behind []impl.Server
	for _, room := range rooms {
		s, is := impl.NewServer(room)
		all, told := impl.Play(s, acts)
		if !is || len(told) != len(acts) {
			t.Fatalf("Play of %s: %v", shownShort(acts), told)
		}
		half, _ := impl.Play(s, acts[:len(acts)/2])
		half, _ = impl.Play(half, acts[len(acts)/2:])
		behind = append(behind, all, half)
	}
	return behind
}

// checkPlain asks for what Plain tells of a script of at most 200 acts, and promise 19 of servers with these Rooms behind it.
func checkPlain(t *testing.T, acts []impl.Act, rooms ...int64) []impl.Answer {
	t.Helper()
	want := lonerOf(acts)
	got, is := impl.Plain(acts)
	if !is || !slices.Equal(got, want.answers) {
		t.Fatalf("Plain of %s: %s, %v; want %s", shownShort(acts), shownShort(got), is, shownShort(want.answers))
	}
	for i, s := range played(t, acts, rooms...) {
		if !slices.Equal(s.Answers, got) || !impl.Once(s) {
			t.Fatalf("Play %d of %s: %s, Once %v; Plain %s", i, shownShort(acts), shownShort(s.Answers), impl.Once(s), shownShort(got))
		}
		if waiting := impl.Waiting(s); !slices.Equal(waiting, want.waiting()) {
			t.Fatalf("Play %d of %s: %v wait, want %v", i, shownShort(acts), waiting, want.waiting())
		}
	}
	return got
}

// checkNotPlain asks for the fixed answer.
func checkNotPlain(t *testing.T, acts []impl.Act) {
	t.Helper()
	if got, is := impl.Plain(acts); is || len(got) != 0 {
		t.Fatalf("Plain of %d acts: %s, %v", len(acts), shownShort(got), is)
	}
}

// checkLookedOver asks for what Once and Waiting tell, of a server that is right or is not.
func checkLookedOver(t *testing.T, why string, s impl.Server, is bool) {
	t.Helper()
	var waiting []int64
	named := map[int64]int{}
	for _, q := range s.Questions {
		waiting = append(waiting, q.Number)
		named[q.Number]++
	}
	for _, one := range s.Answers {
		named[one.Number]++
	}
	once := is
	for _, times := range named {
		once = once && times == 1
	}
	slices.Sort(waiting)
	if !is {
		waiting = nil
	}
	if got := impl.Once(s); got != once {
		t.Fatalf("%s: %s: Once %v", why, shownServer(s), got)
	}
	if got := impl.Waiting(s); !slices.Equal(got, waiting) {
		t.Fatalf("%s: %s: %v wait, want %v", why, shownServer(s), got, waiting)
	}
}

// checkOnce asks whether a right server is one in which all is Once.
func checkOnce(t *testing.T, why string, s impl.Server, is bool) {
	t.Helper()
	if !isServer(s) || !impl.ServerOk(s) {
		t.Fatalf("%s: %s is no server", why, shownServer(s))
	}
	checkLookedOver(t, why, s, true)
	if impl.Once(s) != is {
		t.Fatalf("%s: %s: Once %v", why, shownServer(s), !is)
	}
}

// checkAllJoined asks that as many goroutines are there as before, once those that have nothing left to do are gone.
func checkAllJoined(t *testing.T, before int) {
	t.Helper()
	for range 2000 {
		if runtime.NumGoroutine() <= before {
			return
		}
		time.Sleep(time.Millisecond)
	}
	t.Fatalf("%d goroutines, %d before", runtime.NumGoroutine(), before)
}

// answersShown is each Number with its Code.
func answersShown(answers []impl.Answer) string {
	var shown string
	for _, one := range answers {
		shown += fmt.Sprintf(" %d.%d", one.Number, one.Code)
	}
	return shown
}

// asking is an act that asks session 0's Question of Version 1 of a, whatever the clock says.
func asking(client, proc, at, fact int64) impl.Act {
	return impl.Act{Kind: 2, Project: "a", Version: 1, Client: client, Proc: proc, At: at, Fact: fact, Long: 1000}
}

// script draws acts that are right, mostly, of what is there when they come; in some scripts more is asked than is run. Some ask for
// what the most programs mark.
func (d *draws) script(n int) []impl.Act {
	s, lazy := newServer(1), d.below(3) == 0
	var acts []impl.Act
	for range n {
		a := d.act(s)
		if lazy && a.Kind == impl.AcRun {
			a = d.act(s)
		}
		if a.Kind == impl.AcAsk && d.below(3) == 0 {
			a.Proc, a.At, a.Fact = 0, 1, 1
		}
		acts = append(acts, a)
		s, _ = impl.Happen(s, a)
	}
	return acts
}

// runsBehind is each of these acts with an AcRun behind it.
func runsBehind(acts []impl.Act) []impl.Act {
	var list []impl.Act
	for _, a := range acts {
		list = append(list, a, actRun())
	}
	return list
}

// mostAsked brings a program of many calls and asks as often as a script of this length can, each time something else, and each
// Question is answered by its version.
func mostAsked(acts int) []impl.Act {
	script := []impl.Act{actPut(0, "a", "m0 k1 r;j4 c2,1 c1,0 k1 k2 r;l3 k3 m4 b5,4 r;j3 l0 k2 r")}
	for i := int64(0); len(script)+2 <= acts; i++ {
		a := asking(1+i%2, i/2%4, i/8%6, 1+i*5/7%6)
		a.Session = i * 3 % 8
		script = append(script, a, actRun())
	}
	return script
}
