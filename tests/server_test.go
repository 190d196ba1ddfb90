package tests

import (
	"fmt"
	"math"
	"runtime"
	"slices"
	"strings"
	"testing"

	"loop.example/g00291/impl"
)

func TestP18NewServer(t *testing.T) {
	for _, room := range append(nearAndFar(-3, 24), 1<<32+1, 1<<8+1) {
		got, is := impl.NewServer(room)
		if is != (room >= 1 && room <= 20) {
			t.Errorf("NewServer %d: %v", room, is)
		}
		if !is {
			checkNoServer(t, "NewServer", got)
			if !isZeroServer(got) {
				t.Errorf("NewServer %d: %v", room, got)
			}
			continue
		}
		if !sameServer(got, impl.Server{Next: 1, Cache: impl.Cache{Room: room}, Queue: impl.NewQueue()}) || got.Now != 0 || got.Next != 1 || len(got.Store)+len(got.Cache.Items)+len(got.Questions)+len(got.Answers) != 0 || impl.Length(got.Queue) != 0 {
			t.Errorf("NewServer %d: %v", room, got)
		}
		checkRightServer(t, got)
	}
}

// stepBy is an act, what is told of it, and how the server is another one then.
type stepBy struct {
	a      impl.Act
	told   int64
	change func(s *impl.Server)
}

func unaltered(*impl.Server) {}

// checkStepsBy asks for each field behind each act.
func checkStepsBy(t *testing.T, s impl.Server, steps []stepBy) {
	t.Helper()
	for i, step := range steps {
		want := serverWith(s, step.change)
		got, told := diaryOf(s).checkHappen(t, s, step.a)
		if told != step.told || !sameServer(got, want) {
			t.Fatalf("step %d: %s: Happen %v: %s, %d; want %s, %d", i, shownServer(s), step.a, shownServer(got), told, shownServer(want), step.told)
		}
		s = got
	}
	checkRightServer(t, s)
}

func TestP18ActsByHand(t *testing.T) {
	pIs := func(text string) impl.Program { return written(t, text) }
	asked := impl.Act{Kind: 2, Session: 4, Project: "lib", Version: 1, Client: 2, Proc: 1, At: 0, Fact: 2, Long: 1000}
	served := func(s *impl.Server) { s.Questions = s.Questions[1:] }
	checkStepsBy(t, newServer(2), []stepBy{
		{actRun(), -1, unaltered},
		{actDrop(1), -1, unaltered},
		{actPut(3, "a", "m0 r"), 1, func(s *impl.Server) {
			s.Store = []impl.Project{{Name: "a", Versions: []impl.Version{{Id: 1, Program: pIs("m0 r")}}}}
		}},
		{actPut(0, "lib", "k1 r;r"), 1, func(s *impl.Server) {
			s.Store = append(s.Store, impl.Project{Name: "lib", Versions: []impl.Version{{Id: 1, Program: pIs("k1 r;r")}}})
		}},
		{actPut(7, "a", "l0 r"), 2, func(s *impl.Server) {
			s.Store[0].Versions = append(s.Store[0].Versions, impl.Version{Id: 2, Program: pIs("l0 r")})
		}},
		{actTick(3), 3, func(s *impl.Server) { s.Now = 3 }},
		{actAsk(6, 1, 4), 1, func(s *impl.Server) {
			s.Next, s.Queue.Lines[6] = 2, []int64{1}
			s.Questions = []impl.Question{{Number: 1, Session: 6, Project: "a", Version: 1, Client: 1, Proc: 0, At: 1, Fact: 1, Due: 7}}
		}},
		{asked, 2, func(s *impl.Server) {
			s.Next, s.Queue.Lines[4] = 3, []int64{2}
			s.Questions = append(s.Questions, impl.Question{Number: 2, Session: 4, Project: "lib", Version: 1, Client: 2, Proc: 1, At: 0, Fact: 2, Due: 1003})
		}},
		{actAsk(6, 9, 1), 3, func(s *impl.Server) {
			s.Next, s.Queue.Lines[6] = 4, []int64{1, 3}
			s.Questions = append(s.Questions, impl.Question{Number: 3, Session: 6, Project: "a", Version: 9, Client: 1, Proc: 0, At: 1, Fact: 1, Due: 4})
		}},
		{actAsk(6, 9, 2), 4, func(s *impl.Server) {
			s.Next, s.Queue.Lines[6] = 5, []int64{1, 3, 4}
			s.Questions = append(s.Questions, impl.Question{Number: 4, Session: 6, Project: "a", Version: 9, Client: 1, Proc: 0, At: 1, Fact: 1, Due: 5})
		}},
		{actDrop(3), 0, func(s *impl.Server) { s.Questions[2].Gone = true }},
		{actDrop(3), -1, unaltered},
		{actDrop(5), -1, unaltered},
		{actRun(), 1, func(s *impl.Server) {
			served(s)
			s.Queue.Turn, s.Queue.Lines[4] = 5, nil
			s.Questions = slices.Clone(s.Questions)
			s.Questions[0] = impl.Question{Number: 1, Session: 6, Project: "a", Version: 1, Client: 1, Proc: 0, At: 1, Fact: 1, Due: 7}
			s.Answers = []impl.Answer{{Number: 2, Session: 4, Code: 1}}
			s.Cache = cache(2, item(2, "r", impl.Unit()), item(2, "k1 r;r", []int64{1, 2, 4, 8, 16, 32, 64}))
		}},
		{actDrop(2), -1, unaltered},
		{actTick(1), 4, func(s *impl.Server) { s.Now = 4 }},
		{actRun(), 1, func(s *impl.Server) {
			served(s)
			s.Queue.Turn, s.Queue.Lines[6] = 7, []int64{3, 4}
			s.Answers = append(s.Answers, impl.Answer{Number: 1, Session: 6, Code: 1})
			s.Cache = cache(2, item(1, "m0 r", []int64{3, 0, 4, 8, 16, 32, 64}), item(2, "r", impl.Unit()))
		}},
		{actTick(1), 5, func(s *impl.Server) { s.Now = 5 }},
		// It is late, too, and there is no such Version.
		{actRun(), 5, func(s *impl.Server) {
			served(s)
			s.Queue.Turn, s.Queue.Lines[6] = 7, []int64{4}
			s.Answers = append(s.Answers, impl.Answer{Number: 3, Session: 6, Code: 5})
		}},
		{actRun(), 4, func(s *impl.Server) {
			served(s)
			s.Queue.Turn, s.Queue.Lines[6] = 7, nil
			s.Answers = append(s.Answers, impl.Answer{Number: 4, Session: 6, Code: 4})
		}},
		{actRun(), -1, unaltered},
		{actAsk(0, 3, 1), 5, func(s *impl.Server) {
			s.Next, s.Queue.Lines[0] = 6, []int64{5}
			s.Questions = []impl.Question{{Number: 5, Project: "a", Version: 3, Client: 1, At: 1, Fact: 1, Due: 6}}
		}},
		{actRun(), 3, func(s *impl.Server) {
			served(s)
			s.Queue.Turn, s.Queue.Lines[0] = 1, nil
			s.Answers = append(s.Answers, impl.Answer{Number: 5, Session: 0, Code: 3})
		}},
	})
}

// asksOf asks one thing of the only version of a program, by a server of its own, and tells the Code.
func asksOf(t *testing.T, text string, client, proc, at, fact int64) int64 {
	t.Helper()
	a := impl.Act{Kind: impl.AcAsk, Session: 2, Project: "main", Version: 1, Client: client, Proc: proc, At: at, Fact: fact, Long: 1}
	_, told := checkPlay(t, newServer(3), []impl.Act{actPut(2, "main", text), a, actRun()})
	return told[2]
}

// codeByHand is what is answered where one thing is asked of a program.
type codeByHand struct {
	text                   string
	client, proc, at, fact int64
	want                   int64
}

func codesByHand() []codeByHand {
	return []codeByHand{
		{"m0 r", 1, 0, 1, 1, 1}, {"m0 r", 1, 0, 0, 1, 2}, {"m0 r", 1, 0, 1, 2, 2}, {"m0 r", 1, 0, 1, 6, 2}, {"m0 r", 2, 0, 1, 1, 2}, {"m0 r", 2, 0, 0, 1, 1}, {"m0 r", 2, 0, 1, 6, 1}, {"m5 r", 1, 0, 1, 6, 1}, {"l3 r", 2, 0, 1, 4, 2}, {"l3 r", 2, 0, 0, 4, 1}, {"m0 c1,0 l0 r", 1, 0, 3, 2, 1}, {"m0 c1,0 l0 r", 1, 0, 3, 1, 2}, {"j2 m0 r", 1, 0, 2, 1, 1}, {"j2 l1 r", 2, 0, 2, 2, 1},
		// Where nobody comes, and where there is no such place.
		{"r m0 r", 1, 0, 2, 1, 2}, {"r", 2, 0, 0, 3, 1}, {"r", 2, 0, 1, 3, 2}, {"r", 2, 1, 0, 3, 2}, {"r;r", 2, 1, 0, 4, 2}, {"r;r", 2, 3, 11, 1, 2}, {"s s s s s s s s s s s r", 2, 0, 11, 1, 1},
		// With calls.
		{"m0 k1 r;c1,0 r", 1, 0, 2, 2, 1}, {"m0 k1 r;c1,0 r", 1, 0, 1, 2, 2}, {"m0 k1 r;c1,0 r", 1, 1, 0, 1, 1}, {"m0 k1 r;c1,0 r", 1, 1, 1, 2, 1}, {"m3 k1 r;r", 1, 1, 0, 4, 2}, {"m3 k1 r;r", 1, 0, 2, 4, 1}, {"k1 r;m3 r", 1, 0, 1, 4, 2}, {"k1 r;l3 r", 2, 0, 1, 4, 1}, {"l3 k1 r;r", 2, 1, 0, 4, 1}, {"l3 k1 r;r", 2, 0, 2, 4, 2}, {"l0 k1 r;r", 2, 1, 0, 1, 2}, {"k1 r;l0 r", 2, 0, 1, 1, 2},
		// Who calls gets back to where it called.
		{"k2 m0 k3 r;r;k1 r;k1 r", 1, 0, 1, 1, 2}, {"k1 m0 k1 r;r", 1, 0, 1, 1, 2}, {"k1 m0 k1 r;r", 1, 0, 3, 1, 1}, {"k1 m0 k1 r;r", 1, 1, 0, 1, 1},
		// Those that call themselves.
		{"m0 k1 r;j4 c2,1 c1,0 k1 r", 1, 0, 2, 3, 1}, {"m0 k1 r;j4 c2,1 c1,0 k1 r", 1, 0, 1, 3, 2}, {"k0 r", 2, 0, 1, 1, 2}, {"k0 r", 2, 0, 1, 4, 1},
	}
}

func TestP18CodesByHand(t *testing.T) {
	for _, c := range codesByHand() {
		if got := asksOf(t, c.text, c.client, c.proc, c.at, c.fact); got != c.want {
			t.Errorf("%q: client %d, {%d %d}, fact %d: %d, want %d", c.text, c.client, c.proc, c.at, c.fact, got, c.want)
		}
	}
}

// checkAllAsked asks all that may be asked of a right Program, by one server, and that each Code is as Asked says.
func checkAllAsked(t *testing.T, s impl.Server, p impl.Program) {
	t.Helper()
	s, id := impl.Happen(s, actPut(1, "p", impl.ShowProgram(p)))
	own := map[int64]*places{1: placesOf(p, 1), 2: placesOf(p, 2)}
	for i := range int64(2 * 4 * 12 * 6) {
		client, proc, at, fact := 1+i%2, i/2%4, i/8%12, 1+i/96
		behind, told := impl.Play(s, []impl.Act{{Kind: impl.AcAsk, Session: i % 8, Project: "p", Version: id, Client: client, Proc: proc, At: at, Fact: fact, Long: 1}, actRun()})
		want := int64(2)
		if isPlace(p, impl.Place{Proc: proc, At: at}) && own[client].ahead[proc][at].of[fact-1] {
			want = 1
		}
		if told[1] != want || (want == 1) != impl.Asked(p, client, proc, at, fact) {
			t.Fatalf("%v: client %d, {%d %d}, fact %d: %v, want %d", p, client, proc, at, fact, told, want)
		}
		if i%5 == 0 {
			s = behind
			s.Answers = nil
		}
	}
}

func TestP18AllThatMayBeAsked(t *testing.T) {
	d := draws(180)
	programs := append(changing(), d.simple(), d.spinning(), d.program(), d.program(), d.spinning())
	for i, p := range programs {
		checkAllAsked(t, newServer(int64(1+i%4)), p)
	}
}

// What is kept changes no Code; all that is kept of one's own Contents is used.
func TestP18WhateverIsKept(t *testing.T) {
	for i, p := range changing() {
		for _, client := range bothClients {
			var contents []string
			for k := range p.Procs {
				if content := contentBy(p, int64(k)); !slices.Contains(contents, content) {
					contents = append(contents, content)
				}
			}
			for chosen := range 1 << len(contents) {
				s := newServer(20)
				s.Cache.Items = append(s.Cache.Items, soItem(client, "l5 t5 r"), soItem(3-client, contents[0]))
				for k, content := range contents {
					if chosen>>k&1 == 1 {
						s.Cache.Items = append(s.Cache.Items, soItem(client, content))
					}
				}
				a := impl.Act{Kind: impl.AcAsk, Project: "p", Version: 1, Client: client, Proc: int64(chosen % len(p.Procs)), Fact: int64(1 + (i+chosen)%6), Long: 9}
				b := a
				b.At, b.Client = 1, 3-client
				checkPlay(t, s, []impl.Act{actPut(0, "p", shownOf(p)), a, b, actRun(), actRun(), a, actRun()})
			}
		}
	}
}

// What is answered without a look at a version leaves what is kept.
func TestP18OnlyYesAndNoUseWhatIsKept(t *testing.T) {
	s := newServer(3)
	s.Cache.Items = []impl.Item{soItem(1, "m1 r"), soItem(1, "m0 r"), soItem(2, "m0 r")}
	s, told := checkPlay(t, s, []impl.Act{actPut(0, "a", "m0 r"), actAsk(0, 2, 9), actAsk(0, 1, 9), actDrop(2), actAsk(0, 1, 1), actTick(1), actRun(), actRun(), actRun()})
	if !slices.Equal(told[6:], []int64{3, 5, 4}) || s.Cache.Items[0].Content != "m1 r" || len(s.Cache.Items) != 3 {
		t.Error(told, s.Cache)
	}
	s, told = checkPlay(t, s, []impl.Act{actAsk(0, 1, 9), actRun()})
	if told[1] != 1 || s.Cache.Items[0].Content != "m0 r" || s.Cache.Items[0].Client != 1 || s.Cache.Items[1].Content != "m1 r" {
		t.Error(told, s.Cache)
	}
	// Where there is no such place, too: it is answered by its version.
	a := actAsk(0, 1, 9)
	a.Client, a.Proc = 2, 3
	s, told = checkPlay(t, s, []impl.Act{a, actRun()})
	if told[1] != 2 || s.Cache.Items[0].Client != 2 {
		t.Error(told, s.Cache)
	}
}

func TestP18ItsOwnVersion(t *testing.T) {
	put := func(text string) impl.Act { return actPut(0, "a", text) }
	ask := func(version int64) impl.Act { return actAsk(0, version, 100) }
	for _, c := range []struct {
		acts []impl.Act
		want []int64
	}{
		{[]impl.Act{put("m0 r"), put("r"), ask(1), ask(2), actRun(), actRun()}, []int64{1, 2}},
		// It was asked ahead of what was brought then.
		{[]impl.Act{put("m0 r"), ask(1), put("r"), actRun(), actRun()}, []int64{1, -1}}, {[]impl.Act{ask(1), put("m0 r"), actRun(), actRun()}, []int64{1, -1}}, {[]impl.Act{put("r"), ask(2), put("m0 r"), actRun(), actRun()}, []int64{1, -1}},
		// One that never was, and one that is gone.
		{[]impl.Act{ask(1), actRun()}, []int64{3}}, {[]impl.Act{put("m0 r"), ask(2), actRun()}, []int64{3}}, {[]impl.Act{put("m0 r"), ask(100000), actRun()}, []int64{3}}, {[]impl.Act{put("m0 r"), put("r"), put("r"), put("r"), ask(1), actRun()}, []int64{1}}, {[]impl.Act{put("m0 r"), ask(1), put("r"), put("r"), put("r"), actRun()}, []int64{1}}, {[]impl.Act{put("m0 r"), ask(1), put("r"), put("r"), put("r"), put("r"), actRun()}, []int64{3}}, {[]impl.Act{put("m0 r"), put("r"), put("r"), put("r"), put("m0 r"), ask(1), ask(2), ask(5), actRun(), actRun(), actRun()}, []int64{3, 2, 1}},
		// Of another Project.
		{[]impl.Act{actPut(0, "b", "m0 r"), ask(1), actRun()}, []int64{3}}, {[]impl.Act{actPut(0, "aa", "m0 r"), put("r"), ask(1), actRun()}, []int64{2}}, {[]impl.Act{actPut(5, "a", "m0 r"), ask(1), actRun()}, []int64{1}},
	} {
		_, told := checkPlay(t, newServer(2), c.acts)
		if got := told[len(told)-len(c.want):]; !slices.Equal(got, c.want) {
			t.Errorf("%v: %v, want %v", c.acts, got, c.want)
		}
	}
}

// Long is how long one may wait: one less is in time, just that is late.
func TestP18Late(t *testing.T) {
	for _, now := range []int64{0, 1, 7, 998000} {
		for _, long := range []int64{1, 2, 3, 10, 999, 1000} {
			for _, waited := range []int64{0, 1, long - 2, long - 1, long, long + 1, 1001} {
				s := newServer(1)
				s.Now = now
				acts := []impl.Act{actPut(0, "a", "m0 r"), actAsk(3, 1, long), actTick(waited), actRun()}
				behind, told := checkPlay(t, s, acts)
				want := int64(1)
				if waited >= long {
					want = 4
				}
				if told[3] != want || behind.Answers[0] != (impl.Answer{Number: 1, Session: 3, Code: want}) {
					t.Errorf("Now %d: Long %d, waited %d: %v", now, long, waited, told)
				}
			}
		}
	}
}

// A Question that is Due just at Now is late, whatever Now is; one later is not.
func TestP18DueAtTheEdges(t *testing.T) {
	for _, due := range []int64{1, 2, 1000, 999999, 1000000, 1000001, 1001000} {
		for _, now := range []int64{0, due - 2, due - 1, due, due + 1, 999999, 1000000} {
			if now < 0 || now > 1000000 {
				continue
			}
			s := waitingServer(1)
			s.Now, s.Store, s.Questions[0].Project, s.Questions[0].Version, s.Questions[0].Due = now, store(project(t, "a", 1, "r")), "a", 1, due
			_, told := checkPlay(t, s, []impl.Act{actRun()})
			if (told[0] == 4) != (now >= due) || told[0] == 3 {
				t.Errorf("Now %d, Due %d: %v", now, due, told)
			}
		}
	}
}

// Of what is Gone, late, and of no version, the one named first is answered.
func TestP18WhichCodeComesFirst(t *testing.T) {
	for mask := range 16 {
		s := waitingServer(6)
		q := &s.Questions[0]
		q.Project, q.Version, q.Client, q.Proc, q.At, q.Fact, q.Due = "a", 1, 1, 0, 0, 1, 1
		want := int64(2)
		if mask&1 == 1 {
			s.Store, q.At = store(project(t, "a", 1, "m0 r")), 1
			want = 1
		} else {
			s.Store = store(project(t, "a", 1, "m0 r"))
		}
		if mask&2 == 2 {
			s.Store, want = nil, 3
		}
		if mask&4 == 4 {
			s.Now, want = 1, 4
		}
		if mask&8 == 8 {
			q.Gone, want = true, 5
		}
		if _, told := checkPlay(t, s, []impl.Act{actRun()}); told[0] != want {
			t.Errorf("%b: %v, want %d", mask, told, want)
		}
	}
}

func TestP18Gone(t *testing.T) {
	s := waitingServer(3, 0, 3, 7, 0)
	for number := int64(-2); number <= 8; number++ {
		there := number >= 1 && number <= 5
		got := checkDone(t, s, actDrop(number), there)
		if !there {
			continue
		}
		for i, q := range got.Questions {
			if q.Gone != (q.Number == number) || len(got.Questions) != 5 || q.Number != int64(i+1) {
				t.Errorf("drop %d: %v", number, got.Questions)
			}
		}
		// No more than once; others can be Gone, too.
		checkDone(t, got, actDrop(number), false)
		checkDone(t, got, actDrop(6-number), number != 3)
		// It waits as it did.
		if !sameQueue(got.Queue, s.Queue) || impl.Length(got.Queue) != 5 || len(got.Answers) != 0 {
			t.Errorf("drop %d: %v", number, got.Queue)
		}
		// Once it is answered, there is none.
		for range 5 {
			got = checkDone(t, got, actRun(), true)
		}
		checkDone(t, got, actDrop(number), false)
		for _, one := range got.Answers {
			if (one.Code == 5) != (one.Number == number) {
				t.Errorf("drop %d: %v", number, got.Answers)
			}
		}
	}
}

// A full Line is busy, whatever others are, until one of it is Served.
func TestP18BusyWithAFullLine(t *testing.T) {
	for session := range int64(8) {
		s := newServer(1)
		ask := actAsk(session, 1, 100)
		for range 5 {
			s = checkDone(t, s, ask, true)
		}
		for i := range int64(3) {
			got, told := diaryOf(s).checkHappen(t, s, ask)
			if told != 6+i || got.Next != 7+i || len(got.Questions) != 5 || got.Answers[i] != (impl.Answer{Number: 6 + i, Session: session, Code: 6}) {
				t.Fatalf("session %d: %d, %s", session, told, shownServer(got))
			}
			s = got
		}
		other := actAsk((session+1)%8, 1, 100)
		if got := checkDone(t, s, other, true); len(got.Answers) != 3 || len(got.Questions) != 6 {
			t.Errorf("session %d: %s", session, shownServer(got))
		}
		// One that is Gone has its place still.
		s = checkDone(t, s, actDrop(2), true)
		s = checkDone(t, s, ask, true)
		if len(s.Answers) != 4 {
			t.Errorf("session %d: %s", session, shownServer(s))
		}
		s = checkDone(t, s, actRun(), true)
		if s = checkDone(t, s, ask, true); len(s.Answers) != 5 || len(s.Questions) != 5 || s.Questions[4].Number != 10 {
			t.Errorf("session %d: %s", session, shownServer(s))
		}
	}
}

// As many Questions as may be, and one more, of each session; then there is room for one, of who was Served alone.
func TestP18BusyWithFortyQuestions(t *testing.T) {
	s := newServer(1)
	for i := range 40 {
		s = checkDone(t, s, actAsk(allSessions(3, 40)[i], 1, 100), true)
		if len(s.Questions) != i+1 || len(s.Answers) != 0 {
			t.Fatalf("%d: %s", i, shownServer(s))
		}
	}
	for session := range int64(8) {
		got, told := diaryOf(s).checkHappen(t, s, actAsk(session, 1, 100))
		if told != 41 || len(got.Questions) != 40 || !slices.Equal(got.Answers, []impl.Answer{{Number: 41, Session: session, Code: 6}}) {
			t.Errorf("session %d: %d, %s", session, told, shownServer(got))
		}
	}
	s = checkDone(t, s, actRun(), true)
	for session := range int64(8) {
		if got := checkDone(t, s, actAsk(session, 1, 100), true); (len(got.Questions) == 40) != (session == 0) || (len(got.Answers) == 1) != (session == 0) {
			t.Errorf("session %d: %s", session, shownServer(got))
		}
	}
}

// answersInOrder tells of each its session and its Number.
func answersInOrder(answers []impl.Answer) string {
	var row []arrival
	for _, one := range answers {
		row = append(row, arrival{session: one.Session, n: one.Number})
	}
	return shownRow(row)
}

func TestP18TheOrderOfAnswers(t *testing.T) {
	for _, c := range []struct {
		turn     int64
		sessions []int64
		want     string
	}{
		{0, []int64{5, 5, 5, 2, 6}, "2.4 5.1 6.5 5.2 5.3"}, {6, []int64{5, 5, 5, 2, 6}, "6.5 2.4 5.1 5.2 5.3"}, {0, []int64{1, 1, 1, 1, 1}, "1.1 1.2 1.3 1.4 1.5"}, {7, []int64{0, 7, 0, 7}, "7.2 0.1 7.4 0.3"}, {3, []int64{4, 3, 2, 4, 3, 2}, "3.2 4.1 2.3 3.5 4.4 2.6"}, {1, []int64{7, 6, 5, 4, 3, 2, 1, 0}, "1.7 2.6 3.5 4.4 5.3 6.2 7.1 0.8"},
	} {
		s := newServer(1)
		s.Queue.Turn = c.turn
		for _, session := range c.sessions {
			s = checkDone(t, s, actAsk(session, 1, 1), true)
		}
		acts := slices.Repeat([]impl.Act{actRun()}, len(c.sessions)+1)
		got, told := checkPlay(t, s, acts)
		if shown := answersInOrder(got.Answers); shown != c.want || told[len(told)-1] != -1 {
			t.Errorf("Turn %d, %v: %s, want %s", c.turn, c.sessions, shown, c.want)
		}
		// By a clock that goes on, and with some that are Gone, no other order.
		slow := []impl.Act{actDrop(2), actTick(1)}
		for range c.sessions {
			slow = append(slow, actRun(), actTick(7))
		}
		if got, _ := checkPlay(t, s, slow); answersInOrder(got.Answers) != c.want {
			t.Errorf("Turn %d, %v: %s, want %s", c.turn, c.sessions, answersInOrder(got.Answers), c.want)
		}
	}
}

func TestP18Mine(t *testing.T) {
	s := newServer(1)
	s.Next, s.Answers = 301, []impl.Answer{{Number: 9, Session: 2, Code: 1}, {Number: 3, Session: 0, Code: 6}, {Number: 300, Session: 2, Code: 2}, {Number: 3, Session: 7, Code: 3}, {Number: 1, Session: 2, Code: 5}, {Number: 9, Session: 2, Code: 1}}
	for session, want := range map[int64]string{0: "0.3", 1: "", 2: "2.9 2.300 2.1 2.9", 3: "", 7: "7.3", 8: "", -1: ""} {
		if got := answersInOrder(impl.Mine(s, session)); got != want {
			t.Errorf("Mine of %d: %s, want %s", session, got, want)
		}
	}
	checkMine(t, s)
	for n := range 301 {
		s.Answers = answersTo(n)
		checkMine(t, s)
	}
	for _, right := range someServers(t) {
		checkMine(t, right)
		checkMine(t, roomyServer(right))
	}
}

// An act that was drawn is right, mostly, of what is there.
func (d *draws) act(s impl.Server) impl.Act {
	texts := []string{"r", "m0 r", "m0 l0 r", "m0 k1 r;c1,0 r", "k1 r;m0 r", "j2 k1 r;m3 c0,3 r", "k1 r;k0 r", "l1 k1 k1 r;c2,1 c1,0 r", "", "s", "k1 r"}
	names := []string{"a", "b", "lib", "abcdefghijkl", "", "A"}
	var a impl.Act
	switch d.below(12) {
	case 0, 1:
		a = actPut(int64(d.below(8)), names[d.below(len(names)-2)], texts[d.below(len(texts)-3)])
	case 2, 3, 4, 5:
		a = impl.Act{Kind: 2, Session: int64(d.below(5)), Project: names[d.below(2)], Version: int64(1 + d.below(5)), Client: int64(1 + d.below(2)), Proc: int64(d.below(2)), At: int64(d.below(4)), Fact: int64(1 + d.below(6)), Long: int64(1 + d.below(30))}
	case 6, 7, 8, 9:
		a = actRun()
	case 10:
		a = actTick(int64(1 + d.below(9)))
	case 11:
		a = actDrop(1 + int64(d.below(int(s.Next))))
		if len(s.Questions) > 0 && d.below(4) > 0 {
			a.Number = s.Questions[d.below(len(s.Questions))].Number
		}
	}
	if d.below(12) > 0 {
		return a
	}
	switch n := []int64{-1, 0, 3, 4, 7, 8, 12, 1001, 100001, math.MinInt64, math.MaxInt64}[d.below(11)]; d.below(11) {
	case 0:
		a.Project = names[d.below(len(names))]
	case 1:
		a.Text = texts[d.below(len(texts))]
	default:
		*actNumbers(&a)[d.below(9)] = n
	}
	return a
}

// actNumbers are the fields of an Act that are numbers, in their order.
func actNumbers(a *impl.Act) []*int64 {
	return []*int64{&a.Kind, &a.Session, &a.Version, &a.Client, &a.Proc, &a.At, &a.Fact, &a.Long, &a.Number}
}

// Every script of six acts of these seven.
func TestP18EveryScript(t *testing.T) {
	acts := []impl.Act{actPut(0, "a", "m0 r"), actPut(3, "a", "r"), actAsk(0, 1, 2), actAsk(3, 2, 9), actRun(), actTick(1), actDrop(1)}
	var goOn func(s impl.Server, d *diary, left int)
	goOn = func(s impl.Server, d *diary, left int) {
		if left == 0 {
			return
		}
		for _, a := range acts {
			one := d.copied()
			got, _ := one.checkHappen(t, s, a)
			goOn(got, one, left-1)
		}
	}
	goOn(newServer(1), diaryOf(newServer(1)), 6)
}

// Drawn scripts, from servers of all sorts; all Codes come, and what is refused.
func TestP18DrawnScripts(t *testing.T) {
	d := draws(181)
	codes, refused := map[int64]int{}, map[int64]int{}
	for script := range 120 {
		s := someServers(t)[script%len(someServers(t))]
		if script%3 > 0 {
			s = newServer(int64(1 + d.below(20)))
		}
		begun, own := s, diaryOf(s)
		var acts []impl.Act
		var want []int64
		for range 200 {
			a := d.act(s)
			got, told := own.checkHappen(t, s, a)
			if told == -1 {
				refused[a.Kind]++
			} else if a.Kind == impl.AcRun {
				codes[told]++
			}
			if len(got.Answers) > len(s.Answers) && got.Answers[len(s.Answers)].Code == 6 {
				codes[6]++
			}
			s, acts, want = got, append(acts, a), append(want, told)
		}
		checkMine(t, s)
		got, told := impl.Play(begun, acts)
		if !sameServer(got, s) || !slices.Equal(told, want) {
			t.Fatalf("%s: Play of %s: %v, %s; act by act %v, %s", shownServer(begun), shownShort(acts), told, shownServer(got), want, shownServer(s))
		}
	}
	for n := int64(1); n <= 6; n++ {
		if codes[n] < 40 || n < 6 && refused[n] < 40 {
			t.Error("only", codes, "were answered,", refused, "refused")
		}
	}
}

// Every question once: what was asked is answered once, by its own version, as if nobody else had asked.
func TestP18EveryQuestionOnce(t *testing.T) {
	d := draws(182)
	for range 40 {
		s := newServer(int64(1 + d.below(3)))
		asked := map[int64]impl.Act{}
		for range 180 {
			a := d.act(s)
			got, told := impl.Happen(s, a)
			if a.Kind == impl.AcAsk && told != -1 {
				asked[told] = a
			}
			s = got
		}
		for len(s.Questions) > 0 {
			s, _ = impl.Happen(s, actRun())
		}
		if len(s.Answers) != len(asked) || int64(len(asked)) != s.Next-1 {
			t.Fatalf("%d were asked, %d answered, Next %d", len(asked), len(s.Answers), s.Next)
		}
		seen := map[int64]bool{}
		for _, one := range s.Answers {
			if a := asked[one.Number]; seen[one.Number] || a.Session != one.Session || a.Kind != impl.AcAsk {
				t.Fatalf("%v: %v", one, s.Answers)
			}
			seen[one.Number] = true
		}
	}
}

func TestP18PlayOfHowManyActs(t *testing.T) {
	for _, s := range []impl.Server{newServer(1), waitingServer(1, 2, 3), someServers(t)[4]} {
		checkPlay(t, s, nil)
		checkPlay(t, s, []impl.Act{})
		for _, n := range []int{1, 2, 199, 200} {
			acts := slices.Repeat([]impl.Act{actTick(1), actTick(2)}, 100)[:n]
			got, told := checkPlay(t, s, acts)
			if len(told) != n || got.Now == s.Now {
				t.Errorf("%d acts: %v", n, told)
			}
		}
		for _, n := range []int{201, 202, 256, 300, 456, 1000} {
			for _, a := range []impl.Act{actTick(1), {}, actRun()} {
				if got, told := impl.Play(s, slices.Repeat([]impl.Act{a}, n)); len(told) != 0 || !isZeroServer(got) {
					t.Errorf("%d acts: %v, %v", n, got, told)
				}
			}
		}
	}
}

// nearEdges are those between which a part is right, themselves too.
type nearEdges struct {
	least, most int64
}

func (e nearEdges) has(n int64) bool { return n >= e.least && n <= e.most }

func (e nearEdges) numbers() []int64 {
	return append(nearAndFar(-3, 14), e.least-1, e.least, e.least+1, e.most-1, e.most, e.most+1, 1<<32+e.least, 1<<16+e.least, 1<<8+e.least, -e.most, math.MinInt64, math.MaxInt64, math.MinInt64+e.least, math.MaxInt64-e.most)
}

// Each part of each Kind of act, one at a time.
func TestP18EdgesOfActs(t *testing.T) {
	servers := []impl.Server{
		serverWith(waitingServer(allSessions(4, 12)...), func(s *impl.Server) { s.Store = store(project(t, "a", 1, "r", "m0 r")) }),
		newServer(2), waitingServer(0, 0, 0, 0, 0),
	}
	ask := impl.Act{Kind: 2, Session: 7, Project: "a", Version: 1, Client: 1, Fact: 1, Long: 1}
	for _, s := range servers {
		edge := func(a impl.Act, part func(a *impl.Act) *int64, edges nearEdges) {
			t.Helper()
			for _, n := range edges.numbers() {
				*part(&a) = n
				checkDone(t, s, a, edges.has(n))
			}
		}
		edge(actPut(0, "a", "r"), func(a *impl.Act) *int64 { return &a.Session }, nearEdges{0, 7})
		edge(ask, func(a *impl.Act) *int64 { return &a.Session }, nearEdges{0, 7})
		edge(ask, func(a *impl.Act) *int64 { return &a.Version }, nearEdges{1, 100000})
		edge(ask, func(a *impl.Act) *int64 { return &a.Client }, nearEdges{1, 2})
		edge(ask, func(a *impl.Act) *int64 { return &a.Proc }, nearEdges{0, 3})
		edge(ask, func(a *impl.Act) *int64 { return &a.At }, nearEdges{0, 11})
		edge(ask, func(a *impl.Act) *int64 { return &a.Fact }, nearEdges{1, 6})
		edge(ask, func(a *impl.Act) *int64 { return &a.Long }, nearEdges{1, 1000})
		edge(actTick(1), func(a *impl.Act) *int64 { return &a.Long }, nearEdges{1, 1000000})
		edge(actDrop(1), func(a *impl.Act) *int64 { return &a.Number }, nearEdges{1, int64(len(s.Questions))})
	}
	full := servers[0]
	for _, kind := range (nearEdges{1, 5}).numbers() {
		a := impl.Act{Kind: kind, Project: "a", Version: 1, Text: "r", Client: 1, Fact: 1, Long: 1, Number: 1}
		checkDone(t, full, a, kind >= 1 && kind <= 5)
	}
}

// A busy one is refused as any other where it is not right: no Number goes.
func TestP18BusyButNotRight(t *testing.T) {
	s := waitingServer(0, 0, 0, 0, 0)
	checkDone(t, s, actAsk(0, 1, 1), true)
	for _, change := range []func(a *impl.Act){
		func(a *impl.Act) { a.Project = "" }, func(a *impl.Act) { a.Version = 0 }, func(a *impl.Act) { a.Client = 3 }, func(a *impl.Act) { a.Proc = 4 }, func(a *impl.Act) { a.At = 12 }, func(a *impl.Act) { a.Fact = 7 }, func(a *impl.Act) { a.Fact = 0 }, func(a *impl.Act) { a.Long = 0 }, func(a *impl.Act) { a.Long = 1001 }, func(a *impl.Act) { a.Session = 8 },
	} {
		a := actAsk(0, 1, 1)
		change(&a)
		if got := checkDone(t, s, a, false); got.Next != 6 || len(got.Answers) != 0 {
			t.Errorf("%v: %s", a, shownServer(got))
		}
	}
}

// What a Kind does not need is not looked at.
func TestP18WhatAKindDoesNotNeed(t *testing.T) {
	s := serverWith(waitingServer(3, 4), func(s *impl.Server) { s.Store = store(project(t, "a", 1, "r")) })
	for _, a := range []impl.Act{actPut(1, "a", "m0 r"), actAsk(1, 1, 5), actRun(), actTick(5), actDrop(1)} {
		want := checkDone(t, s, a, true)
		for i, part := range []string{"session", "project", "version", "text", "client", "proc", "at", "fact", "long", "number"} {
			if slices.Contains(strings.Fields(keysBy[a.Kind]), part) {
				continue
			}
			other := a
			if field := fieldBy(&other, part); part == "project" || part == "text" {
				field.SetString("?")
			} else {
				field.SetInt([]int64{-1, math.MaxInt64, 9}[i%3])
			}
			if got := checkDone(t, s, other, true); !sameServer(got, want) {
				t.Errorf("%v: %s, want %s", other, shownServer(got), shownServer(want))
			}
		}
	}
}

func TestP18EdgesOfNames(t *testing.T) {
	s := serverWith(newServer(1), func(s *impl.Server) { s.Store = store(project(t, "a", 1, "r")) })
	check := func(name string, is bool) {
		t.Helper()
		if is != nameForm.MatchString(name) {
			t.Fatalf("%q: the test's own word is %v", name, !is)
		}
		a := actAsk(0, 1, 5)
		a.Project = name
		checkDone(t, s, a, is)
		checkDone(t, s, actPut(0, name, "r"), is)
		other := waitingServer(1, 2)
		other.Questions[1].Project = name
		checkEitherServer(t, "a Name", other, is)
	}
	for _, name := range []string{"a", "z", "b", "ab", "aaaaaaaaaaaa", "zzzzzzzzzzzz", "abcdefghijkl"} {
		check(name, true)
	}
	for _, name := range append(strangeNames[2:], "", "aB", "a1", "a-", "a\n", "abcdefghijklm", strings.Repeat("a", 100), strings.Repeat("a", 256+3), "a\xff", "\x00") {
		check(name, false)
	}
	for b := range 256 {
		check(string([]byte{'a', byte(b)}), b >= 'a' && b <= 'z')
	}
}

func TestP18EdgesOfTexts(t *testing.T) {
	for _, s := range []impl.Server{newServer(1), fullServer()} {
		name := "a"
		if len(s.Store) > 0 {
			name = s.Store[3].Name
		}
		for _, text := range append(slices.Clone(unreadTexts), strings.Repeat("r ", 600), strings.Repeat("s ", 499)+"r") {
			checkDone(t, s, actPut(0, name, text), false)
		}
		for _, text := range append(manyContents(12), "r r", "r;r;r;r", "j11 s s s s s s s s s s r", "s s s s s s s s s s s r", shownOf(largest()), shownOf(callers())) {
			checkDone(t, s, actPut(0, name, text), true)
		}
	}
}

// Ten Projects, and one more; an Id that would be above 100000.
func TestP18NoRoomInTheStore(t *testing.T) {
	nine, ten := newServer(1), newServer(1)
	nine.Store, ten.Store = manyProjects(9), manyProjects(10)
	checkDone(t, nine, actPut(0, "zzzz", "r"), true)
	checkDone(t, ten, actPut(0, "zzzz", "r"), false)
	checkDone(t, ten, actPut(0, "a", "r"), false)
	for _, one := range ten.Store {
		checkDone(t, ten, actPut(0, one.Name, "r"), true)
	}
	for id, is := range map[int64]bool{99998: true, 99999: true, 100000: false} {
		s := newServer(1)
		s.Store = store(project(t, "a", id, "r"))
		checkDone(t, s, actPut(0, "a", "m0 r"), is)
		checkDone(t, s, actPut(0, "b", "m0 r"), true)
	}
	for last, is := range map[int64]bool{99996: true, 99997: false, 100000: false} {
		s := newServer(1)
		s.Store = store(project(t, "a", last, "r", "r", "r", "r"))
		checkDone(t, s, actPut(0, "a", "m0 r"), is)
	}
}

// The Ids that only a store that was told may have, above 100000, cannot be asked for.
func TestP18IdsAboveAll(t *testing.T) {
	s := newServer(1)
	s.Store = store(project(t, "a", 100000, "m0 r", "m0 r"))
	s, told := checkPlay(t, s, []impl.Act{actAsk(0, 100000, 5), actAsk(0, 100001, 5), actRun()})
	if !slices.Equal(told, []int64{1, -1, 1}) || len(s.Answers) != 1 {
		t.Error(told)
	}
}

func TestP18EdgesOfNow(t *testing.T) {
	for _, now := range append(nearEdges{0, 1000000}.numbers(), 999999) {
		for _, s := range []impl.Server{newServer(1), waitingServer(1, 2)} {
			s.Now = now
			checkEitherServer(t, "Now", s, now >= 0 && now <= 1000000)
		}
	}
	for _, now := range []int64{0, 1, 500000, 999000, 999999, 1000000} {
		s := newServer(1)
		s.Now = now
		for _, long := range []int64{1, 2, 1000, 1001, 1000000 - now - 1, 1000000 - now, 1000000 - now + 1, 1000000, math.MaxInt64 - now, math.MaxInt64, math.MaxInt64 - now + 1} {
			is := long >= 1 && long <= 1000000-now
			got := checkDone(t, s, actTick(long), is)
			if is && got.Now != now+long || !is && got.Now != now {
				t.Errorf("Now %d and %d is %d", now, long, got.Now)
			}
		}
		// One may ask at any time.
		got := checkDone(t, s, actAsk(0, 1, 1000), true)
		if got.Questions[0].Due != now+1000 {
			t.Error(got.Questions)
		}
	}
}

func TestP18EdgesOfNext(t *testing.T) {
	for _, next := range append(nearEdges{1, 1000000}.numbers(), 999999) {
		s := newServer(1)
		s.Next = next
		checkEitherServer(t, "Next", s, next >= 1 && next <= 1000000)
	}
	// The last Number, and none more.
	for _, session := range []int64{0, 7} {
		for _, busy := range []bool{false, true} {
			s := newServer(1)
			if busy {
				s = waitingServer(session, session, session, session, session)
			}
			s.Next = 999999
			got, told := diaryOf(s).checkHappen(t, s, actAsk(session, 1, 5))
			if told != 999999 || got.Next != 1000000 || (len(got.Answers) == 1) != busy {
				t.Fatalf("%d: %s", told, shownServer(got))
			}
			checkDone(t, got, actAsk(session, 1, 5), false)
			checkDone(t, got, actAsk(1, 1, 5), false)
			checkDone(t, got, actDrop(999999), !busy)
			checkDone(t, got, actPut(0, "a", "r"), true)
			got = checkDone(t, got, actRun(), true)
			checkDone(t, got, actAsk(session, 1, 5), false)
		}
	}
}

func TestP18EdgesOfQuestions(t *testing.T) {
	for _, base := range []impl.Server{waitingServer(3), waitingServer(0, 7, 0, 3), fullServer()} {
		last := len(base.Questions) - 1
		edge := func(part func(q *impl.Question) *int64, edges nearEdges) {
			t.Helper()
			for _, at := range []int{0, last / 2, last} {
				for _, n := range edges.numbers() {
					s := roomyServer(base)
					*part(&s.Questions[at]) = n
					if edges.has(n) && !isServer(s) || impl.ServerOk(s) != edges.has(n) {
						t.Fatalf("%s: ServerOk %v", shownServer(s), impl.ServerOk(s))
					}
					if last < 10 || n == edges.most || n == edges.most+1 {
						checkEitherServer(t, "a Question", s, edges.has(n))
					}
				}
			}
		}
		edge(func(q *impl.Question) *int64 { return &q.Version }, nearEdges{1, 100000})
		edge(func(q *impl.Question) *int64 { return &q.Client }, nearEdges{1, 2})
		edge(func(q *impl.Question) *int64 { return &q.Proc }, nearEdges{0, 3})
		edge(func(q *impl.Question) *int64 { return &q.At }, nearEdges{0, 11})
		edge(func(q *impl.Question) *int64 { return &q.Fact }, nearEdges{1, 6})
		edge(func(q *impl.Question) *int64 { return &q.Due }, nearEdges{1, 1001000})
	}
	for _, gone := range []bool{false, true} {
		s := waitingServer(1, 2)
		s.Questions[1].Gone = gone
		checkEitherServer(t, "Gone", s, true)
	}
}

// A Question is in its own session's Line, once, and nothing else is in one.
func TestP18EdgesOfWhatWaits(t *testing.T) {
	for session := int64(-3); session <= 10; session++ {
		s := waitingServer(4, 4, 4)
		s.Questions[1].Session = session
		checkEitherServer(t, "of another session", s, session == 4)
		if session < 0 || session > 7 {
			continue
		}
		s.Queue.Lines[4] = []int64{1, 3}
		s.Queue.Lines[session] = append(s.Queue.Lines[session], 2)
		checkEitherServer(t, "in its session's Line", s, true)
		s.Queue.Lines[(session+1)%8] = append(s.Queue.Lines[(session+1)%8], 2)
		checkEitherServer(t, "in another Line, too", s, false)
		one := waitingServer(4, 4, 4)
		one.Queue.Lines[4] = []int64{1, 2}
		checkEitherServer(t, "in no Line", one, false)
		one.Queue.Lines[session] = append(one.Queue.Lines[session], 4)
		checkEitherServer(t, "a stranger in its place", one, false)
	}
	for _, line := range [][]int64{nil, {1}, {2}, {1, 1}, {2, 2}, {1, 2, 1}, {1, 2, 2}, {1, 2, 3}, {3, 1, 2}, {1, 3}, {3, 2}, {1, 2, 1000000}, {2, 1, 2, 1}} {
		for _, next := range []int64{3, 4, 1000000} {
			s := waitingServer(6, 6)
			s.Next, s.Queue.Lines[6] = next, line
			checkEitherServer(t, "a Line", s, false)
		}
	}
	// A Line is in any order.
	s := waitingServer(6, 6, 6)
	s.Queue.Lines[6] = []int64{3, 1, 2}
	checkEitherServer(t, "in another order", s, true)
	for at := range int64(8) {
		s := waitingServer()
		s.Next, s.Queue.Lines[at] = 9, []int64{4}
		checkEitherServer(t, "nobody asked", s, false)
		s.Questions = []impl.Question{question(4, at)}
		checkEitherServer(t, "one asked", s, true)
		s.Queue.Lines[at] = nil
		checkEitherServer(t, "in no Line", s, false)
	}
}

func TestP18EdgesOfNumbers(t *testing.T) {
	withNumbers := func(next int64, numbers ...int64) impl.Server {
		s := newServer(1)
		s.Next = next
		for _, n := range numbers {
			s.Questions = append(s.Questions, question(max(n, 1), 2))
			s.Questions[len(s.Questions)-1].Number = n
			s.Queue.Lines[2] = append(s.Queue.Lines[2], n)
		}
		return s
	}
	for _, c := range []struct {
		next    int64
		numbers []int64
		is      bool
	}{
		{2, []int64{1}, true}, {1, []int64{1}, false}, {3, []int64{2}, true}, {3, []int64{1, 2}, true}, {2, []int64{1, 2}, false}, {9, []int64{1, 8}, true}, {9, []int64{1, 9}, false}, {9, []int64{8, 1}, false}, {9, []int64{2, 2}, false}, {9, []int64{1, 3, 2}, false}, {9, []int64{1, 3, 3}, false}, {9, []int64{1, 3, 8}, true}, {9, []int64{0}, false}, {9, []int64{0, 1}, false}, {9, []int64{-1}, false}, {9, []int64{-1, 1}, false}, {1000000, []int64{999999}, true}, {1000000, []int64{1, 999998, 999999}, true}, {1000000, []int64{1000000}, false}, {1000000, []int64{1000001}, false}, {1000000, []int64{math.MaxInt64}, false}, {1000000, []int64{math.MinInt64}, false}, {6, []int64{1, 2, 3, 4, 5}, true}, {5, []int64{1, 2, 3, 4, 5}, false},
	} {
		checkEitherServer(t, "Numbers", withNumbers(c.next, c.numbers...), c.is)
	}
	// Alike ones of two sessions, each in its Line.
	two := waitingServer(1, 5)
	two.Questions[1].Number, two.Queue.Lines[5][0] = 1, 1
	checkEitherServer(t, "alike ones", two, false)
	// Those that do not rise, of two sessions.
	two.Questions[0].Number, two.Queue.Lines[1][0] = 2, 2
	checkEitherServer(t, "the later one first", two, false)
	slices.Reverse(two.Questions)
	checkEitherServer(t, "in order", two, true)
}

func TestP18EdgesOfHowManyQuestions(t *testing.T) {
	for n := range 41 {
		s := waitingServer(allSessions(n, n)...)
		if !impl.ServerOk(s) || !isServer(s) || len(s.Questions) != n {
			t.Errorf("%d: %s", n, shownServer(s))
		}
	}
	checkEitherServer(t, "forty", waitingServer(allSessions(1, 40)...), true)
	for session := range int64(8) {
		s := waitingServer(allSessions(1, 40)...)
		s.Questions, s.Next = append(s.Questions, question(41, session)), 42
		checkEitherServer(t, "forty-one, of which one is in no Line", s, false)
		s.Queue.Lines[session] = append(s.Queue.Lines[session], 41)
		checkEitherServer(t, "forty-one", s, false)
	}
	s := waitingServer()
	for n := range int64(1000) {
		s.Questions, s.Next = append(s.Questions, question(n+1, 0)), n+2
	}
	checkNoServer(t, "many Questions in no Line", s)
}

func TestP18EdgesOfAnswers(t *testing.T) {
	for _, n := range []int{0, 1, 2, 298, 299, 300, 301, 302, 556, 600, 1000} {
		for _, s := range []impl.Server{newServer(1), waitingServer(1, 5)} {
			s.Next, s.Answers = 2000, answersTo(n)
			checkEitherServer(t, "how many Answers", s, n <= 300)
		}
	}
	for _, size := range []int{1, 2, 300} {
		for _, at := range []int{0, size / 2, size - 1} {
			edge := func(part func(one *impl.Answer) *int64, edges nearEdges) {
				t.Helper()
				for _, n := range edges.numbers() {
					s := waitingServer(1)
					s.Next, s.Answers = 700, answersTo(size)
					*part(&s.Answers[at]) = n
					checkEitherServer(t, "an Answer", s, edges.has(n))
				}
			}
			edge(func(one *impl.Answer) *int64 { return &one.Number }, nearEdges{1, 699})
			edge(func(one *impl.Answer) *int64 { return &one.Session }, nearEdges{0, 7})
			edge(func(one *impl.Answer) *int64 { return &one.Code }, nearEdges{1, 6})
		}
	}
	for _, next := range []int64{1, 2, 3, 1000000} {
		s := newServer(1)
		s.Next = next
		for _, number := range []int64{0, 1, next - 1, next, next + 1, 999999, 1000000, 1000001} {
			s.Answers = []impl.Answer{{Number: number, Code: 6}}
			checkEitherServer(t, "below Next", s, number >= 1 && number < next)
		}
	}
	// They need not rise, nor be unlike, nor be of others than the Questions.
	s := waitingServer(1)
	s.Answers = []impl.Answer{{Number: 1, Code: 1}, {Number: 1, Code: 1}, {Number: 1, Session: 7, Code: 2}}
	checkEitherServer(t, "alike", s, true)
}

// 299 Answers and one more; then there is no room, for Questions neither.
func TestP18NoRoomForAnswers(t *testing.T) {
	for _, n := range []int{0, 298, 299, 300} {
		for _, sessions := range [][]int64{nil, {3}, {3, 3, 3, 3, 3}, {0, 1, 3}} {
			s := waitingServer(sessions...)
			s.Next, s.Answers = 1000, answersTo(n)
			room := n < 300
			got := checkDone(t, s, actRun(), room && len(sessions) > 0)
			if room && len(sessions) > 0 && len(got.Answers) != n+1 {
				t.Errorf("%d: %s", n, shownServer(got))
			}
			got = checkDone(t, s, actAsk(3, 1, 5), room)
			if busy := len(sessions) == 5; room && (len(got.Answers) == n+1) != busy || !room && got.Next != 1000 {
				t.Errorf("%d: %s", n, shownServer(got))
			}
			checkDone(t, s, actPut(0, "a", "r"), true)
			checkDone(t, s, actTick(1), true)
			checkDone(t, s, actDrop(1), len(sessions) > 0)
		}
	}
	s := waitingServer(0, 0, 0, 0, 0, 1)
	s.Next, s.Answers = 500, answersTo(297)
	s, told := checkPlay(t, s, []impl.Act{actAsk(0, 1, 5), actRun(), actAsk(0, 1, 5), actAsk(0, 1, 5), actRun(), actAsk(1, 1, 5), actAsk(0, 1, 5)})
	if !slices.Equal(told, []int64{500, 3, 501, 502, -1, -1, -1}) || len(s.Answers) != 300 || s.Next != 503 {
		t.Error(told, shownServer(s))
	}
}

// eachFault tells wrong of each way in which one part alone of a right server can be made wrong.
func eachFault(t *testing.T, base impl.Server, wrong func(why string, change func(s *impl.Server))) {
	t.Helper()
	wrong("Now", func(s *impl.Server) { s.Now = -1 })
	wrong("Now", func(s *impl.Server) { s.Now = 1000001 })
	wrong("Next", func(s *impl.Server) { s.Next = 0 })
	wrong("Next", func(s *impl.Server) { s.Next = 1000001 })
	wrong("Turn", func(s *impl.Server) { s.Queue.Turn = 8 })
	wrong("Turn", func(s *impl.Server) { s.Queue.Turn = -1 })
	wrong("no Queue", func(s *impl.Server) { s.Queue = impl.Queue{} })
	wrong("seven Lines", func(s *impl.Server) { s.Queue.Lines = s.Queue.Lines[:7] })
	wrong("nine Lines", func(s *impl.Server) { s.Queue.Lines = append(s.Queue.Lines, nil) })
	wrong("a number in a Line", func(s *impl.Server) { s.Queue.Lines[1] = append(s.Queue.Lines[1], 0) })
	wrong("a long Line", func(s *impl.Server) { s.Queue.Lines[1] = []int64{1, 2, 3, 4, 5, 6} })
	wrong("a stranger in a Line", func(s *impl.Server) { s.Queue.Lines[6] = append(s.Queue.Lines[6], 999999) })
	wrong("one more Question", func(s *impl.Server) {
		s.Next = 1000000
		s.Questions = append(slices.DeleteFunc(s.Questions, func(q impl.Question) bool { return q.Number == 999999 }), question(999999, 6))
	})
	wrong("one more Answer", func(s *impl.Server) { s.Answers = append(s.Answers, impl.Answer{Number: s.Next, Code: 1}) })
	wrong("no Room", func(s *impl.Server) { s.Cache.Room = 0 })
	wrong("too much Room", func(s *impl.Server) { s.Cache.Room = 21 })
	wrong("no Cache", func(s *impl.Server) { s.Cache = impl.Cache{} })
	wrong("one Item twice", func(s *impl.Server) { s.Cache = cache(3, soItem(1, "r"), soItem(1, "r")) })
	wrong("no Name", func(s *impl.Server) { s.Store = store(project(t, "", 1, "r")) })
	wrong("no Version", func(s *impl.Server) { s.Store = store(impl.Project{Name: "a"}) })
	wrong("Names that do not rise", func(s *impl.Server) { s.Store = store(project(t, "b", 1, "r"), project(t, "a", 1, "r")) })
	wrong("Ids with a gap", func(s *impl.Server) {
		s.Store = store(project(t, "b", 1, "r", "r"))
		s.Store[0].Versions[1].Id = 3
	})
	wrong("no Program", func(s *impl.Server) {
		s.Store = store(project(t, "b", 1, "r"))
		s.Store[0].Versions[0].Program = alone(skip())
	})
	for i := range base.Questions {
		wrong("the zero Question", func(s *impl.Server) { s.Questions[i] = impl.Question{} })
		wrong("one Question less", func(s *impl.Server) { s.Questions = slices.Delete(s.Questions, i, i+1) })
		wrong("one Question twice", func(s *impl.Server) { s.Questions = slices.Insert(s.Questions, i, s.Questions[i]) })
	}
	for i := range min(len(base.Answers), 5) {
		wrong("the zero Answer", func(s *impl.Server) { s.Answers[i] = impl.Answer{} })
	}
}

// A server that is not right in one part alone.
func TestP18WrongServers(t *testing.T) {
	checkNoServer(t, "the zero Server", impl.Server{})
	for _, base := range someServers(t) {
		checkRightServer(t, base)
		eachFault(t, base, func(why string, change func(s *impl.Server)) {
			t.Helper()
			checkEitherServer(t, why, serverWith(base, change), false)
		})
	}
}

// A Cache that is CacheOk need not be Right.
func TestP18CachesThatAreNotRight(t *testing.T) {
	for _, c := range append(someCaches(), cache(1, item(1, "r", allOf(0))), cache(2, soItem(2, "r"), item(1, "m0 r", impl.Unit())), cache(2, item(1, "r;r", impl.Unit())), cache(2, soItem(1, "k2 k1 r;r;m3 k2 r"))) {
		for _, s := range []impl.Server{newServer(1), waitingServer(1, 2)} {
			s.Cache = c
			checkEitherServer(t, "a Cache", s, isRight(c))
		}
	}
	for i := range 20 {
		s := fullServer()
		s.Cache.Items[i].Table = changed(s.Cache.Items[i].Table, i%7, s.Cache.Items[i].Table[i%7]^1)
		if !impl.CacheOk(s.Cache) {
			t.Fatal(s.Cache)
		}
		checkEitherServer(t, "one Item that is not so", s, false)
	}
}

// More than one part is wrong.
func TestP18ServersOfManyFaults(t *testing.T) {
	s := impl.Server{Now: -1, Next: -1, Store: store(impl.Project{}), Cache: cache(-1, impl.Item{}), Queue: impl.Queue{Turn: 9, Lines: [][]int64{{0}}}, Questions: make([]impl.Question, 41), Answers: make([]impl.Answer, 301)}
	checkNoServer(t, "all", s)
	q := waitingServer(2)
	q.Questions[0].Session = 99
	checkNoServer(t, "a session beyond the Lines", q)
	q.Questions[0].Session = -1
	checkNoServer(t, "a session ahead of the Lines", q)
	q.Queue = impl.Queue{}
	checkNoServer(t, "a Question without a Queue", q)
	q.Questions[0].Session = 2
	checkNoServer(t, "a Question without a Queue", q)
}

// The spare room behind each list is no part of a server.
func TestP18TheRoomBehindIsNoPart(t *testing.T) {
	for _, s := range someServers(t) {
		checkRightServer(t, roomyServer(s))
	}
	many := fullServer()
	many.Answers = answersTo(301)
	many.Next = 400
	many.Answers = many.Answers[:300]
	checkRightServer(t, many)
}

func TestP18SaidByHand(t *testing.T) {
	for _, c := range []struct {
		a    impl.Act
		want string
	}{
		{impl.Act{Kind: impl.AcPut, Session: 1, Project: "a", Text: "m0 r"}, `{"do":"put","session":1,"project":"a","text":"m0 r"}`},
		{impl.Act{Kind: impl.AcAsk, Session: 2, Project: "lib", Version: 3, Client: 2, Proc: 4, At: 5, Fact: 6, Long: 7}, `{"do":"ask","session":2,"project":"lib","version":3,"client":2,"proc":4,"at":5,"fact":6,"long":7}`},
		{impl.Act{Kind: impl.AcRun}, `{"do":"run"}`},
		{impl.Act{Kind: impl.AcTick, Long: 9}, `{"do":"tick","long":9}`},
		{impl.Act{Kind: impl.AcDrop, Number: 17}, `{"do":"drop","number":17}`},
		{impl.Act{Kind: impl.AcPut}, `{"do":"put","session":0,"project":"","text":""}`},
		{impl.Act{Kind: impl.AcAsk}, `{"do":"ask","session":0,"project":"","version":0,"client":0,"proc":0,"at":0,"fact":0,"long":0}`},
		{impl.Act{Kind: impl.AcTick, Long: -999999999}, `{"do":"tick","long":-999999999}`},
		{impl.Act{Kind: impl.AcDrop}, `{"do":"drop","number":0}`},
		{impl.Act{Kind: impl.AcPut, Session: -1, Project: "A \"\\\n", Text: "~ "}, `{"do":"put","session":-1,"project":"A \"\\\n","text":"~ "}`},
	} {
		if got := impl.Print(impl.SaidAs(c.a)); got != c.want {
			t.Errorf("SaidAs %v: %s, want %s", c.a, got, c.want)
		}
		v, is := impl.Parse(c.want)
		if a, meant := impl.Meant(v); !is || !meant || a != c.a {
			t.Errorf("Meant of %s: %v, %v; want %v", c.want, a, meant, c.a)
		}
		if !checkSaid(t, c.a) || !checkMeant(t, v) {
			t.Error(c.want)
		}
	}
}

// saidActs have each part that their Kind needs, unlike all others.
func saidActs() []impl.Act {
	return []impl.Act{
		{Kind: 1, Session: 11, Project: "proj", Text: "the text"}, {Kind: 2, Session: 12, Project: "name", Version: 13, Client: 14, Proc: 15, At: 16, Fact: 17, Long: 18}, {Kind: 3}, {Kind: 4, Long: 19}, {Kind: 5, Number: 20},
	}
}

// Each part of each Kind: one that it needs is said, of any other there is none but where it is zero.
func TestP18EachPartIsSaid(t *testing.T) {
	for _, a := range saidActs() {
		if !checkSaid(t, a) {
			t.Fatal(a)
		}
		for _, part := range strings.Fields("session project version text client proc at fact long number") {
			needed := slices.Contains(strings.Fields(keysBy[a.Kind]), part)
			other := a
			field := fieldBy(&other, part)
			if part == "project" || part == "text" {
				for n := range 104 {
					field.SetString(strings.Repeat("x", n))
					if got := checkSaid(t, other); got != (n == 0 || needed && n <= 100) {
						t.Errorf("%v: %v", other, got)
					}
				}
				for b := range 256 {
					field.SetString("a" + string([]byte{byte(b)}))
					if got := checkSaid(t, other); got != (needed && (b == 10 || b >= 32 && b <= 126)) {
						t.Errorf("%v: %v", other, got)
					}
				}
				continue
			}
			for _, n := range append(nearEdges{-999999999, 999999999}.numbers(), -999999998) {
				field.SetInt(n)
				if got := checkSaid(t, other); got != (n == 0 || needed && n >= -999999999 && n <= 999999999) {
					t.Errorf("%v: %v", other, got)
				}
			}
		}
	}
}

func TestP18NothingIsSaidOfNoKind(t *testing.T) {
	for _, kind := range (nearEdges{1, 5}).numbers() {
		for _, a := range append(saidActs(), impl.Act{}) {
			was := a.Kind
			a.Kind = kind
			if got := checkSaid(t, a); got && (kind < 1 || kind > 5) || !got && kind == was && kind != 0 {
				t.Errorf("%v: %v", a, got)
			}
		}
	}
	if got := impl.SaidAs(impl.Act{}); !isZero(got) {
		t.Error(got)
	}
}

// otherItems are of each kind; some are like what is needed, and are not.
func otherItems() []impl.Value {
	return []impl.Value{null(), boolean(0), boolean(1), num(0), num(1), num(-999999999), num(999999999), text(""), text("a"), text("put"), text("1"), list(), list(num(1)), dict(""), dict("a", num(1)), list(text("run"))}
}

func TestP18MeantOfOtherItems(t *testing.T) {
	right, wrong := 0, 0
	for _, a := range saidActs() {
		for at := range saidOf(a).Items {
			for _, item := range otherItems() {
				v := copied(saidOf(a))
				needsNum := v.Items[at].Kind == impl.JsNum
				v.Items[at] = item
				is := checkMeant(t, v)
				if is != (needsNum && item.Kind == impl.JsNum || !needsNum && item.Kind == impl.JsText && (at > 0 || item.Text == wordsBy[a.Kind])) {
					t.Errorf("%v: %v", v, is)
				}
				if is {
					right++
				} else {
					wrong++
				}
			}
			for _, item := range []impl.Value{num(1000000000), num(-1000000000), text(strings.Repeat("a", 101)), text("\x7f"), text("\x1f"), boolean(2), {}, {Kind: 7}, {Kind: impl.JsNum, Text: "a"}, {Kind: impl.JsText, Num: 1}, nested(num(1), 6)} {
				v := copied(saidOf(a))
				v.Items[at] = item
				if checkMeant(t, v) {
					t.Errorf("%v is meant", v)
				}
			}
		}
	}
	if right < 30 || wrong < 100 {
		t.Error(right, "right,", wrong, "wrong")
	}
}

func TestP18MeantOfOtherWords(t *testing.T) {
	words := []string{"put", "ask", "run", "tick", "drop"}
	for _, a := range saidActs() {
		for _, word := range append(words, "", " ", "Put", "PUT", "puts", "pu", "ut", "put ", " put", "put\n", "do", "tock", "rundrop", "put ask", "1", "null", "run.", "stop") {
			v := copied(saidOf(a))
			v.Items[0].Text = word
			if is := checkMeant(t, v); is != (word == wordsBy[a.Kind]) {
				t.Errorf("%v: %v", v, is)
			}
		}
	}
}

func TestP18MeantOfOtherKeys(t *testing.T) {
	more := strings.Fields("do session project version text client proc at fact long number kind Do DO dO sessions a x")
	for _, a := range saidActs() {
		said := saidOf(a)
		for at := range said.Keys {
			// One fewer, or another one.
			v := copied(said)
			v.Keys, v.Items = slices.Delete(v.Keys, at, at+1), slices.Delete(v.Items, at, at+1)
			if checkMeant(t, v) {
				t.Errorf("%v is meant", v)
			}
			for _, key := range append(more, "", " ", said.Keys[at]+" ", " "+said.Keys[at], strings.ToUpper(said.Keys[at]), said.Keys[at][1:]) {
				v := copied(said)
				v.Keys[at] = key
				if is := checkMeant(t, v); is != (key == said.Keys[at]) {
					t.Errorf("%v: %v", v, is)
				}
			}
			// In another order, by two at a time.
			for other := range at {
				v := copied(said)
				v.Keys[at], v.Keys[other] = v.Keys[other], v.Keys[at]
				if checkMeant(t, v) {
					t.Errorf("%v is meant", v)
				}
				v.Items[at], v.Items[other] = v.Items[other], v.Items[at]
				if checkMeant(t, v) {
					t.Errorf("%v is meant", v)
				}
			}
		}
		// One more, wherever.
		for at := range len(said.Keys) + 1 {
			for _, key := range append(more, "") {
				for _, item := range []impl.Value{num(1), text("a"), text("run"), null()} {
					v := copied(said)
					v.Keys, v.Items = slices.Insert(v.Keys, at, key), slices.Insert(v.Items, at, item)
					if checkMeant(t, v) {
						t.Errorf("%v is meant", v)
					}
				}
			}
		}
		// All but those ahead, all but those behind, and backwards.
		for at := 1; at < len(said.Keys); at++ {
			for _, v := range []impl.Value{{Kind: impl.JsMap, Keys: said.Keys[at:], Items: said.Items[at:]}, {Kind: impl.JsMap, Keys: said.Keys[:at], Items: said.Items[:at]}, {Kind: impl.JsMap, Keys: said.Keys[:at], Items: said.Items}, {Kind: impl.JsMap, Keys: said.Keys, Items: said.Items[:at]}} {
				if checkMeant(t, v) {
					t.Errorf("%v is meant", v)
				}
			}
		}
		turned := copied(said)
		slices.Reverse(turned.Keys)
		slices.Reverse(turned.Items)
		if checkMeant(t, turned) != (len(said.Keys) == 1) {
			t.Errorf("%v", turned)
		}
	}
}

func TestP18MeantOfWhatIsNoMap(t *testing.T) {
	values := append(otherItems(), impl.Value{}, impl.Value{Kind: impl.JsMap, Keys: []string{"do"}}, impl.Value{Kind: impl.JsMap, Items: []impl.Value{text("run")}}, impl.Value{Kind: -1}, text(`{"do":"run"}`))
	for _, a := range saidActs() {
		said := saidOf(a)
		list, spoilt, more := said, said, said
		list.Kind, list.Keys = impl.JsList, nil
		spoilt.Num = 1
		more.Text = "a"
		values = append(values, list, spoilt, more, impl.Value{Kind: impl.JsList, Items: []impl.Value{said}}, dict("do", said), impl.Value{Kind: impl.JsList, Keys: said.Keys, Items: said.Items})
	}
	for _, v := range values {
		if checkMeant(t, v) {
			t.Errorf("%v is meant", v)
		}
	}
}

// What is parsed means what it says, with blanks or without.
func TestP18MeantOfWhatIsParsed(t *testing.T) {
	d := draws(183)
	for range 400 {
		a := d.act(newServer(1))
		said := impl.SaidAs(a)
		if !checkSaid(t, a) {
			continue
		}
		s := impl.Print(said)
		for _, x := range []string{s, spread(s, 1), spread(s, 3)} {
			v, is := impl.Parse(x)
			if got, meant := impl.Meant(v); !is || !meant || got != a {
				t.Fatalf("%s: %v, %v", x, got, meant)
			}
		}
	}
	for range 2000 {
		checkMeant(t, d.value(4))
	}
}

// serverAnswers are all that the chapter tells of a server and of acts.
type serverAnswers struct {
	servers []impl.Server
	told    [][]int64
	mine    [][]impl.Answer
	acts    []impl.Act
	said    []impl.Value
}

// serverAnswersOf asks for each twice.
func serverAnswersOf(s impl.Server, acts []impl.Act) serverAnswers {
	var all serverAnswers
	for range 2 {
		for _, a := range acts {
			got, _ := impl.Happen(s, a)
			all.servers = append(all.servers, got)
			said := impl.SaidAs(a)
			meant, _ := impl.Meant(said)
			all.said, all.acts = append(all.said, said), append(all.acts, meant)
		}
		got, told := impl.Play(s, acts)
		none, nothing := impl.Play(s, nil)
		fresh, _ := impl.NewServer(2)
		all.servers, all.told = append(all.servers, got, none, fresh), append(all.told, told, nothing)
		for session := int64(-1); session <= 8; session++ {
			all.mine = append(all.mine, impl.Mine(s, session))
		}
	}
	return all
}

func (all serverAnswers) lie() []stretch {
	var lie []stretch
	for _, s := range all.servers {
		lie = append(lie, serverLies(s)...)
	}
	for _, told := range all.told {
		lie = append(lie, liesAt(told)...)
	}
	for _, mine := range all.mine {
		lie = append(lie, liesAt(mine)...)
	}
	for _, a := range all.acts {
		lie = append(append(lie, textLies(a.Project)...), textLies(a.Text)...)
	}
	for _, v := range all.said {
		lie = append(lie, memoryOf(v)...)
	}
	return lie
}

func (all serverAnswers) spoil() {
	for _, s := range all.servers {
		spoilServer(s)
	}
	for _, told := range all.told {
		spoilNumbers(told)
	}
	for _, mine := range all.mine {
		spoilAnswers(mine)
	}
	for _, v := range all.said {
		spoilTexts(v.Keys)
		for i := range v.Items[:cap(v.Items)] {
			v.Items[:cap(v.Items)][i] = text("spoilt")
		}
	}
}

func checkServerMemory(t *testing.T, s impl.Server, acts []impl.Act, given []stretch) {
	t.Helper()
	shown := fmt.Sprint(s, acts)
	all := serverAnswersOf(s, acts)
	checkManyApart(t, shownServer(s), append(all.lie(), given...))
	want := fmt.Sprint(all)
	all.spoil()
	if again := fmt.Sprint(serverAnswersOf(s, acts)); again != want || fmt.Sprint(s, acts) != shown {
		t.Fatalf("%.900s is %s: %.900s, once written over %.900s", shown, shownServer(s), want, again)
	}
	runtime.KeepAlive(s)
	runtime.KeepAlive(acts)
	runtime.KeepAlive(all)
}

// clippedServer is a copy of which no list has room behind it.
func clippedServer(s impl.Server) impl.Server {
	copied := roomyServer(s)
	copied.Store, copied.Cache.Items, copied.Queue = slices.Clip(copied.Store), slices.Clip(copied.Cache.Items), queueOfClipped(s.Queue)
	copied.Questions, copied.Answers = slices.Clip(copied.Questions), slices.Clip(copied.Answers)
	for i, one := range copied.Store {
		copied.Store[i].Versions = slices.Clip(one.Versions)
	}
	return copied
}

// toldActs make each part of a server anew, in many ways.
func toldActs() []impl.Act {
	return slices.Concat(someActs(), saidActs(), []impl.Act{actPut(0, "a", "k2 k1 r;r;m3 k2 r"), actAsk(0, 1, 9), actRun(), actRun(), actDrop(3), actAsk(0, 3, 9), actAsk(3, 3, 9), actRun()})
}

func TestP21ServerAnswersAreNewMemory(t *testing.T) {
	wrong := []impl.Server{{}, {Next: 1}, serverWith(fullServer(), func(s *impl.Server) { s.Now = -1 }), serverWith(fullServer(), func(s *impl.Server) { s.Questions[0].Fact = 0 })}
	for _, s := range append(someServers(t), wrong...) {
		for _, given := range []impl.Server{roomyServer(s), clippedServer(s)} {
			acts := roomyActs(toldActs())
			checkServerMemory(t, given, acts, append(serverLies(given), actsLie(acts)...))
		}
	}
}

// What is given may share memory with itself; what is told of it does not.
func TestP21ServersThatShareMemory(t *testing.T) {
	s := newServer(8)
	name := strings.Clone("abcdefghijkl")
	stmts := roomy(alone(mark(0), call(0), back())).Procs[0].Stmts
	p := impl.Program{Procs: []impl.Proc{{Stmts: stmts[:3]}, {Stmts: stmts[2:3]}}}
	versions := roomyList([]impl.Version{{Id: 1, Program: p}, {Id: 2, Program: p}}, impl.Version{Id: 4711})
	s.Store = []impl.Project{{Name: name[:1], Versions: versions}, {Name: name[:2], Versions: versions[:1]}, {Name: name[1:], Versions: versions}}
	row := roomyNumbers([]int64{1, 2, 3, 4, 5, 6, 7, 8})
	for i := range s.Queue.Lines {
		s.Queue.Lines[i] = row[i : i+1]
		q := question(int64(i+1), int64(i))
		q.Project, q.Version = name[:1+i%2], 1
		s.Questions = append(s.Questions, q)
	}
	s.Next, s.Answers = 9, answersTo(8)
	table := roomyNumbers(tableBy(1, "r"))
	s.Cache.Items = []impl.Item{item(1, "r", table), item(2, "r", table)}
	checkRightServer(t, s)
	acts := []impl.Act{actPut(0, name[:1], "m0 r"), actPut(0, name, "r"), actRun(), actRun(), {Kind: 2, Project: name[2:], Version: 1, Client: 1, Fact: 1, Long: 4}, actDrop(8)}
	given := slices.Concat(liesAt(s.Store), liesAt(versions), liesAt(p.Procs), liesAt(stmts), textLies(name), liesAt(s.Cache.Items), liesAt(table), liesAt(s.Queue.Lines), liesAt(row), liesAt(s.Questions), liesAt(s.Answers), liesAt(acts))
	for _, text := range []string{acts[0].Text, acts[1].Text} {
		given = append(given, textLies(text)...)
	}
	checkServerMemory(t, s, acts, given)
}

// An answer is not written when one goes on from it, twice.
func TestP21ServersThatWereToldStay(t *testing.T) {
	d := draws(184)
	for _, s := range someServers(t) {
		told, shown := []impl.Server{s}, []string{fmt.Sprint(s)}
		keep := func(got impl.Server) {
			told, shown = append(told, got), append(shown, fmt.Sprint(got))
		}
		for range 40 {
			from := told[len(told)-1-d.below(min(len(told), 3))]
			for range 3 {
				got, _ := impl.Happen(from, d.act(from))
				keep(got)
			}
			got, _ := impl.Play(from, []impl.Act{d.act(from), d.act(from), actRun()})
			keep(got)
		}
		for i, got := range told {
			if fmt.Sprint(got) != shown[i] {
				t.Fatalf("%.900s was changed to %s", shown[i], shownServer(got))
			}
		}
	}
}

func TestP21ServerArgumentsStay(t *testing.T) {
	wrong := []impl.Server{{}, serverWith(waitingServer(1), func(s *impl.Server) { s.Next = 1 }), serverWith(fullServer(), func(s *impl.Server) { s.Questions[39].Due = 0 })}
	for _, s := range append(someServers(t), wrong...) {
		serverStaysWhile(t, s, toldActs(), func(s impl.Server, acts []impl.Act) {
			for range 2 {
				impl.ServerOk(s)
				serverAnswersOf(s, acts).spoil()
			}
		})
	}
}

func TestP21SaidArgumentsStay(t *testing.T) {
	var values []impl.Value
	for _, a := range append(saidActs(), impl.Act{}, actPut(0, strings.Repeat("a", 101), "")) {
		values = append(values, saidOf(a), list(saidOf(a)))
	}
	values = append(values, otherItems()...)
	for _, v := range values {
		room := copied(v)
		before := whole(copied(v))
		a, is := impl.Meant(room)
		impl.Meant(room)
		if !unchanged(before, room) {
			t.Fatalf("%v was changed to %v", before, whole(room))
		}
		lie := slices.Concat(memoryOf(room), textLies(a.Project), textLies(a.Text))
		other, _ := impl.Meant(room)
		checkManyApart(t, "Meant", slices.Concat(lie, textLies(other.Project), textLies(other.Text)))
		said, again := impl.SaidAs(a), impl.SaidAs(a)
		checkApart(t, said)
		checkManyApart(t, "SaidAs", slices.Concat(memoryOf(said), memoryOf(again), lie))
		if is != !isZero(said) {
			t.Fatalf("%v: %v", a, said)
		}
		runtime.KeepAlive(room)
		runtime.KeepAlive(other)
	}
}

func TestP21EndsOfInt64Servers(t *testing.T) {
	for _, end := range []int64{math.MinInt64, math.MinInt64 + 1, math.MaxInt64 - 1, math.MaxInt64} {
		for _, s := range someServers(t) {
			for _, a := range saidActs() {
				a.Project, a.Text = "a", "r"
				for _, part := range actNumbers(&a)[1:] {
					was := *part
					*part = end
					diaryOf(s).checkHappen(t, s, a)
					checkSaid(t, a)
					*part = was
				}
				a.Kind = end
				checkDone(t, s, a, false)
			}
			if got := impl.Mine(s, end); len(got) != 0 {
				t.Error(got)
			}
			wrong := func(change func(s *impl.Server)) {
				t.Helper()
				checkNoServer(t, "an end", serverWith(s, change))
			}
			wrong(func(s *impl.Server) { s.Now = end })
			wrong(func(s *impl.Server) { s.Next = end })
			wrong(func(s *impl.Server) { s.Cache.Room = end })
			wrong(func(s *impl.Server) { s.Queue.Turn = end })
			wrong(func(s *impl.Server) { s.Answers = append(s.Answers, impl.Answer{Number: end, Code: 1}) })
			wrong(func(s *impl.Server) { s.Questions = append(s.Questions, impl.Question{Number: end}) })
			for i := range min(3, len(s.Questions)) {
				for _, part := range []func(q *impl.Question) *int64{
					func(q *impl.Question) *int64 { return &q.Number }, func(q *impl.Question) *int64 { return &q.Session }, func(q *impl.Question) *int64 { return &q.Version }, func(q *impl.Question) *int64 { return &q.Client }, func(q *impl.Question) *int64 { return &q.Proc }, func(q *impl.Question) *int64 { return &q.At }, func(q *impl.Question) *int64 { return &q.Fact }, func(q *impl.Question) *int64 { return &q.Due },
				} {
					wrong(func(s *impl.Server) { *part(&s.Questions[i]) = end })
				}
			}
		}
		if _, is := impl.NewServer(end); is {
			t.Error("NewServer", end)
		}
	}
}

func TestP21GreatServers(t *testing.T) {
	great := strings.Repeat("r ", 1<<23) + "r"
	for _, s := range []impl.Server{newServer(1), fullServer()} {
		for _, a := range []impl.Act{actPut(0, "a", great), actPut(0, great, "r"), {Kind: 2, Project: great, Version: 1, Client: 1, Fact: 1, Long: 1}} {
			if got, told := impl.Happen(s, a); told != -1 || !sameServer(got, s) {
				t.Error("a great act was done:", told)
			}
			if got := impl.SaidAs(a); !isZero(got) {
				t.Error("a great act was said")
			}
		}
		if got, told := impl.Play(s, make([]impl.Act, 1<<22)); len(told) != 0 || !isZeroServer(got) {
			t.Error("a great script was played")
		}
		for why, change := range map[string]func(s *impl.Server){
			"Answers":   func(s *impl.Server) { s.Answers = make([]impl.Answer, 1<<22) },
			"alike":     func(s *impl.Server) { s.Next, s.Answers = 9, slices.Repeat(answersTo(1), 1<<22) },
			"Questions": func(s *impl.Server) { s.Questions = slices.Repeat([]impl.Question{question(1, 0)}, 1<<20) },
			"a Line":    func(s *impl.Server) { s.Queue.Lines[0] = slices.Repeat([]int64{1}, 1<<22) },
			"a Name":    func(s *impl.Server) { s.Store = store(impl.Project{Name: great}) },
			"Projects":  func(s *impl.Server) { s.Store = make([]impl.Project, 1<<20) },
			"Items":     func(s *impl.Server) { s.Cache.Items = slices.Repeat(soItems(1, "r"), 1<<20) },
			"a Content": func(s *impl.Server) { s.Cache = cache(1, item(1, great, impl.Unit())) },
		} {
			other := roomyServer(s)
			change(&other)
			checkNoServer(t, why, other)
		}
		q := waitingServer(1)
		q.Questions[0].Project = great
		checkNoServer(t, "a great Project", q)
	}
	v := dict("do", text("put"))
	v.Keys, v.Items = slices.Repeat(v.Keys, 1<<20), slices.Repeat(v.Items, 1<<20)
	if a, is := impl.Meant(v); is || a != (impl.Act{}) {
		t.Error("a great map is meant")
	}
	loop := dict("do session", text("put"), num(1))
	loop.Items[1] = loop
	loop.Items[1].Items = loop.Items
	if a, is := impl.Meant(loop); is || a != (impl.Act{}) {
		t.Error("a map that holds itself is meant")
	}
}
