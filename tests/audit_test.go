package tests

import (
	"fmt"
	"math"
	"runtime"
	"slices"
	"strings"
	"sync"
	"testing"

	"loop.example/g00291/impl"
)

func TestP19PlainByHand(t *testing.T) {
	put := func(text string) impl.Act { return actPut(0, "a", text) }
	ask := func(session, version int64) impl.Act { return actAsk(session, version, 100) }
	for _, c := range []struct {
		acts []impl.Act
		want string
	}{
		{nil, ""}, {[]impl.Act{}, ""}, {[]impl.Act{put("m0 r")}, ""}, {[]impl.Act{actRun()}, ""}, {[]impl.Act{put("m0 r"), ask(0, 1)}, ""}, {[]impl.Act{put("m0 r"), ask(0, 1), actRun()}, " 1.1"}, {[]impl.Act{put("r"), ask(0, 1), actRun()}, " 1.2"}, {[]impl.Act{ask(0, 1), put("m0 r"), actRun()}, " 1.1"},
		// There is no such version, none yet, none any more; an older one is there still.
		{[]impl.Act{ask(0, 1), actRun()}, " 1.3"}, {[]impl.Act{put("m0 r"), ask(0, 2), actRun()}, " 1.3"}, {[]impl.Act{ask(0, 1), actRun(), put("m0 r")}, " 1.3"}, {[]impl.Act{put("m0 r"), put("r"), put("r"), put("r"), ask(0, 1), actRun()}, " 1.1"}, {[]impl.Act{put("m0 r"), put("r"), put("r"), put("r"), put("r"), ask(0, 1), actRun()}, " 1.3"}, {[]impl.Act{put("m0 r"), ask(0, 1), put("r"), put("r"), put("r"), put("r"), actRun()}, " 1.3"},
		// It was there when it was Served, though it is gone at the end.
		{[]impl.Act{put("m0 r"), ask(0, 1), actRun(), put("r"), put("r"), put("r"), put("r")}, " 1.1"}, {[]impl.Act{put("m0 r"), ask(0, 1), put("r"), ask(0, 2), actRun(), put("r"), put("r"), put("r"), put("r"), actRun()}, " 1.1 2.3"}, {[]impl.Act{put("m0 r"), ask(0, 1), put("r"), ask(0, 2), actRun(), put("r"), put("r"), put("r"), actRun()}, " 1.1 2.2"},
		// Late, Gone, and without room.
		{[]impl.Act{put("m0 r"), actAsk(0, 1, 3), actTick(2), actRun()}, " 1.1"}, {[]impl.Act{put("m0 r"), actAsk(0, 1, 3), actTick(3), actRun()}, " 1.4"}, {[]impl.Act{put("m0 r"), actAsk(0, 1, 3), actRun(), actTick(3)}, " 1.1"}, {[]impl.Act{put("m0 r"), ask(0, 1), actDrop(1), actRun()}, " 1.5"}, {[]impl.Act{put("m0 r"), ask(0, 1), actRun(), actDrop(1)}, " 1.1"}, {[]impl.Act{actAsk(0, 1, 1), actTick(1), actDrop(1), actRun()}, " 1.5"}, {[]impl.Act{actAsk(0, 1, 1), actTick(1), actRun()}, " 1.4"},
		{append(slices.Repeat([]impl.Act{ask(3, 1)}, 6), put("m0 r"), actRun(), ask(3, 1), ask(3, 1)), " 6.6 1.1 8.6"},
		// In turn.
		{[]impl.Act{put("m0 r"), ask(5, 1), ask(5, 2), ask(2, 1), actRun(), actRun(), actRun(), actRun()}, " 3.1 1.1 2.3"}, {[]impl.Act{put("m0 r"), ask(0, 2), ask(0, 1), ask(1, 1), actRun(), ask(0, 2), actRun(), actRun(), actRun()}, " 1.3 3.1 2.1 4.3"},
	} {
		if got := answersShown(checkPlain(t, c.acts, 1, 2, 20)); got != c.want {
			t.Errorf("%s: %q, want %q", shownShort(c.acts), got, c.want)
		}
	}
}

// In programs with calls and without.
func TestP19CodesByHand(t *testing.T) {
	for _, c := range codesByHand() {
		acts := []impl.Act{actPut(2, "a", c.text), asking(c.client, c.proc, c.at, c.fact), actRun()}
		if got := checkPlain(t, acts, 1); len(got) != 1 || got[0] != (impl.Answer{Number: 1, Code: c.want}) {
			t.Errorf("%q: client %d, {%d %d}, fact %d: %v, want %d", c.text, c.client, c.proc, c.at, c.fact, got, c.want)
		}
	}
}

// All that may be asked of programs of every sort.
func TestP19AllThatMayBeAsked(t *testing.T) {
	d := draws(190)
	for _, p := range append(changing(), d.simple(), d.spinning(), d.program(), d.program()) {
		var acts []impl.Act
		for i := range int64(2 * 4 * 12 * 6) {
			if len(acts) == 0 {
				acts = append(acts, actPut(1, "a", impl.ShowProgram(p)))
			}
			a := asking(1+i%2, i/2%4, i/8%12, 1+i/96)
			a.Session = i % 8
			acts = append(acts, a, actRun())
			if len(acts)+2 > 200 || i == 575 {
				checkPlain(t, acts, 1, 3)
				acts = nil
			}
		}
	}
}

// Every script of five acts of these eight.
func TestP19EveryScript(t *testing.T) {
	acts := []impl.Act{actPut(0, "a", "m0 r"), actPut(3, "a", "k1 r;r"), actAsk(0, 1, 2), actAsk(3, 2, 9), actAsk(3, 1, 9), actRun(), actTick(1), actDrop(1)}
	for n := range 1 << 15 {
		var script []impl.Act
		for k := range 5 {
			script = append(script, acts[n>>(3*k)&7])
		}
		checkPlain(t, script, 1)
	}
}

// Drawn scripts of up to 100 acts, and of up to 200: all Codes come, of both clients, by calls and without, by older versions too.
func TestP19DrawnScripts(t *testing.T) {
	d := draws(191)
	for _, most := range []int{100, 200} {
		sights, waiting := map[sight]int{}, 0
		for i := range 250 {
			acts := d.script(most - i%2*d.below(most))
			checkPlain(t, acts, 1, int64(2+i%19))
			l := lonerOf(acts)
			waiting += len(l.waiting())
			for seen, times := range l.sights {
				sights[seen] += times
			}
		}
		for code := range int64(6) {
			for _, seen := range allSights(code + 1) {
				if sights[seen] < 3 {
					t.Errorf("%d acts: %v is answered %d times", most, seen, sights[seen])
				}
			}
		}
		if waiting < 300 {
			t.Error(waiting, "wait at the end")
		}
	}
}

// allSights are what a Code may be seen of in scripts.
func allSights(code int64) []sight {
	var all []sight
	for _, client := range bothClients {
		for _, older := range []bool{false, true} {
			all = append(all, sight{code: code, client: client, older: older})
			if code < 3 {
				all = append(all, sight{code: code, client: client, older: older, calls: true})
			}
		}
	}
	return all
}

// Who is told AnYes or AnNo is told so, too, where nobody else asks.
func TestP19AsIfOneAloneHadAsked(t *testing.T) {
	d := draws(192)
	for range 15 {
		acts := d.script(100)
		codes := map[int64]int64{}
		for _, one := range checkPlain(t, acts, 4) {
			codes[one.Number] = one.Code
		}
		s := newServer(3)
		for i, a := range acts {
			behind, told := impl.Happen(s, a)
			s = behind
			if code := codes[told]; a.Kind == impl.AcAsk && (code == 1 || code == 2) {
				checkAskedAlone(t, acts, i, code)
			}
		}
	}
}

// checkAskedAlone leaves out all that others ask, and runs the one Question at some time among what is brought.
func checkAskedAlone(t *testing.T, acts []impl.Act, at int, code int64) {
	t.Helper()
	var alone []impl.Act
	for i, a := range acts {
		if i == at || a.Kind == impl.AcPut {
			alone = append(alone, a)
		}
	}
	for n := range len(alone) + 1 {
		got, _ := impl.Plain(append(slices.Clone(alone[:n]), actRun()))
		if len(got) == 1 && got[0] == (impl.Answer{Number: 1, Session: acts[at].Session, Code: code}) {
			return
		}
	}
	t.Fatalf("%s: nobody is told %d of %v", shownShort(alone), code, acts[at])
}

// The Answers come in turn, whatever is asked, and however long it takes.
func TestP19TheOrderOfAnswers(t *testing.T) {
	texts := []string{"r", shownOf(largest()), "m0 r", shownOf(callers())}
	for _, c := range []struct {
		sessions []int64
		want     string
	}{
		{[]int64{5, 5, 5, 2, 6}, "2.4 5.1 6.5 5.2 5.3"}, {[]int64{1, 1, 1, 1, 1}, "1.1 1.2 1.3 1.4 1.5"}, {[]int64{0, 7, 0, 7}, "0.1 7.2 0.3 7.4"}, {[]int64{7, 6, 5, 4, 3, 2, 1, 0}, "0.8 1.7 2.6 3.5 4.4 5.3 6.2 7.1"}, {[]int64{4, 3, 2, 4, 3, 2}, "2.3 3.2 4.1 2.6 3.5 4.4"},
	} {
		for first := range texts {
			var acts []impl.Act
			for i := range texts {
				acts = append(acts, actPut(0, "a", texts[(first+i)%4]))
			}
			for i, session := range c.sessions {
				acts = append(acts, actAsk(session, int64(1+i%4), 100))
			}
			acts = append(acts, slices.Repeat([]impl.Act{actRun(), actTick(1)}, len(c.sessions)+1)...)
			if shown := answersInOrder(checkPlain(t, acts, 1, 2)); shown != c.want {
				t.Errorf("%v: %s, want %s", c.sessions, shown, c.want)
			}
		}
	}
}

// Once Plain was told of a script, it is told again so, whoever else asks, and on however many processors.
func TestP19AlwaysAlike(t *testing.T) {
	d := draws(193)
	defer runtime.GOMAXPROCS(runtime.GOMAXPROCS(0))
	for _, acts := range [][]impl.Act{mostAsked(200), mostAsked(100), d.script(200), d.script(200), d.script(100)} {
		want := checkPlain(t, acts, 1)
		for _, processors := range []int{1, 2, 8, 64} {
			runtime.GOMAXPROCS(processors)
			for range 20 {
				if got, is := impl.Plain(acts); !is || !slices.Equal(got, want) {
					t.Fatalf("%d processors: Plain of %s: %s, %v; was %s", processors, shownShort(acts), shownShort(got), is, shownShort(want))
				}
			}
		}
		var others sync.WaitGroup
		for range 8 {
			others.Go(func() {
				if got, is := impl.Plain(acts); !is || !slices.Equal(got, want) {
					t.Errorf("beside others: Plain of %s: %s, %v; was %s", shownShort(acts), shownShort(got), is, shownShort(want))
				}
			})
		}
		others.Wait()
	}
}

// As many goroutines as there may be Questions that are answered by a version; none is left.
func TestP19AllAreJoined(t *testing.T) {
	before := runtime.NumGoroutine()
	for n := range 201 {
		acts := mostAsked(n)
		got := checkPlain(t, acts, 1)
		if want := max(0, (n-1)/2); len(got) != want {
			t.Fatalf("%d acts: %d Answers, want %d", n, len(got), want)
		}
		yes, no := 0, 0
		for _, one := range got {
			yes, no = yes+int(one.Code&1), no+int(one.Code>>1&1)
		}
		if yes+no != len(got) || n == 200 && (yes < 20 || no < 20) {
			t.Fatalf("%d acts: %d AnYes, %d AnNo", n, yes, no)
		}
		checkAllJoined(t, before)
	}
	for range 50 {
		impl.Plain(mostAsked(200))
	}
	checkNotPlain(t, append(mostAsked(200), actRun(), actRun()))
	checkAllJoined(t, before)
}

// Without an act, without a Question, and with nothing but Questions.
func TestP19ScriptsOfOneKind(t *testing.T) {
	for n := range 201 {
		for _, a := range []impl.Act{actPut(0, "a", "m0 r"), actRun(), actTick(1), actDrop(1), {}, {Kind: 6}} {
			if n%8 > 0 {
				continue
			}
			if got := checkPlain(t, slices.Repeat([]impl.Act{a}, n), 1); len(got) != 0 {
				t.Fatalf("%d of %v: %v", n, a, got)
			}
		}
		var spread []impl.Act
		for i := range n {
			spread = append(spread, actAsk(int64(i*3%8), 1, 1))
		}
		if got := checkPlain(t, spread, 1); len(got) != max(0, n-40) || len(got) > 0 && got[0] != (impl.Answer{Number: 41, Session: 0, Code: 6}) {
			t.Fatalf("%d Questions: %v", n, got)
		}
		// As many Answers as a script can make.
		if got := checkPlain(t, slices.Repeat([]impl.Act{actAsk(4, 1, 1)}, n), 1); len(got) != max(0, n-5) || len(got) > 0 && got[0] != (impl.Answer{Number: 6, Session: 4, Code: 6}) {
			t.Fatalf("%d Questions of one session: %v", n, got)
		}
	}
}

func TestP19HowManyActs(t *testing.T) {
	d := draws(194)
	drawn := d.script(200)
	for _, script := range [][]impl.Act{mostAsked(199), drawn, slices.Repeat([]impl.Act{actTick(1)}, 200), make([]impl.Act, 200), runsBehind(slices.Repeat([]impl.Act{actAsk(1, 1, 9)}, 100))} {
		script = append(slices.Clone(script), script...)
		for _, n := range []int{0, 1, 2, 99, 100, 101, 128, 199, 200} {
			checkPlain(t, script[:n], 1, 20)
		}
		for _, n := range []int{201, 202, 255, 256, 257, 300, len(script)} {
			checkNotPlain(t, script[:n])
			s, _ := impl.NewServer(1)
			if _, told := impl.Play(s, script[:n]); len(told) != 0 {
				t.Errorf("%d acts are played", n)
			}
		}
	}
	// The room behind a script is no part of it.
	room := slices.Repeat(drawn, 2)
	if got, want := checkPlain(t, room[:200], 1), checkPlain(t, slices.Clip(room[:200]), 1); !slices.Equal(got, want) {
		t.Error(got, want)
	}
}

// Forty Questions and one more; a Line that is full, and one that has room again.
func TestP19WithoutRoom(t *testing.T) {
	acts := []impl.Act{actPut(0, "a", "m0 r")}
	for _, session := range allSessions(3, 40) {
		acts = append(acts, actAsk(session, 1, 100))
	}
	if got := checkPlain(t, acts, 1); len(got) != 0 {
		t.Error(got)
	}
	for session := range int64(8) {
		more := append(slices.Clone(acts), actAsk(session, 1, 100), actRun(), actAsk(0, 1, 100), actAsk(1, 1, 100))
		if got := answersShown(checkPlain(t, more, 1)); got != " 41.6 8.1 43.6" {
			t.Errorf("session %d: %s", session, got)
		}
	}
	all := append(slices.Clone(acts), slices.Repeat([]impl.Act{actRun()}, 41)...)
	if got := checkPlain(t, all, 1, 20); len(got) != 40 {
		t.Error(got)
	}
}

// Ten Projects, and one more; of each the last four versions.
func TestP19TheStore(t *testing.T) {
	var acts []impl.Act
	for i := range int64(11) {
		name := letters(int(i))
		a := actAsk(i%8, 1, 100)
		a.Project = name
		acts = append(acts, actPut(0, name, "m0 r"), a, actRun())
	}
	got := checkPlain(t, acts, 1)
	for i, one := range got {
		if want := int64(1 + i/10*2); one.Code != want {
			t.Errorf("Project %d: %v", i, got)
		}
	}
	for last := range int64(12) {
		acts := slices.Repeat([]impl.Act{actPut(0, "a", "m0 r")}, int(last))
		for version := range int64(13) {
			acts = append(acts, actAsk(1, version+1, 100), actRun())
		}
		for i, one := range checkPlain(t, acts, 1) {
			version := int64(i + 1)
			if (one.Code == 1) != (version <= last && version > last-4) || one.Code != 1 && one.Code != 3 {
				t.Errorf("%d versions: %d of version %d", last, one.Code, version)
			}
		}
	}
}

// Up to 1000000, and not beyond.
func TestP19EdgesOfNow(t *testing.T) {
	for _, c := range []struct {
		ticks []int64
		want  string
	}{
		{[]int64{999}, " 1.1"}, {[]int64{1000}, " 1.4"}, {[]int64{1000000}, " 1.4"}, {[]int64{1000001}, " 1.1"}, {[]int64{0}, " 1.1"}, {[]int64{-1, 0, 1000001, math.MaxInt64, math.MinInt64}, " 1.1"}, {[]int64{500, 500}, " 1.4"}, {[]int64{500, 999501, 499}, " 1.1"}, {[]int64{500, 999500}, " 1.4"}, {[]int64{999, math.MaxInt64}, " 1.1"}, {[]int64{999, math.MaxInt64 - 998}, " 1.1"},
	} {
		acts := []impl.Act{actPut(0, "a", "m0 r"), actAsk(0, 1, 1000)}
		for _, long := range c.ticks {
			acts = append(acts, actTick(long))
		}
		if got := answersShown(checkPlain(t, append(acts, actRun()), 1)); got != c.want {
			t.Errorf("%v: %s, want %s", c.ticks, got, c.want)
		}
	}
	// One that is asked at the end of all time is never late.
	acts := []impl.Act{actPut(0, "a", "m0 r"), actTick(1000000), actAsk(0, 1, 1), actTick(1), actRun()}
	if got := answersShown(checkPlain(t, acts, 1)); got != " 1.1" {
		t.Error(got)
	}
	for _, long := range []int64{1, 2, 999, 1000} {
		for _, waited := range []int64{long - 1, long, long + 1} {
			acts := []impl.Act{actPut(0, "a", "m0 r"), actTick(998000), actAsk(0, 1, long), actTick(waited), actRun()}
			want := map[bool]string{false: " 1.1", true: " 1.4"}[waited >= long]
			if got := answersShown(checkPlain(t, acts, 1)); got != want {
				t.Errorf("Long %d, waited %d: %s", long, waited, got)
			}
		}
	}
}

// wrongActs are refused wherever they come in a script: of each Kind and part, and of no Kind.
func wrongActs() []impl.Act {
	acts := []impl.Act{{}, {Kind: 6}, {Kind: -1}, {Kind: math.MinInt64}, {Kind: math.MaxInt64}, {Kind: 1<<32 + 2}, actTick(0), actTick(-1), actTick(1000001), actTick(math.MaxInt64), actDrop(0), actDrop(-1), actDrop(4711), actDrop(math.MinInt64)}
	for _, session := range []int64{-1, 8, math.MinInt64, math.MaxInt64} {
		acts = append(acts, actPut(session, "a", "r"), actAsk(session, 1, 5))
	}
	for _, name := range []string{"", "A", "a1", "abcdefghijklm", "a\x00"} {
		a := actAsk(0, 1, 5)
		a.Project = name
		acts = append(acts, a, actPut(0, name, "r"))
	}
	for _, text := range append(slices.Clone(unreadTexts), strings.Repeat("r ", 600)) {
		acts = append(acts, actPut(0, "a", text))
	}
	wrong := func(part func(a *impl.Act) *int64, numbers ...int64) {
		for _, n := range append(numbers, math.MinInt64, math.MaxInt64) {
			a := actAsk(0, 1, 5)
			*part(&a) = n
			acts = append(acts, a)
		}
	}
	wrong(func(a *impl.Act) *int64 { return &a.Version }, 0, -1, 100001)
	wrong(func(a *impl.Act) *int64 { return &a.Client }, 0, 3)
	wrong(func(a *impl.Act) *int64 { return &a.Proc }, -1, 4)
	wrong(func(a *impl.Act) *int64 { return &a.At }, -1, 12)
	wrong(func(a *impl.Act) *int64 { return &a.Fact }, 0, 7, -1)
	wrong(func(a *impl.Act) *int64 { return &a.Long }, 0, 1001, -1)
	return acts
}

// What is not right changes nothing, and the rest goes on.
func TestP19WrongActs(t *testing.T) {
	script := []impl.Act{actPut(0, "a", "m0 r"), actAsk(0, 1, 9), actAsk(5, 2, 9), actRun(), actAsk(0, 1, 9), actDrop(3), actTick(1), actRun(), actPut(7, "a", "r"), actAsk(1, 2, 1), actTick(1), actRun(), actRun(), actAsk(2, 2, 9), actRun()}
	want := checkPlain(t, script, 1)
	if got := answersShown(want); got != " 1.1 2.3 3.5 4.4 5.2" {
		t.Fatal(got)
	}
	wrong := wrongActs()
	for _, a := range wrong {
		for at := range len(script) + 1 {
			acts := slices.Insert(slices.Clone(script), at, a)
			if got := checkPlain(t, acts, 1); !slices.Equal(got, want) {
				t.Errorf("%v at %d: %v, want %v", a, at, got, want)
			}
		}
	}
	d := draws(195)
	for range 100 {
		acts := slices.Clone(script)
		for len(acts) < 200 {
			acts = slices.Insert(acts, d.below(len(acts)+1), wrong[d.below(len(wrong))])
		}
		if got := checkPlain(t, acts, 1); !slices.Equal(got, want) {
			t.Errorf("%s: %v, want %v", shownShort(acts), got, want)
		}
	}
}

// withNumbers has an Answer with each of these Numbers, of sessions and Codes in turn, whatever waits.
func withNumbers(s impl.Server, numbers ...int64) impl.Server {
	return serverWith(s, func(s *impl.Server) {
		s.Next = max(s.Next, 1000)
		s.Answers = answersTo(len(numbers))
		for i, n := range numbers {
			s.Answers[i].Number = n
		}
	})
}

func TestP19OnceByHand(t *testing.T) {
	for _, c := range []struct {
		waiting []int64
		numbers []int64
		is      bool
	}{
		{nil, nil, true}, {nil, []int64{1}, true}, {nil, []int64{1, 2}, true}, {nil, []int64{2, 1}, true}, {nil, []int64{1, 1}, false}, {nil, []int64{999, 999}, false}, {nil, []int64{1, 2, 2, 3}, false}, {nil, []int64{1, 2, 3, 1}, false}, {nil, []int64{3, 1, 2, 3}, false}, {nil, []int64{7, 7, 7}, false}, {nil, []int64{9, 8, 7, 6, 5, 4, 3, 2, 1}, true}, {nil, []int64{1, 3, 2, 3, 1}, false},
		{[]int64{3}, nil, true}, {[]int64{3}, []int64{1}, false}, {[]int64{3}, []int64{2}, true}, {[]int64{3, 4}, []int64{3, 2}, false}, {[]int64{3, 4}, []int64{1, 3}, false}, {[]int64{3, 4}, []int64{3, 4}, true}, {[]int64{3, 4}, []int64{4, 3, 3}, false}, {[]int64{7, 0, 7}, []int64{5, 3, 4}, false}, {[]int64{7, 0, 7}, []int64{5, 6, 4}, true},
	} {
		checkOnce(t, "by hand", withNumbers(waitingServer(c.waiting...), c.numbers...), c.is)
	}
	checkOnce(t, "a new one", newServer(1), true)
	checkOnce(t, "a full one", fullServer(), true)
}

// Two Answers of one Number, at each two places; of two sessions, of two Codes, and alike in all.
func TestP19OnceOfTwoAnswers(t *testing.T) {
	for _, size := range []int{2, 3, 17, 260, 300} {
		s := withNumbers(waitingServer(4, 4, 6))
		s.Answers = answersTo(size)
		for i := range s.Answers {
			s.Answers[i].Number += 3
		}
		checkOnce(t, "no two", s, true)
		for _, from := range []int{0, size / 2, size - 1} {
			for _, to := range []int{0, 1, size / 2, size - 2, size - 1} {
				if from == to {
					continue
				}
				other := roomyServer(s)
				other.Answers[to].Number = other.Answers[from].Number
				checkOnce(t, "two", other, false)
				other.Answers[to] = impl.Answer{Number: other.Answers[from].Number, Session: (other.Answers[from].Session + 1) % 8, Code: other.Answers[from].Code}
				checkOnce(t, "two sessions", other, false)
				other.Answers[to] = impl.Answer{Number: other.Answers[from].Number, Session: other.Answers[from].Session, Code: other.Answers[from].Code%6 + 1}
				checkOnce(t, "two Codes", other, false)
				other.Answers[to] = other.Answers[from]
				checkOnce(t, "alike", other, false)
			}
		}
	}
}

// An Answer and a Question of one Number, at each place of each; Gone or not, of one session or of two.
func TestP19OnceOfAnAnswerAndAQuestion(t *testing.T) {
	for _, waiting := range []int{1, 2, 5, 40} {
		for _, size := range []int{1, 2, 3, 30} {
			s := waitingServer(allSessions(2, waiting)...)
			s.Next, s.Answers = 500, answersTo(size)
			for i := range s.Answers {
				s.Answers[i].Number += int64(waiting)
			}
			checkOnce(t, "none", s, true)
			for at := range size {
				for _, q := range s.Questions {
					other := roomyServer(s)
					other.Answers[at].Number = q.Number
					other.Questions[q.Number-1].Gone = at%2 == 1
					checkOnce(t, "an Answer to who waits still", other, false)
				}
				other := roomyServer(s)
				other.Answers[at].Number = 499
				checkOnce(t, "another one", other, true)
			}
		}
	}
}

// Numbers that only their last digits tell apart are not one.
func TestP19OnceOfNumbersFarApart(t *testing.T) {
	for _, far := range []int64{1 << 8, 1 << 10, 1 << 16, 100, 1000, 100000} {
		s := withNumbers(waitingServer(1), 2, 2+far, 1+far)
		s.Next = 1000000
		checkOnce(t, "far apart", s, true)
	}
	s := withNumbers(newServer(1), 1, 999999, 999998)
	s.Next = 1000000
	checkOnce(t, "the last ones", s, true)
	s.Answers[0].Number = 999999
	checkOnce(t, "the last one", s, false)
}

func TestP19Waiting(t *testing.T) {
	for n := range 41 {
		s := waitingServer(allSessions(n, n)...)
		got := impl.Waiting(s)
		if len(got) != n || n > 0 && (got[0] != 1 || got[n-1] != int64(n)) {
			t.Errorf("%d: %v", n, got)
		}
		checkOnce(t, "all wait", s, true)
	}
	// The first sessions asked last, and a Line is in any order.
	for _, sessions := range [][]int64{{7, 6, 5, 4, 3, 2, 1, 0}, {7, 7, 0, 0, 3}, {5, 0, 5, 0, 5}} {
		s := waitingServer(sessions...)
		checkOnce(t, "backwards", s, true)
		for session := range s.Queue.Lines {
			slices.Reverse(s.Queue.Lines[session])
			s.Queue.Turn = int64(session)
			checkOnce(t, "a Line backwards", s, true)
		}
	}
	sparse := waitingServer(6, 2)
	sparse.Next = 1000000
	sparse.Questions[0].Number, sparse.Questions[1].Number = 17, 999999
	sparse.Queue.Lines[6][0], sparse.Queue.Lines[2][0] = 17, 999999
	if got := impl.Waiting(sparse); !slices.Equal(got, []int64{17, 999999}) {
		t.Error(got)
	}
}

// Behind each act of a script: who is Served does not wait any more, who is Gone does.
func TestP19WaitingBehindScripts(t *testing.T) {
	s := newServer(1)
	for i, step := range []struct {
		a    impl.Act
		want []int64
	}{
		{actAsk(5, 1, 9), []int64{1}}, {actAsk(5, 1, 9), []int64{1, 2}}, {actAsk(2, 1, 9), []int64{1, 2, 3}}, {actAsk(8, 1, 9), []int64{1, 2, 3}}, {actRun(), []int64{1, 2}}, {actDrop(1), []int64{1, 2}}, {actTick(9), []int64{1, 2}}, {actAsk(0, 1, 9), []int64{1, 2, 4}}, {actRun(), []int64{2, 4}}, {actDrop(2), []int64{2, 4}}, {actDrop(4), []int64{2, 4}}, {actRun(), []int64{2}}, {actRun(), nil}, {actRun(), nil},
	} {
		s, _ = impl.Happen(s, step.a)
		if got := impl.Waiting(s); !slices.Equal(got, step.want) {
			t.Errorf("step %d: %v, want %v", i, got, step.want)
		}
		checkOnce(t, "a step", s, true)
	}
	d := draws(196)
	for range 20 {
		s := newServer(int64(1 + d.below(20)))
		for range 150 {
			s, _ = impl.Happen(s, d.act(s))
			checkOnce(t, "a drawn step", s, true)
			if all := int64(len(impl.Waiting(s)) + len(s.Answers)); all != s.Next-1 {
				t.Fatalf("%s: %d of %d wait, or are answered", shownServer(s), all, s.Next-1)
			}
		}
	}
}

// A server that is not right in one part alone, or in all.
func TestP19WrongServers(t *testing.T) {
	checkLookedOver(t, "the zero Server", impl.Server{}, false)
	for _, base := range someServers(t) {
		checkLookedOver(t, "a right one", base, true)
		checkLookedOver(t, "with room behind", roomyServer(base), true)
		eachFault(t, base, func(why string, change func(s *impl.Server)) {
			t.Helper()
			checkLookedOver(t, why, serverWith(base, change), false)
		})
	}
	for i := range 20 {
		s := fullServer()
		s.Cache.Items[i].Table = changed(s.Cache.Items[i].Table, i%7, s.Cache.Items[i].Table[i%7]^1)
		checkLookedOver(t, "one Item that is not so", s, false)
	}
}

func TestP21EndsOfInt64Audits(t *testing.T) {
	script := []impl.Act{actPut(0, "a", "m0 k1 r;r"), actAsk(1, 1, 9), actRun(), actAsk(1, 1, 9), actTick(2), actDrop(2), actAsk(3, 1, 9), actRun(), actRun()}
	for _, end := range []int64{math.MinInt64, math.MinInt64 + 1, math.MaxInt64 - 1, math.MaxInt64} {
		for i := range script {
			for part := range 9 {
				acts := slices.Clone(script)
				*actNumbers(&acts[i])[part] = end
				checkPlain(t, acts, 1)
			}
		}
		for _, s := range someServers(t) {
			for why, change := range map[string]func(s *impl.Server){
				"Now": func(s *impl.Server) { s.Now = end }, "Next": func(s *impl.Server) { s.Next = end }, "Turn": func(s *impl.Server) { s.Queue.Turn = end }, "Room": func(s *impl.Server) { s.Cache.Room = end }, "an Answer": func(s *impl.Server) { s.Answers = []impl.Answer{{Number: end, Code: 1}} }, "a Line": func(s *impl.Server) { s.Queue.Lines[3] = []int64{end} },
			} {
				checkLookedOver(t, why, serverWith(s, change), false)
			}
		}
	}
}

func TestP21GreatAudits(t *testing.T) {
	great := strings.Repeat("r ", 1<<23) + "r"
	for _, a := range []impl.Act{actPut(0, "a", great), actPut(0, great, "r"), {Kind: 2, Project: great, Version: 1, Client: 1, Fact: 1, Long: 1}, {Kind: 3, Project: great, Text: great}} {
		if got, is := impl.Plain([]impl.Act{actPut(0, "a", "m0 r"), a, asking(1, 0, 1, 1), actRun()}); !is || answersShown(got) != " 1.1" {
			t.Error("a great act:", got, is)
		}
	}
	checkNotPlain(t, make([]impl.Act, 1<<22))
	s := withNumbers(waitingServer(1, 2))
	s.Answers = slices.Repeat(answersTo(1), 1<<22)
	checkLookedOver(t, "Answers", s, false)
	s = waitingServer(1)
	s.Questions = slices.Repeat(s.Questions, 1<<20)
	checkLookedOver(t, "Questions", s, false)
}

// checkAuditMemory asks that what is told shares nothing, with what was given neither, and is told again once it was written over.
func checkAuditMemory(t *testing.T, s impl.Server, acts []impl.Act) {
	t.Helper()
	before, given := fmt.Sprint(s, acts), append(serverLies(s), actsLie(acts)...)
	plain, _ := impl.Plain(acts)
	other, _ := impl.Plain(acts)
	waiting, again := impl.Waiting(s), impl.Waiting(s)
	once := impl.Once(s)
	checkManyApart(t, shownServer(s), slices.Concat(given, liesAt(plain), liesAt(other), liesAt(waiting), liesAt(again)))
	want := fmt.Sprint(plain, waiting, once)
	spoilAnswers(plain)
	spoilAnswers(other)
	spoilNumbers(waiting)
	spoilNumbers(again)
	plain, _ = impl.Plain(acts)
	if got := fmt.Sprint(plain, impl.Waiting(s), impl.Once(s)); got != want || fmt.Sprint(s, acts) != before {
		t.Fatalf("%s, %s: %.900s, once written over %.900s", shownServer(s), shownShort(acts), want, got)
	}
	runtime.KeepAlive(other)
	runtime.KeepAlive(again)
}

func TestP21AuditAnswersAreNewMemory(t *testing.T) {
	d := draws(197)
	wrong := []impl.Server{{}, serverWith(fullServer(), func(s *impl.Server) { s.Now = -1 })}
	for _, s := range append(someServers(t), wrong...) {
		for _, acts := range [][]impl.Act{nil, toldActs(), mostAsked(200), d.script(150), make([]impl.Act, 201)} {
			for _, given := range []impl.Server{roomyServer(s), clippedServer(s)} {
				checkAuditMemory(t, given, roomyActs(acts))
			}
		}
	}
	s := withNumbers(waitingServer(allSessions(1, 40)...), 300, 200, 100)
	checkAuditMemory(t, roomyServer(s), roomyActs(mostAsked(20)))
}

func TestP21AuditArgumentsStay(t *testing.T) {
	d := draws(198)
	wrong := []impl.Server{{}, serverWith(waitingServer(1), func(s *impl.Server) { s.Next = 1 }), withNumbers(waitingServer(3, 1), 9, 2, 9, 1)}
	for _, s := range append(someServers(t), wrong...) {
		for _, acts := range [][]impl.Act{toldActs(), mostAsked(200), d.script(200), make([]impl.Act, 201)} {
			serverStaysWhile(t, s, acts, func(s impl.Server, acts []impl.Act) {
				for range 2 {
					plain, _ := impl.Plain(acts)
					spoilAnswers(plain)
					spoilNumbers(impl.Waiting(s))
					impl.Once(s)
				}
			})
		}
	}
}
