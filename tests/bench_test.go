package tests

import (
	"cmp"
	"fmt"
	"math"
	"runtime"
	"slices"
	"strings"
	"testing"
	"unsafe"

	"loop.example/g00291/impl"
)

func TestP20BenchByHand(t *testing.T) {
	for _, c := range []struct{ text, want string }{
		{"", ""}, {"answers", "none\n"}, {"answers\n", "none\n"}, {"\nanswers\n", "none\n"}, {"what", "error\n"}, {"{}", "error\n"}, {"tests r", "none\n"}, {"unset r", "none\n"}, {"gates r", "0\n"},
		{"tests m0 t0 r", "0.1\n"}, {"tests t0 m0 r", "none\n"}, {"unset t0 r", "0.0\n"}, {"unset m0 t0 r", "none\n"}, {"unset t3 m3 t3 r", "0.0\n"}, {"gates s r", "0 1\n"}, {"gates j2 s r", "0 2\n"}, {"gates j0 r", "0 1\n"}, {"gates r r", "none\n"},
		{"tests m0 t0 t0 r", "0.1 0.2\n"}, {"tests m0 k1 r;t0 t1 t0 r", "1.0 1.2\n"}, {"unset t0 k1 t1 r;t2 r", "0.0 0.2 1.0\n"},
		{"{\"do\":\"tick\",\"long\":5}", "5\n"}, {"{\"do\":\"tick\",\"long\":5}\n{\"do\":\"tick\",\"long\":7}\n", "5\n12\n"}, {"{\"do\":\"run\"}", "error\n"}, {"{\"do\":\"drop\",\"number\":1}", "error\n"},
		{"{\"do\":\"put\",\"session\":0,\"project\":\"a\",\"text\":\"m0 r\"}", "1\n"}, {"{\"do\":\"put\",\"session\":7,\"project\":\"a\",\"text\":\"r\"}\n{\"do\":\"put\",\"session\":0,\"project\":\"b\",\"text\":\"r\"}\n{\"do\":\"put\",\"session\":0,\"project\":\"a\",\"text\":\"r\"}", "1\n1\n2\n"},
		{"{\"do\":\"ask\",\"session\":3,\"project\":\"a\",\"version\":1,\"client\":1,\"proc\":0,\"at\":1,\"fact\":1,\"long\":9}\nanswers\n{\"do\":\"run\"}\nanswers", "1\nnone\n3\n1.3\n"},
		{"tests r\nunset r\ngates r\nanswers\n", "none\nnone\n0\nnone\n"}, {"\n\n\ntests r\n\n\ngates r\n\n", "none\n0\n"},
	} {
		if got := checkBench(t, c.text); got != c.want {
			t.Errorf("%q: %q, want %q", c.text, got, c.want)
		}
	}
}

// A session by hand: each Kind of act, and what is told in between.
func TestP20SessionByHand(t *testing.T) {
	checkToldBy(t,
		`{"do":"put","session":0,"project":"main","text":"m0 k1 t1 r;c1,0 r"}`, "1",
		`{"do":"ask","session":4,"project":"main","version":1,"client":1,"proc":0,"at":2,"fact":2,"long":10}`, "1",
		`{"do":"ask","session":4,"project":"main","version":1,"client":2,"proc":0,"at":2,"fact":1,"long":10}`, "2",
		`{"do":"ask","session":2,"project":"main","version":2,"client":1,"proc":0,"at":1,"fact":1,"long":10}`, "3",
		"answers", "none",
		`{"do":"run"}`, "3",
		"answers", "3.3",
		"tests m0 k1 t1 r;c1,0 r", "0.2",
		`{"do":"run"}`, "1",
		`{"do":"run"}`, "2",
		"answers", "3.3 1.1 2.2",
		`{"do":"run"}`, "error",
		`{"do":"tick","long":999990}`, "999990",
		`{"do":"tick","long":11}`, "error",
		`{"do":"tick","long":10}`, "1000000",
		`{"do":"ask","session":7,"project":"main","version":1,"client":1,"proc":0,"at":1,"fact":1,"long":1000}`, "4",
		`{"do":"drop","number":4}`, "0",
		`{"do":"drop","number":4}`, "error",
		`{"do":"put","session":7,"project":"main","text":"r"}`, "2",
		`{"do":"run"}`, "5",
		"unset t0 r", "0.0",
		"gates r r", "none",
		"answers", "3.3 1.1 2.2 4.5",
	)
}

// Numbers of each size, 0 too, and none with a nought or a + ahead.
func TestP20HowNumbersAreTold(t *testing.T) {
	for _, long := range []int64{1, 9, 10, 11, 99, 100, 101, 999, 1000, 12345, 999999, 1000000} {
		checkToldBy(t, lineOf(actTick(long)), fmt.Sprint(long))
	}
	var pairs []string
	for i := range 12 {
		pairs = append(pairs, lineOf(actPut(0, "a", "r")), fmt.Sprint(i+1))
	}
	checkToldBy(t, pairs...)
	checkToldBy(t, "gates s s s s s s s s s s s r", "0 1 2 3 4 5 6 7 8 9 10 11", "unset s s s s s s s s s s t5 r;r", "0.10", "tests m2 k3 r;r;r;t0 t1 t2 r", "3.2")
	// Two digits of each of an Answer's numbers.
	pairs = nil
	var told []string
	for i := range 14 {
		pairs = append(pairs, lineOf(actAsk(3, 1, 5)), fmt.Sprint(i+1), lineOf(actRun()), "3")
		told = append(told, fmt.Sprintf("%d.3", i+1))
	}
	checkToldBy(t, append(pairs, "answers", strings.Join(told, " "))...)
}

// Acts of each Kind, printed and with blanks between: as Play of them.
func TestP20ActsAreDone(t *testing.T) {
	d := draws(200)
	done, wrong := map[string]int{}, sayable(wrongActs())
	for i := range 120 {
		acts := sayable(d.script(20 + d.below(160)))
		for range 10 {
			acts = slices.Insert(acts, d.below(len(acts)+1), wrong[d.below(len(wrong))])
		}
		var rows []string
		for _, a := range acts {
			rows = append(rows, spreadLine(lineOf(a), i%3*d.below(3)))
		}
		rows = fitting(rows)
		s := newServer(3)
		s, told := impl.Play(s, acts[:len(rows)])
		if got := checkBench(t, ended(rows...)); got != ended(toldWords(told)...) {
			t.Fatalf("%s: %s, want %v", shownText(ended(rows...)), shownText(got), told)
		}
		for k, n := range told {
			done[fmt.Sprint(acts[k].Kind, " ", n >= 0)]++
		}
		if len(rows) < 200 && len(ended(rows...)) < 19000 {
			want := cmp.Or(strings.TrimPrefix(answersShown(s.Answers), " "), "none")
			if got := rowsOf(checkBench(t, ended(append(rows, "answers")...))); got[len(got)-1] != want {
				t.Fatalf("%s: %s, want %s", shownText(ended(rows...)), got[len(got)-1], want)
			}
		}
	}
	for kind := range 5 {
		for _, is := range []bool{false, true} {
			if what := fmt.Sprint(kind+1, " ", is); done[what] < 30 {
				t.Error(what, done[what])
			}
		}
	}
}

// Each act alone, of each Kind and some that are refused: the number that Happen tells of a NewServer(3).
func TestP20ActsAlone(t *testing.T) {
	for _, a := range slices.Concat(someActs(), saidActs(), wrongActs(), toldActs()) {
		row := lineOf(a)
		if row == "" {
			continue
		}
		_, told := impl.Happen(newServer(3), a)
		for blanks := range 4 {
			checkToldBy(t, spreadLine(row, blanks), toldWords([]int64{told})[0])
		}
	}
}

// Blanks are as one likes between the parts of an act and behind it, but ahead of it none.
func TestP20BlanksOfActs(t *testing.T) {
	for _, a := range []impl.Act{actPut(2, "lib", "m0 k1 r;r"), actAsk(5, 1, 9), actTick(7)} {
		row := lineOf(a)
		_, told := impl.Happen(newServer(3), a)
		want := toldWords([]int64{told})[0]
		parts := partsOf(row)
		for i := 1; i <= len(parts); i++ {
			for _, blanks := range []int{1, 2, 17, 5000} {
				spaced := strings.Join(parts[:i], "") + strings.Repeat(" ", blanks) + strings.Join(parts[i:], "")
				checkToldBy(t, spaced, want, "answers", "none")
			}
		}
		checkToldBy(t, " "+row, "error", "  "+row, "error", row, want)
	}
	for _, empty := range []string{"{", "{ ", "{}", "{ }", "{\"do\"}", "{\"do\":}", "{,}"} {
		checkToldBy(t, empty, "error", "gates r", "0")
	}
}

// Answers are told in the order in which they came, between any two acts.
func TestP20AnswersBehindRuns(t *testing.T) {
	d := draws(201)
	longest := 0
	for range 60 {
		var rows, want []string
		s := newServer(3)
		for _, a := range sayable(d.script(90)) {
			behind, told := impl.Happen(s, a)
			s = behind
			var answered []string
			for _, one := range s.Answers {
				answered = append(answered, fmt.Sprintf("%d.%d", one.Number, one.Code))
			}
			rows, want = append(rows, lineOf(a), "answers"), append(want, toldWords([]int64{told})[0], orNone(answered))
			longest = max(longest, len(answered))
		}
		n := len(fitting(rows))
		if got := checkBench(t, ended(rows[:n]...)); got != ended(want[:n]...) {
			t.Fatalf("%s: %s, want %s", shownText(ended(rows[:n]...)), shownText(got), shownText(ended(want[:n]...)))
		}
	}
	if longest < 20 {
		t.Error("at most", longest, "Answers")
	}
}

// As many Answers as lines can make: who asks much is busy, and all is told.
func TestP20ManyAnswers(t *testing.T) {
	row := lineOf(impl.Act{Kind: 2, Session: 1, Project: "a", Version: 1, Client: 1, Fact: 1, Long: 1})
	var rows, want []string
	for i := range 199 {
		rows = append(rows, row)
		if i >= 5 {
			want = append(want, fmt.Sprintf("%d.6", i+1))
		}
	}
	told := rowsOf(checkBench(t, ended(append(rows, "answers")...)))
	if got := told[len(told)-1]; len(told) != 200 || got != strings.Join(want, " ") {
		t.Error(got)
	}
}

// checkOfProgram asks for what the three words tell of a program: by the functions of the chapters, and by the tests' own word.
func checkOfProgram(t *testing.T, p impl.Program) (told [3]string) {
	t.Helper()
	shown := impl.ShowProgram(p)
	var lists [3][]string
	for i, client := range bothClients {
		places := impl.Tests(p, client)
		if want := placesOf(p, client).tests(p); !slices.Equal(places, want) {
			t.Fatalf("%s: Tests %v, want %v", shown, places, want)
		}
		for _, place := range places {
			lists[i] = append(lists[i], fmt.Sprintf("%d.%d", place.Proc, place.At))
		}
	}
	first := p.Procs[0]
	last := len(first.Stmts) - 1
	gates := impl.Gates(first, int64(last))
	if want := gatesByBarring(first)[last]; !slices.Equal(gates, want) {
		t.Fatalf("%s: Gates %v, want %v", shown, gates, want)
	}
	for _, gate := range gates {
		lists[2] = append(lists[2], fmt.Sprint(gate))
	}
	for i, list := range lists {
		told[i] = orNone(list)
	}
	checkToldBy(t, "tests "+shown, told[0], "unset "+shown, told[1], "gates "+shown, told[2])
	return told
}

// Programs with calls and without, of one procedure up to four: each word tells something of most, and none of some.
func TestP20OfPrograms(t *testing.T) {
	type sort struct {
		word, procs int
		calls, none bool
	}
	seen := map[sort]int{}
	see := func(p impl.Program) {
		calls := strings.Contains(impl.ShowProgram(p), "k")
		for word, told := range checkOfProgram(t, p) {
			seen[sort{word, len(p.Procs), calls, told == "none"}]++
		}
	}
	for _, p := range changing() {
		see(p)
	}
	d := draws(202)
	for range 1500 {
		see(d.anyProgram())
		see(d.testing(d.program()))
	}
	for word := range 3 {
		for procs := 1; procs <= 4; procs++ {
			for n := range 4 {
				if one := (sort{word, procs, n&1 == 1, n&2 == 2}); seen[one] < 5 {
					t.Error(one, seen[one])
				}
			}
		}
	}
}

// Every program of one procedure of four statements of these.
func TestP20OfSmallPrograms(t *testing.T) {
	words := []string{"s", "m0", "t0", "l0", "c1,0", "t1", "j0", "j2", "j3", "k0", "r"}
	for _, a := range words {
		for _, b := range words {
			for _, c := range words {
				checkOfProgram(t, written(t, a+" "+b+" "+c+" r"))
			}
		}
	}
}

// None, of each of the four words, alone and beside others.
func TestP20None(t *testing.T) {
	checkToldBy(t, "answers", "none")
	for _, text := range []string{"r", "t0 r", "m0 t1 r", "r t0 r", "l0 t0 r", "m0 l0 t0 r", "t0 m0 r", "m0 r;t0 r", "m3 k1 r;t3 r"} {
		checkToldBy(t, "tests "+text, "none", "gates s r", "0 1", "tests "+text, "none")
	}
	for _, text := range []string{"r", "m0 t0 r", "l0 t0 r", "r t0 r", "m3 t3 r", "b0,1 r", "m0 k1 r;t0 r", "r;t0 r", "m0 c1,0 t1 r"} {
		checkToldBy(t, "unset "+text, "none", "answers", "none", "unset "+text, "none")
	}
	for _, text := range []string{"r r", "j0 s r s r", "r s r", "r;r", "r s s r;r"} {
		is := text == "r;r"
		checkToldBy(t, "gates "+text, map[bool]string{false: "none", true: "0"}[is], "gates j2 s r", "0 2")
	}
	checkToldBy(t, lineOf(actPut(0, "a", "r")), "1", "answers", "none", lineOf(actAsk(0, 1, 5)), "1", "answers", "none", lineOf(actTick(5)), "5", lineOf(actDrop(1)), "0", "answers", "none", lineOf(actRun()), "5", "answers", "1.5")
}

// A mark is found behind a call that copies it, deep as it may be, and not by a way that goes back elsewhere.
func TestP20BehindCalls(t *testing.T) {
	for _, c := range [][2]string{
		{"m0 k1 t1 r;c1,0 r", "0.2"}, {"m0 k1 t1 r;k2 r;c1,0 r", "0.2"}, {"m0 k1 t1 r;k2 r;k3 r;c1,0 r", "0.2"}, {"m0 k3 t1 r;c1,0 r;k1 r;k2 r", "0.2"}, {"m0 k1 t2 r;k2 c2,1 r;k3 r;c1,0 r", "0.2"},
		// By calls of itself, as many as it takes.
		{"m0 k1 t2 r;j4 c2,1 c1,0 k1 r", "0.2"}, {"m0 k1 t2 r;j2 k2 r;j5 c2,1 c1,0 k1 s r", "0.2"}, {"j5 c2,1 c1,0 m0 k0 t2 r", "0.5"},
		// Who went in by one call does not come back behind another.
		{"k1 t1 m0 k1 t1 r;c1,0 r", "0.4"}, {"k1 t1 m0 k1 t1 r;k2 r;k3 r;c1,0 r", "0.4"}, {"m0 k1 l0 l1 k1 t1 r;c1,0 r", "none"}, {"k2 t1 k3 t1 r;c1,0 r;l0 k1 r;m0 k1 r", "0.3"}, {"m0 k1 t0 r;l0 r", "none"}, {"m3 k1 t3 r;t3 l3 r", "0.2"}, {"k1 t3 r;m3 t3 r", "1.1"},
		// In what is called, all that call it are.
		{"k1 m0 k1 r;t0 r", "1.0"}, {"m0 k1 r;k2 r;k3 r;t0 r", "3.0"}, {"m0 k1 r;t0 l0 k1 t0 r", "1.0"}, {"k1 r;t0 m0 k1 r", "1.0"}, {"r k1 r;m0 t0 r", "none"},
	} {
		checkToldBy(t, "tests "+c[0], c[1])
	}
	for _, c := range [][2]string{
		{"k1 t0 r;m0 r", "none"}, {"k1 t0 r;k2 r;k3 r;m0 r", "none"}, {"k1 t0 r;j2 m0 r", "0.1"}, {"k1 t3 r;m3 t3 t4 r", "0.1 1.2"}, {"m0 k1 t0 r;c0,3 r", "0.2"}, {"m3 k1 r;t3 r", "1.0"}, {"m0 m1 m2 k1 t0 r;k1 r", "none"},
	} {
		checkToldBy(t, "unset "+c[0], c[1])
	}
	for _, c := range codesByHand() {
		s := actPut(2, "a", c.text)
		checkToldBy(t, lineOf(s), "1", askLine(c.client, c.proc, c.at, c.fact), "1", lineOf(actRun()), fmt.Sprint(c.want), "answers", fmt.Sprintf("1.%d", c.want))
	}
}

// A question has the answer of its own version, an older one too, as long as that is there when it is run.
func TestP20ItsOwnVersion(t *testing.T) {
	put := func(text string) string { return lineOf(actPut(1, "a", text)) }
	ask := func(version int64) string { return lineOf(actAsk(6, version, 100)) }
	run := lineOf(actRun())
	checkToldBy(t, put("m0 r"), "1", ask(1), "1", put("r"), "2", ask(2), "2", ask(1), "3", run, "1", run, "2", run, "1", "answers", "1.1 2.2 3.1")
	checkToldBy(t, ask(1), "1", run, "3", ask(1), "2", put("m0 r"), "1", run, "1", "answers", "1.3 2.1")
	checkToldBy(t, put("r"), "1", put("m0 r"), "2", put("r"), "3", put("m0 r"), "4", ask(1), "1", ask(2), "2", ask(3), "3", ask(4), "4", ask(5), "5", run, "2", run, "1", run, "2", run, "1", run, "3", put("r"), "5", ask(1), "6", ask(2), "7", run, "3", run, "1", "answers", "1.2 2.1 3.2 4.1 5.3 6.3 7.1")
	// A version goes while a Question of it waits; another Project's stays.
	other := lineOf(impl.Act{Kind: 2, Session: 6, Project: "b", Version: 1, Client: 1, At: 1, Fact: 1, Long: 9})
	checkToldBy(t, put("m0 r"), "1", lineOf(actPut(0, "b", "m0 r")), "1", ask(1), "1", other, "2", put("r"), "2", put("r"), "3", put("r"), "4", put("r"), "5", run, "3", run, "1", "answers", "1.3 2.1")
}

// What is asked twice, late, dropped, or in vain.
func TestP20AskedAnyhow(t *testing.T) {
	put, run := lineOf(actPut(0, "a", "m0 r")), lineOf(actRun())
	ask := func(session, long int64) string { return lineOf(actAsk(session, 1, long)) }
	tick := func(long int64) string { return lineOf(actTick(long)) }
	drop := func(number int64) string { return lineOf(actDrop(number)) }
	checkToldBy(t, put, "1", ask(0, 9), "1", ask(0, 9), "2", run, "1", run, "1", run, "error", "answers", "1.1 2.1")
	checkToldBy(t, put, "1", ask(0, 3), "1", tick(2), "2", run, "1", ask(0, 3), "2", tick(3), "5", run, "4", "answers", "1.1 2.4")
	checkToldBy(t, put, "1", ask(0, 3), "1", drop(1), "0", drop(1), "error", "answers", "none", run, "5", drop(1), "error", "answers", "1.5")
	checkToldBy(t, ask(2, 1), "1", tick(1), "1", drop(1), "0", run, "5", ask(2, 1), "2", tick(1), "2", run, "4", drop(3), "error", drop(0), "error")
	// A Line has room for five, and is in turn with others.
	pairs := []string{put, "1"}
	for i := range 6 {
		pairs = append(pairs, ask(5, 9), fmt.Sprint(i+1))
	}
	pairs = append(pairs, "answers", "6.6", ask(2, 9), "7", run, "1", "answers", "6.6 7.1", run, "1", "answers", "6.6 7.1 1.1", ask(5, 9), "8", run, "1", "answers", "6.6 7.1 1.1 2.1")
	checkToldBy(t, pairs...)
}

// Whole texts of lines of all kinds; the answer of a longer one begins with that of the shorter one.
func TestP20WholeTexts(t *testing.T) {
	d := draws(203)
	seen := map[string]int{}
	for i := range 300 {
		rows := d.drawnRows(1 + d.below(200))
		s := ended(rows...)
		all := checkBench(t, s)
		if got := checkBench(t, strings.TrimSuffix(s, "\n")); got != all {
			t.Fatalf("without a byte 10 at the end: %s, want %s", shownText(got), shownText(all))
		}
		_, told := benched(s)
		for what, times := range told {
			seen[what] += times
		}
		if i%6 > 0 {
			continue
		}
		for n := range len(rows) {
			if got := impl.Bench(ended(rows[:n]...)); !strings.HasPrefix(all, got) {
				t.Fatalf("%d lines of %s: %s, all %s", n, shownText(s), shownText(got), shownText(all))
			}
		}
	}
	for _, kind := range []string{"act", "tests", "unset", "gates", "answers"} {
		for _, what := range []string{"told", "none", "error"} {
			if can := kind != "answers" || what != "error"; can && (kind != "act" || what != "none") && seen[kind+" "+what] < 25 {
				t.Error(kind, what, seen)
			}
		}
	}
	if seen["other error"] < 25 {
		t.Error(seen)
	}
}

// Each line answers one line, those without a byte none, and each answer has a byte 10 behind it.
func TestP20ALineForEach(t *testing.T) {
	d := draws(204)
	for range 100 {
		rows := d.drawnRows(60)
		lines := 0
		for _, row := range rows {
			lines += min(1, len(row))
		}
		got := impl.Bench(ended(rows...))
		if strings.Count(got, "\n") != lines || lines > 0 && !strings.HasSuffix(got, "\n") || strings.Contains(got, "\n\n") || strings.HasPrefix(got, "\n") {
			t.Fatalf("%s: %s, %d lines", shownText(ended(rows...)), shownText(got), lines)
		}
	}
}

// One bench knows nothing of another: each text begins with a new server.
func TestP20BeginsAnew(t *testing.T) {
	rows := playedRows()
	want := impl.Bench(ended(rows...))
	if told := rowsOf(want); len(told) != len(rows) || slices.Contains(told, "error") {
		t.Fatal(rows, told)
	}
	for range 3 {
		if got := impl.Bench(ended(rows...)); got != want {
			t.Errorf("%q, was %q", got, want)
		}
		checkToldBy(t, lineOf(actTick(1)), "1", lineOf(actPut(0, "a", "r")), "1", lineOf(actRun()), "error", "answers", "none")
	}
}

func TestP20LinesOfNoKind(t *testing.T) {
	checkErrors(t, "none of the five", "what", "x", " ", "  ", "0", "-", "}", "[", "[]", "null", "\"answers\"", "error", "none", "do", "put", "ask", "run", "tick 5", "drop 1", "m0 r", "r", "k1", "test", "unse", "gate", "answer", "a", "t", "u", "g", "te st r", "#", ";", ",", "nowhere r", "entries r", "loops r", "body r", "tests\tr", "teststests r", "tests;r", "tests:r", "gates,r")
}

func TestP20WordsOfPrograms(t *testing.T) {
	for _, word := range []string{"tests", "unset", "gates"} {
		program := map[string]string{"tests": "m0 t0 r", "unset": "t0 r", "gates": "s r"}[word]
		right := word + " " + program
		if got := impl.Bench(right); got == "error\n" || got == "none\n" || got == "" {
			t.Fatal(right, got)
		}
		checkErrors(t, "without a program", word, word+" ", word+"  ", word+";", word+"{")
		checkErrors(t, "with more behind", right+" ", right+"  ", right+";", right+" r ", right+"x", right+" x", right+"\x00", right+" "+right, right+"; r", right+" answers", right+" {}")
		checkErrors(t, "with another letter", strings.ToUpper(right), strings.ToUpper(word[:1])+right[1:], word[1:]+" "+program, word[:4]+" "+program, word+"s "+program, "x"+right, word[:4]+"z "+program, word[:2]+" "+word[2:]+" "+program)
		checkErrors(t, "no blank, or two", word+program, word+"  "+program, word+"   "+program, word+"\t"+program, word+"_"+program, word+" \t"+program, word+","+program)
		checkErrors(t, "a blank ahead", " "+right, "  "+right, "\t"+right, " "+word)
		checkErrors(t, "something ahead", "{"+right, "\""+right, "answers "+right, "x "+right, "\x00"+right)
		for _, text := range append(slices.Clone(unreadTexts), strings.Repeat("r ", 600), strings.Repeat("s ", 499)+"r", strings.Repeat("r;", 499)+"r", strings.Repeat(" ", 1000), strings.Repeat("r", 1001)) {
			if !strings.Contains(text, "\n") {
				checkErrors(t, "no program", word+" "+text)
			}
		}
	}
}

func TestP20AnswersAlone(t *testing.T) {
	checkErrors(t, "something behind", "answers ", "answers  ", "answers r", "answers 0", "answers m0 r", "answers answers", "answers{", "answers{}", "answers\t", "answersx", "answers\x00", "answers.", "answers;")
	checkErrors(t, "another letter", "Answers", "ANSWERS", "answer", "answerz", "nswers", "answerss", "an swers", "aanswers")
	checkErrors(t, "ahead", " answers", "  answers", "\tanswers", "{answers", "{answers}", "x answers")
}

// A line that begins with { and is no Value, or one with something behind it, or means no act, or is refused.
func TestP20LinesOfNoAct(t *testing.T) {
	tick := `{"do":"tick","long":5}`
	checkErrors(t, "no Value", "{", "{{", "{}}", "{]", "{\"", "{\"do\"", "{\"do\":", "{\"do\":\"tick\"", `{"do":"tick","long":5`, `{"do":"tick" "long":5}`, `{"do":"tick",,"long":5}`, `{"do":"tick","long":5,}`, `{"do":"tick","long":05}`, `{"do":"tick","long":+5}`, `{"do":"tick","long":5.0}`, `{"do":"tick","long":-0}`, `{"do":"tick","long":1000000000}`, `{"do":"tick","long":9223372036854775807}`, `{"do":"tick","long":-9223372036854775808}`, `{"do":"tick","long":9223372036854775808}`, `{"do":"tick","long":99999999999999999999999999}`, `{do:"tick","long":5}`, `{'do':'tick','long':5}`, `{"do":"tick","do":"tick","long":5}`, `{"do":"t\ick","long":5}`, `{"do":"tick\`, "{\"do\":\"tick\",\t\"long\":5}", `{"do":"put","session":0,"project":"a","text":"`+strings.Repeat("r", 101)+`"}`, "{\x00}", "{\xff}")
	checkErrors(t, "something behind", tick+"x", tick+",", tick+"}", tick+"{", tick+tick, tick+" "+tick, tick+" answers", tick+"\t", tick+"\r", tick+"\x00", tick+"  5")
	checkErrors(t, "no act", "{}", "{ }", `{"do":1}`, `{"do":null}`, `{"do":[]}`, `{"do":"what"}`, `{"do":""}`, `{"do":"Tick","long":5}`, `{"do":"tick"}`, `{"do":"tick","long":"5"}`, `{"do":"tick","long":[5]}`, `{"do":"tick","long":5,"more":1}`, `{"long":5,"do":"tick"}`, `{"tick":5}`, `{"do":"tick","number":5}`, `{"do":"run","long":1}`, `{"do":"drop","long":1}`, `{"do":"put","session":0,"project":"a"}`, `{"do":"put","project":"a","session":0,"text":"r"}`, `{"do":"put","session":0,"project":"a","text":5}`, `{"do":"put","session":"0","project":"a","text":"r"}`, `{"do":"ask","session":1,"project":"a","version":1,"client":1,"proc":0,"at":1,"fact":1}`, `{"do":{"do":"tick","long":5}}`)
	checkErrors(t, "refused", `{"do":"drop","number":4711}`, `{"do":"tick","long":0}`, `{"do":"tick","long":-1}`, `{"do":"tick","long":1000001}`, `{"do":"tick","long":999999999}`, `{"do":"drop","number":0}`, `{"do":"drop","number":-999999999}`)
	for _, a := range wrongActs() {
		if row := lineOf(a); row != "" {
			checkErrors(t, "refused", row, spreadLine(row, 1))
		}
	}
	// A Value that is no map begins with no {.
	checkErrors(t, "another Value", "["+tick+"]", `"tick"`, "5", "null", "true", " "+tick)
}

// textOf is a text of just so many bytes whose first lines are these: an act with blanks within makes up what lacks.
func textOf(bytes int, rows ...string) string {
	s := ended(rows...)
	tick := lineOf(actTick(1))
	return s + strings.Replace(tick, ",", ","+strings.Repeat(" ", bytes-len(s)-len(tick)), 1)
}

func TestP20EdgesOfBytes(t *testing.T) {
	for _, rows := range [][]string{nil, {"answers"}, playedRows()} {
		begun := impl.Bench(ended(rows...))
		for _, bytes := range []int{1000, 1001, 4096, 10000, 19998, 19999, 20000, 20001, 20002, 20003, 32768, 40000, 65536} {
			s := textOf(bytes, rows...)
			got := checkBench(t, s)
			now := map[bool]string{false: "1\n", true: "10\n"}[len(rows) > 2]
			if want := begun + now; len(s) != bytes || (got == want) != (bytes <= 20000) || bytes > 20000 && got != "" {
				t.Errorf("%d lines, %d bytes: %s", len(rows), len(s), shownText(got))
			}
			// The byte 10 at the end is one of them.
			got = checkBench(t, s+"\n")
			if (got != "") != (bytes+1 <= 20000) {
				t.Errorf("%d lines, %d bytes and a byte 10: %s", len(rows), len(s), shownText(got))
			}
		}
	}
	for _, n := range []int{19999, 20000, 20001, 20002} {
		want := map[bool]string{false: "", true: "error\n"}[n <= 20000]
		for _, b := range []string{"x", " ", "{", "\x00", "\xff", "[", "t"} {
			if got := checkBench(t, strings.Repeat(b, n)); got != want {
				t.Errorf("%d of %q: %s", n, b, shownText(got))
			}
		}
		// Two bytes a letter: bytes are counted.
		if got := checkBench(t, strings.Repeat("é", n/2)+strings.Repeat("x", n%2)); got != want {
			t.Errorf("%d bytes: %s", n, shownText(got))
		}
	}
	checkBench(t, strings.Repeat("é", 10001))
	checkEmptyBench(t, strings.Repeat("é", 20000))
}

// All lines count, those without a byte too; a byte 10 at the end begins no line.
func TestP20EdgesOfLines(t *testing.T) {
	for _, n := range []int{1, 2, 100, 198, 199, 200, 201, 202, 203, 255, 256, 257, 300, 400, 1000} {
		may := n <= 200
		for _, row := range []string{"answers", "x", "gates r", "{}", " ", "{\"do\":\"run\"}"} {
			told := strings.TrimSuffix(impl.Bench(row), "\n")
			want := map[bool]string{false: "", true: strings.Repeat(told+"\n", n)}[may]
			for _, s := range []string{strings.Repeat(row+"\n", n), strings.Repeat(row+"\n", n-1) + row} {
				if got := checkBench(t, s); got != want {
					t.Errorf("%d lines %q: %s", n, row, shownText(got))
				}
			}
		}
		for _, places := range [][]int{{0}, {n - 1}, {n / 2}, {0, n - 1}} {
			rows := make([]string, n)
			for _, at := range places {
				rows[at] = "gates s r"
			}
			got := checkBench(t, ended(rows...))
			if (got == "") == may || may && strings.ReplaceAll(got, "0 1\n", "") != "" {
				t.Errorf("%d lines, bytes in %v: %s", n, places, shownText(got))
			}
			// With one line more, or without the last byte 10.
			if got := checkBench(t, ended(rows...)+"\n"); (got == "") == (n+1 <= 200) {
				t.Errorf("%d lines and an empty one, bytes in %v: %s", n, places, shownText(got))
			}
			if got := checkBench(t, ended(rows...)+"x"); (got == "") == (n+1 <= 200) {
				t.Errorf("%d lines and a last one, bytes in %v: %s", n, places, shownText(got))
			}
		}
	}
}

// Lines without a byte are passed over, wherever they are, and there may be nothing else.
func TestP20EmptyLines(t *testing.T) {
	for n := range 210 {
		checkEmptyBench(t, strings.Repeat("\n", n))
	}
	checkEmptyBench(t, strings.Repeat("\n", 20000))
	checkEmptyBench(t, strings.Repeat("\n", 20001))
	rows := playedRows()
	want := impl.Bench(ended(rows...))
	for at := range len(rows) + 1 {
		for _, n := range []int{1, 2, 3, 100} {
			s := ended(slices.Insert(slices.Clone(rows), at, make([]string, n)...)...)
			if got := checkBench(t, s); got != want {
				t.Errorf("%d empty lines at %d: %s, want %s", n, at, shownText(got), shownText(want))
			}
			if got := checkBench(t, strings.TrimSuffix(s, "\n")); got != want {
				t.Errorf("%d empty lines at %d, without the last byte: %s, want %s", n, at, shownText(got), shownText(want))
			}
		}
	}
	spaced := strings.ReplaceAll(ended(rows...), "\n", "\n\n")
	for _, s := range []string{spaced, "\n" + spaced, "\n\n\n" + spaced + "\n\n"} {
		if got := checkBench(t, s); got != want {
			t.Errorf("%s: %s, want %s", shownText(s), shownText(got), shownText(want))
		}
	}
}

// The last line may lack its byte 10.
func TestP20TheLastLine(t *testing.T) {
	for _, row := range append(playedRows(), "x", " ", "tests", "answers ", "{", "\r") {
		for _, ahead := range []string{"", "\n", "gates r\n", ended(playedRows()...)} {
			with, without := checkBench(t, ahead+row+"\n"), checkBench(t, ahead+row)
			if with != without || !strings.HasSuffix(with, "\n") {
				t.Errorf("%q behind %q: %q with a byte 10, %q without", row, ahead, with, without)
			}
		}
	}
}

// Every byte ahead of, within and behind a line of each kind; a byte 13 is no end of a line.
func TestP20OtherBytes(t *testing.T) {
	rows := []string{"answers", "tests m0 t0 r", "unset t0 r", "gates j2 s r", `{"do":"tick","long":5}`, `{"do":"put","session":0,"project":"a","text":"r"}`}
	for _, row := range rows {
		for b := range 256 {
			one := string([]byte{byte(b)})
			for at := range len(row) + 1 {
				checkBench(t, row[:at]+one+row[at:]+"\nanswers\n")
				if at < len(row) {
					checkBench(t, row[:at]+one+row[at+1:]+"\nanswers\n")
				}
			}
			checkBench(t, one)
			checkBench(t, one+"\n"+one+one+"\n"+row)
		}
		checkToldBy(t, row+"\r", "error", "\r"+row, "error", "\r", "error", row+"\r\r", "error", "answers", "none")
		if got := checkBench(t, strings.ReplaceAll(ended(playedRows()...), "\n", "\r\n")); strings.ReplaceAll(got, "error\n", "") != "" || got == "" {
			t.Error(got)
		}
		if got := checkBench(t, strings.ReplaceAll(ended(playedRows()...), "\n", "\r")); got != "error\n" {
			t.Error(got)
		}
	}
	checkToldBy(t, "\x00", "error", "\x00\x00", "error", "\x80", "error", "\xff", "error", "é", "error", "ａnswers", "error", "tests\u00a0r", "error", "\ufeffanswers", "error", "answers\u2028answers", "error", "answers\x0banswers", "error", "answers\x0canswers", "error", "answers\u0085answers", "error")
}

// Numbers at the ends of int64 and beyond, within a line.
func TestP20NumbersFarOff(t *testing.T) {
	far := []string{"9223372036854775807", "9223372036854775808", "-9223372036854775808", "-9223372036854775809", "18446744073709551616", "4294967296", "2147483648", "1000000000", "-1000000000", "10000000000", strings.Repeat("9", 400), "-" + strings.Repeat("1", 400), "-1", "-0", "00", "01", "+1", "1e0", "1.0", "0x1", "٣"}
	for _, n := range far {
		for _, part := range []string{`{"do":"tick","long":1}`, `{"do":"drop","number":1}`, `{"do":"put","session":1,"project":"a","text":"r"}`, `{"do":"ask","session":1,"project":"a","version":1,"client":1,"proc":1,"at":1,"fact":1,"long":1}`} {
			for i := range part {
				if part[i] == '1' {
					checkErrors(t, "a number far off", part[:i]+n+part[i+1:])
				}
			}
		}
		for _, form := range []string{"m# r", "l# r", "t# r", "c#,0 r", "c0,# r", "b1,# r", "j# r", "k# r", "m0 r;k# r"} {
			text := strings.Replace(form, "#", n, 1)
			checkErrors(t, "a number far off", "tests "+text, "unset "+text, "gates "+text)
		}
	}
	// 999999999 is a number, and none that an act may have.
	checkErrors(t, "a number too great", `{"do":"tick","long":999999999}`, `{"do":"drop","number":999999999}`, `{"do":"drop","number":-999999999}`, `{"do":"put","session":999999999,"project":"a","text":"r"}`)
}

// The server goes on over all lines, however many of other kinds come between.
func TestP20TheServerGoesOn(t *testing.T) {
	between := []string{"", "x", "tests m0 t0 r", "gates r", "answers", "{}", lineOf(actDrop(999999)), "unset t0 r"}
	d := draws(205)
	for range 60 {
		acts := sayable(d.script(60))
		_, told := impl.Play(newServer(3), acts)
		var rows []string
		var at []int
		lines := 0
		for _, a := range acts {
			for range d.below(3) {
				row := between[d.below(len(between))]
				rows, lines = append(rows, row), lines+min(1, len(row))
			}
			rows, at = append(rows, lineOf(a)), append(at, lines)
			lines++
		}
		got := rowsOf(checkBench(t, ended(rows...)))
		for i, words := range toldWords(told) {
			if len(got) != lines || got[at[i]] != words {
				t.Fatalf("%s: act %d: %q, want %s", shownText(ended(rows...)), i, got, words)
			}
		}
	}
}

func TestP21EndsOfInt64Benches(t *testing.T) {
	for _, end := range []int64{math.MinInt64, math.MinInt64 + 1, math.MaxInt64 - 1, math.MaxInt64, math.MaxInt32, math.MinInt32, 999999999, -999999999} {
		for _, row := range []string{`{"do":"tick","long":%d}`, `{"do":"drop","number":%d}`, `{"do":"put","session":%d,"project":"a","text":"r"}`, "tests m%d r", "unset t%d r", "gates j%d r", "%d", "answers %d", "{%d}"} {
			checkToldBy(t, fmt.Sprintf(row, end), "error", "answers", "none")
		}
	}
}

// Texts that are far too long, and lines that are as long as may be.
func TestP21GreatBenches(t *testing.T) {
	for _, part := range []string{"\n", "answers\n", "tests r\n", "{", "{}", "{}\n", "[", " ", "\x00", "\xff", "tests ", "r;", "{\"do\":\"run\"}\n"} {
		checkEmptyBench(t, strings.Repeat(part, 1<<21))
		for _, ahead := range []string{"", "tests ", "unset r;", "gates ", "{", "{\"a\":", "answers "} {
			s := ahead + strings.Repeat(part, (20000-len(ahead))/len(part))
			if len(s) > 20000 {
				t.Fatal(len(s))
			}
			checkBench(t, s)
		}
	}
	for _, p := range []impl.Program{largest(), callers(), callAll()} {
		shown := shownOf(p)
		var rows []string
		for i := range 200 {
			rows = append(rows, []string{"tests ", "unset ", "gates "}[i%3]+shown)
		}
		checkBench(t, ended(fitting(rows)...))
	}
	// As deep as a text can be.
	for _, open := range []string{"{\"a\":", "[", "{\"do\":[", "{\"do\":{\"do\":"} {
		s := "{\"a\":" + strings.Repeat(open, 19990/len(open))
		if got := checkBench(t, s); got != "error\n" {
			t.Error(shownText(got))
		}
	}
}

// benchTexts are texts of every sort.
func benchTexts() []string {
	d := draws(206)
	texts := []string{"", "\n", "x", "answers", "tests r", "gates r r\n", ended(playedRows()...), strings.Repeat("x", 20000), strings.Repeat("x", 20001), strings.Repeat("answers\n", 200), strings.Repeat("answers\n", 201), "\x00\xff\r\n", textOf(20000, playedRows()...)}
	for range 20 {
		texts = append(texts, ended(d.drawnRows(80)...))
	}
	return texts
}

func TestP21BenchAnswersAreNewMemory(t *testing.T) {
	for _, s := range benchTexts() {
		given := strings.Clone(s)
		told, again := impl.Bench(given), impl.Bench(given)
		checkManyApart(t, shownText(s), slices.Concat(textLies(given), textLies(told), textLies(again)))
		runtime.KeepAlive(given)
		if told != again {
			t.Errorf("%s: %s, then %s", shownText(s), shownText(told), shownText(again))
		}
	}
}

// A text that is the memory of a list stays as it is, and once it is written over, what was told of it stays.
func TestP21BenchArgumentsStay(t *testing.T) {
	for _, s := range benchTexts() {
		room := append([]byte(s), "stranger"...)
		given := unsafe.String(unsafe.SliceData(room), len(s))
		told := impl.Bench(given)
		kept := strings.Clone(told)
		if string(room) != s+"stranger" {
			t.Errorf("%s was changed to %q", shownText(s), room)
		}
		for i := range room {
			room[i] = '#'
		}
		if told != kept || impl.Bench(s) != kept {
			t.Errorf("%s: %s, was %s", shownText(s), shownText(told), shownText(kept))
		}
		runtime.KeepAlive(room)
	}
}

// One text is answered alike, however many others are at the same time.
func TestP21BenchesBesideOthers(t *testing.T) {
	texts := benchTexts()
	done := make(chan string)
	for range 8 {
		go func() {
			why := ""
			for _, s := range texts {
				if want, _ := benched(s); impl.Bench(s) != want {
					why = shownText(s)
				}
			}
			done <- why
		}()
	}
	for range 8 {
		if why := <-done; why != "" {
			t.Error(why)
		}
	}
}
