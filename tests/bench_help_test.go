package tests

import (
	"fmt"
	"slices"
	"strings"
	"testing"

	"loop.example/g00291/impl"
)

// desk is the tests' own word on a bench: a server that goes on by Happen, line by line, over the functions of the chapters. Seen is
// how often a kind of line was told something, none or error: its keys are such as "gates none".
type desk struct {
	server impl.Server
	seen   map[string]int
}

func newDesk() *desk { return &desk{server: newServer(3), seen: map[string]int{}} }

// rowsOf cuts a text behind each byte 10, which is left out.
func rowsOf(s string) []string {
	var rows []string
	from := 0
	for i := range len(s) {
		if s[i] == 10 {
			rows, from = append(rows, s[from:i]), i+1
		}
	}
	if from < len(s) {
		rows = append(rows, s[from:])
	}
	return rows
}

// benched is the tests' own word on Bench, and what was seen.
func benched(s string) (string, map[string]int) {
	d, rows, out := newDesk(), rowsOf(s), ""
	if len(s) > 20000 || len(rows) > 200 {
		return "", d.seen
	}
	for _, row := range rows {
		if row != "" {
			out += d.told(row) + "\n"
		}
	}
	return out, d.seen
}

// told is what is told of a line that has a byte.
func (d *desk) told(row string) string {
	kind, told := "other", "error"
	rest := ""
	for _, word := range []string{"tests", "unset", "gates"} {
		if behind, is := strings.CutPrefix(row, word+" "); is {
			kind, rest = word, behind
		}
	}
	switch {
	case row == "answers":
		kind, told = "answers", d.answers()
	case row[0] == '{':
		kind, told = "act", d.act(row)
	case kind != "other":
		told = ofProgram(kind, rest)
	}
	d.see(kind, told)
	return told
}

func (d *desk) see(kind, told string) {
	if told != "error" && told != "none" {
		told = "told"
	}
	d.seen[kind+" "+told]++
}

func (d *desk) answers() string {
	var words []string
	for _, one := range d.server.Answers {
		words = append(words, fmt.Sprintf("%d.%d", one.Number, one.Code))
	}
	return orNone(words)
}

func (d *desk) act(row string) string {
	v, parsed := impl.Parse(row)
	a, meant := impl.Meant(v)
	if !parsed || !meant {
		return "error"
	}
	behind, told := impl.Happen(d.server, a)
	if told == -1 {
		return "error"
	}
	d.server = behind
	return fmt.Sprint(told)
}

// ofProgram is what one of the three words tells of a program.
func ofProgram(word, text string) string {
	p, reads := impl.ReadProgram(text)
	if !reads {
		return "error"
	}
	var words []string
	if word == "gates" {
		last := len(p.Procs[0].Stmts) - 1
		for _, gate := range impl.Gates(p.Procs[0], int64(last)) {
			words = append(words, fmt.Sprint(gate))
		}
		return orNone(words)
	}
	client := map[string]int64{"tests": impl.ClMark, "unset": impl.ClUnset}[word]
	for _, place := range impl.Tests(p, client) {
		words = append(words, fmt.Sprintf("%d.%d", place.Proc, place.At))
	}
	return orNone(words)
}

func orNone(words []string) string {
	if len(words) == 0 {
		return "none"
	}
	return strings.Join(words, " ")
}

// checkBench asks for what Bench tells of a text, twice.
func checkBench(t *testing.T, s string) string {
	t.Helper()
	want, _ := benched(s)
	for range 2 {
		if got := impl.Bench(s); got != want {
			t.Fatalf("Bench(%s) = %s, want %s", shownText(s), shownText(got), shownText(want))
		}
	}
	return want
}

// shownText is a text with its bytes 10 shown, cut off where it is long.
func shownText(s string) string { return fmt.Sprintf("%.2000q of %d bytes", s, len(s)) }

// ended is each line with a byte 10 behind it.
func ended(rows ...string) string {
	var s string
	for _, row := range rows {
		s += row + "\n"
	}
	return s
}

// checkToldBy takes lines, each with what is told of it behind it, and asks for it with a byte 10 behind the last line and without.
func checkToldBy(t *testing.T, pairs ...string) {
	t.Helper()
	var rows, told []string
	for i := 0; i < len(pairs); i += 2 {
		rows, told = append(rows, pairs[i]), append(told, pairs[i+1])
	}
	for _, s := range []string{ended(rows...), strings.Join(rows, "\n")} {
		if got := impl.Bench(s); got != ended(told...) {
			t.Fatalf("Bench(%s) = %s, want %s", shownText(s), shownText(got), shownText(ended(told...)))
		}
		checkBench(t, s)
	}
}

// checkEmptyBench asks for the fixed answer.
func checkEmptyBench(t *testing.T, s string) {
	t.Helper()
	if got := checkBench(t, s); got != "" {
		t.Fatalf("Bench(%s) = %s", shownText(s), shownText(got))
	}
}

// checkErrors asks that each of these is answered by error, alone and wherever it comes, and that it changes nothing for the others.
func checkErrors(t *testing.T, why string, wrong ...string) {
	t.Helper()
	rows := playedRows()
	for _, row := range wrong {
		if got := impl.Bench(row); got != "error\n" {
			t.Errorf("%s: Bench(%s) = %s", why, shownText(row), shownText(got))
		}
		told := rowsOf(checkBench(t, ended(rows...)))
		for at := range len(rows) + 1 {
			s := ended(slices.Insert(slices.Clone(rows), at, row)...)
			if got, want := impl.Bench(s), ended(slices.Insert(slices.Clone(told), at, "error")...); got != want {
				t.Errorf("%s: %s at %d: %s, want %s", why, shownText(row), at, shownText(got), shownText(want))
			}
		}
	}
}

// playedRows are lines of each kind, none of them an error. Each act changes what the lines behind it tell.
func playedRows() []string {
	acts := []impl.Act{actPut(0, "a", "m0 r"), actAsk(1, 1, 9), actRun(), actAsk(1, 1, 9), actDrop(2), actTick(8), actRun(), actPut(3, "a", "r"), actAsk(1, 2, 1), actRun(), actAsk(1, 2, 1), actTick(1), actRun()}
	rows := []string{"answers", "tests m0 t0 r"}
	for i, a := range acts {
		rows = append(rows, lineOf(a))
		if i%3 == 2 {
			rows = append(rows, "answers")
		}
	}
	return append(rows, "unset t3 r", "gates j2 s r", "answers")
}

// lineOf is an act as it is said, and printed: an empty text where there is none.
func lineOf(a impl.Act) string { return impl.Print(impl.SaidAs(a)) }

// spreadLine has so many blanks between its parts and behind, but none ahead.
func spreadLine(row string, blanks int) string { return strings.TrimLeft(spread(row, blanks), " ") }

// askLine asks what asking does.
func askLine(client, proc, at, fact int64) string { return lineOf(asking(client, proc, at, fact)) }

// sayable leaves out the acts that no line says.
func sayable(acts []impl.Act) []impl.Act {
	return slices.DeleteFunc(slices.Clone(acts), func(a impl.Act) bool { return lineOf(a) == "" })
}

// toldWords is what is told of these, an error where nothing is done.
func toldWords(told []int64) []string {
	var words []string
	for _, n := range told {
		words = append(words, strings.ReplaceAll(fmt.Sprint(n), "-1", "error"))
	}
	return words
}

// fitting are as many of these lines, from the first on, as a text may have.
func fitting(rows []string) []string {
	size := 0
	for i, row := range rows {
		size += len(row) + 1
		if i == 200 || size > 20000 {
			return rows[:i]
		}
	}
	return rows
}

// row draws a line of any kind, right mostly, of what is there.
func (d *draws) row(s impl.Server) string {
	row := ""
	switch d.below(12) {
	case 0:
		row = "tests " + shownOf(d.anyProgram())
	case 1:
		row = "unset " + shownOf(d.anyProgram())
	case 2:
		row = "gates " + shownOf(d.anyProgram())
	case 3:
		row = "answers"
	case 4:
		return ""
	default:
		row = spreadLine(lineOf(d.act(s)), d.below(3))
	}
	if d.below(12) > 0 {
		return row
	}
	return d.marred(row)
}

// marred is a text in which one byte goes, comes or becomes another.
func (d *draws) marred(s string) string {
	const bytes = "{}\":,; \\r0k19-tA\x00\r\xff"
	at, b := d.below(len(s)+1), string(bytes[d.below(len(bytes))])
	switch d.below(3) {
	case 0:
		return s[:at] + b + s[at:]
	case 1:
		return s[:at] + s[min(at+1, len(s)):]
	}
	return s[:at] + b + s[min(at+1, len(s)):]
}

// anyProgram draws one of many sorts that tests here and there.
func (d *draws) anyProgram() impl.Program {
	all := changing()
	switch d.below(6) {
	case 0:
		return d.testing(all[d.below(len(all))])
	case 1:
		return d.testing(d.simple())
	case 2:
		return d.testing(d.spinning())
	case 3:
		return d.testing(withoutCalls(d.program()))
	case 4:
		return d.testing(d.onward())
	}
	return d.program()
}

// drawnRows are lines of a text, as many as are told or as fit, of what is there when they come.
func (d *draws) drawnRows(n int) []string {
	b := newDesk()
	var rows []string
	for range n {
		row := d.row(b.server)
		if row != "" {
			b.told(row)
		}
		rows = append(rows, row)
	}
	return fitting(rows)
}
