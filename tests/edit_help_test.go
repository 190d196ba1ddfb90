package tests

import (
	"fmt"
	"regexp"
	"slices"
	"strconv"
	"strings"
	"testing"
	"unsafe"

	"loop.example/g00291/impl"
)

func edSet(proc, at int64, s impl.Stmt) impl.Edit {
	return impl.Edit{Kind: impl.EdSet, Proc: proc, At: at, Stmt: s}
}

func edAdd(proc, at int64, s impl.Stmt) impl.Edit {
	return impl.Edit{Kind: impl.EdAdd, Proc: proc, At: at, Stmt: s}
}

func edDrop(proc, at int64) impl.Edit { return impl.Edit{Kind: impl.EdDrop, Proc: proc, At: at} }

func edProc() impl.Edit { return impl.Edit{Kind: impl.EdProc} }

func sameProgram(a, b impl.Program) bool {
	return slices.EqualFunc(a.Procs, b.Procs, func(x, y impl.Proc) bool { return slices.Equal(x.Stmts, y.Stmts) })
}

// shownOf is the tests' own word on ShowProgram; p is right.
func shownOf(p impl.Program) string {
	forms := []string{"", "s", "c%[1]d,%[2]d", "b%[1]d,%[2]d", "l%[1]d", "m%[1]d", "t%[1]d", "j%[2]d", "k%[2]d", "r"}
	var lines []string
	for _, one := range p.Procs {
		var words []string
		for _, s := range one.Stmts {
			word := forms[s.Kind]
			if strings.Contains(word, "%") {
				word = fmt.Sprintf(word, s.X, s.Y)
			}
			words = append(words, word)
		}
		lines = append(lines, strings.Join(words, " "))
	}
	return strings.Join(lines, ";")
}

var wordForm = regexp.MustCompile(`\A(?:([sr])|([cb])(0|[1-9][0-9]{0,8}),(0|[1-9][0-9]{0,8})|([lmtjk])(0|[1-9][0-9]{0,8}))\z`)

// stmtRead is the tests' own word on what a word of a text is.
func stmtRead(word string) (impl.Stmt, bool) {
	m := wordForm.FindStringSubmatch(word)
	if m == nil {
		return impl.Stmt{}, false
	}
	kinds := map[string]int64{"s": 1, "c": 2, "b": 3, "l": 4, "m": 5, "t": 6, "j": 7, "k": 8, "r": 9}
	s := impl.Stmt{Kind: kinds[m[1]+m[2]+m[5]]}
	// What is not there is no number, and stays 0.
	first, _ := strconv.ParseInt(m[3]+m[6], 10, 64)
	second, _ := strconv.ParseInt(m[4], 10, 64)
	if m[5] == "j" || m[5] == "k" {
		s.Y = first
	} else {
		s.X, s.Y = first, second
	}
	return s, true
}

// programRead is the tests' own word on ReadProgram.
func programRead(s string) (impl.Program, bool) {
	var p impl.Program
	for _, line := range strings.Split(s, ";") {
		var one impl.Proc
		for _, word := range strings.Split(line, " ") {
			stmt, is := stmtRead(word)
			if !is {
				return impl.Program{}, false
			}
			one.Stmts = append(one.Stmts, stmt)
		}
		p.Procs = append(p.Procs, one)
	}
	if len(s) > 1000 || !isProgram(p) {
		return impl.Program{}, false
	}
	return p, true
}

// written is the Program that a right text of a test tells.
func written(t *testing.T, s string) impl.Program {
	t.Helper()
	p, is := programRead(s)
	if !is {
		t.Fatalf("the test's own text %q tells no program", s)
	}
	return p
}

// knot is a statement, and the knot to which it jumps.
type knot struct {
	stmt impl.Stmt
	to   *knot
}

// knotted ties each jump to where it goes.
func knotted(stmts []impl.Stmt) []*knot {
	var knots []*knot
	for _, s := range stmts {
		knots = append(knots, &knot{stmt: s})
	}
	for _, k := range knots {
		if k.stmt.Kind == impl.StJump {
			k.to = knots[k.stmt.Y]
		}
	}
	return knots
}

// loosened are the statements of knots again, jumps by the places where knots are now, -1 where that is nowhere.
func loosened(knots []*knot) []impl.Stmt {
	var stmts []impl.Stmt
	for _, k := range knots {
		s := k.stmt
		if k.to != nil {
			s.Y = int64(slices.Index(knots, k.to))
		}
		stmts = append(stmts, s)
	}
	return stmts
}

// relinked changes the statements of a right procedure: jumps are tied to statements, whose numbers may change; a jump to one that
// goes is tied to the one behind. A statement that comes is as told.
func relinked(stmts []impl.Stmt, e impl.Edit) []impl.Stmt {
	knots, at := knotted(stmts), int(e.At)
	switch e.Kind {
	case impl.EdSet:
		*knots[at] = knot{stmt: e.Stmt}
	case impl.EdAdd:
		knots = slices.Insert(knots, at, &knot{stmt: e.Stmt})
	case impl.EdDrop:
		behind := append(slices.Clone(knots), &knot{})[at+1]
		for _, k := range knots {
			if k.to == knots[at] {
				k.to = behind
			}
		}
		knots = slices.Delete(knots, at, at+1)
	}
	return loosened(knots)
}

// editedOf is the tests' own word on Edited.
func editedOf(p impl.Program, e impl.Edit) (impl.Program, bool) {
	none := impl.Stmt{}
	is := isProgram(p) && e.Kind >= 1 && e.Kind <= 4
	if !is || e.Kind == 3 && e.Stmt != none || e.Kind == 4 && (e.Proc != 0 || e.At != 0 || e.Stmt != none) || !isPlace(p, impl.Place{Proc: e.Proc, At: e.At}) {
		return impl.Program{}, false
	}
	q := program(slices.Clone(p.Procs)...)
	if e.Kind == 4 {
		q.Procs = append(q.Procs, proc(back()))
	} else {
		q.Procs[e.Proc].Stmts = relinked(p.Procs[e.Proc].Stmts, e)
	}
	if !isProgram(q) {
		return impl.Program{}, false
	}
	return q, true
}

// undoneOf is the tests' own word on Undone, of an Edit that can be done: none, or one.
func undoneOf(p impl.Program, e impl.Edit) []impl.Edit {
	if e.Kind == impl.EdProc {
		return nil
	}
	stmts := p.Procs[e.Proc].Stmts
	last := int64(len(stmts)) - 1
	goesThere := slices.ContainsFunc(stmts, func(s impl.Stmt) bool { return s.Kind == impl.StJump && s.Y == e.At })
	switch {
	case e.Kind == impl.EdSet:
		return []impl.Edit{edSet(e.Proc, e.At, stmts[e.At])}
	case e.Kind == impl.EdAdd:
		return []impl.Edit{edDrop(e.Proc, e.At)}
	case e.At == last || goesThere:
		return nil
	}
	return []impl.Edit{edAdd(e.Proc, e.At, stmts[e.At])}
}

// checkEdit asks for Edited and Undone, and tells whether the Edit can be done.
func checkEdit(t *testing.T, p impl.Program, e impl.Edit) bool {
	t.Helper()
	want, can := editedOf(p, e)
	if !can {
		checkNoEdit(t, "not to be done", p, e)
		return false
	}
	got, is := impl.Edited(p, e)
	if !is || !sameProgram(got, want) || !impl.ProgramOk(got) {
		t.Fatalf("%v, %v: Edited %v, %v; want %v", p, e, got, is, want)
	}
	checkUndone(t, p, e, got, undoneOf(p, e))
	return true
}

// checkUndone asks for Undone, and that it makes p again of what was edited.
func checkUndone(t *testing.T, p impl.Program, e impl.Edit, edited impl.Program, want []impl.Edit) {
	t.Helper()
	undo, is := impl.Undone(p, e)
	if len(want) == 0 {
		if is || undo != (impl.Edit{}) {
			t.Fatalf("%v, %v: Undone %v, %v; want none", p, e, undo, is)
		}
		return
	}
	if !is || undo != want[0] {
		t.Fatalf("%v, %v: Undone %v, %v; want %v", p, e, undo, is, want[0])
	}
	if again, is := impl.Edited(edited, undo); !is || !sameProgram(again, p) {
		t.Fatalf("%v, %v: Edited %v; %v makes %v, %v of it", p, e, edited, undo, again, is)
	}
	// What undoes the undoing is the Edit itself, but where it was a jump to itself that came.
	redo, is := impl.Undone(edited, undo)
	if itself := e.Kind == impl.EdAdd && e.Stmt == jump(e.At); itself && is || !itself && redo != e {
		t.Fatalf("%v, %v: Undone %v, and that Undone %v, %v", p, e, undo, redo, is)
	}
}

// checkNoEdit asks for the fixed answers of an Edit that can't be done.
func checkNoEdit(t *testing.T, name string, p impl.Program, e impl.Edit) {
	t.Helper()
	if got, is := impl.Edited(p, e); is || len(got.Procs) != 0 {
		t.Fatalf("%s: %.200v, %v: Edited %v, %v", name, p, e, got, is)
	}
	if got, is := impl.Undone(p, e); is || got != (impl.Edit{}) {
		t.Fatalf("%s: %.200v, %v: Undone %v, %v", name, p, e, got, is)
	}
}

// checkShown asks for ShowProgram of a right Program, and that ReadProgram makes it again.
func checkShown(t *testing.T, p impl.Program) {
	t.Helper()
	s := impl.ShowProgram(p)
	if want := shownOf(p); s != want {
		t.Fatalf("%v: ShowProgram %q, want %q", p, s, want)
	}
	if got, is := impl.ReadProgram(s); !is || !sameProgram(got, p) {
		t.Fatalf("%v: ShowProgram %q, of which ReadProgram makes %v, %v", p, s, got, is)
	}
}

// checkRead asks for ReadProgram of any text, and tells whether it is one of a Program.
func checkRead(t *testing.T, s string) bool {
	t.Helper()
	want, can := programRead(s)
	if !can {
		checkUnread(t, "no text of a program", s)
		return false
	}
	got, is := impl.ReadProgram(s)
	if !is || !sameProgram(got, want) || !impl.ProgramOk(got) {
		t.Fatalf("ReadProgram(%q) = %v, %v; want %v", s, got, is, want)
	}
	if again := impl.ShowProgram(got); again != s {
		t.Fatalf("ReadProgram(%q) = %v, which is shown as %q", s, got, again)
	}
	return true
}

func checkUnread(t *testing.T, name, s string) {
	t.Helper()
	if got, is := impl.ReadProgram(s); is || len(got.Procs) != 0 {
		t.Fatalf("%s: ReadProgram(%.300q) = %v, %v", name, s, got, is)
	}
}

// someEdits are Edits of each Kind that can be done to most programs.
func someEdits() []impl.Edit {
	return []impl.Edit{edSet(0, 0, back()), edSet(0, 0, skip()), edSet(1, 0, mark(0)), edAdd(0, 0, skip()), edAdd(1, 0, jump(0)), edAdd(0, 0, call(0)), edAdd(3, 0, back()), edDrop(0, 0), edDrop(0, 1), edDrop(1, 0), edDrop(3, 0), edProc()}
}

// checkChangesWrong asks for the fixed answers of a Program that is not right.
func checkChangesWrong(t *testing.T, name string, p impl.Program) {
	t.Helper()
	if s := impl.ShowProgram(p); s != "" {
		t.Fatalf("%s: %.200v: ShowProgram %.200q", name, p, s)
	}
	for _, e := range someEdits() {
		checkNoEdit(t, name, p, e)
	}
}

// checkChanges asks, of a right Program, for how it is shown, and for some Edits at each place of it and one beyond.
func checkChanges(t *testing.T, p impl.Program) {
	t.Helper()
	checkShown(t, p)
	checkEdit(t, p, edProc())
	for i := int64(-1); i <= int64(len(p.Procs)); i++ {
		for at := int64(-1); at <= 12; at++ {
			for _, s := range []impl.Stmt{skip(), back(), jump(at), jump(0), call(i)} {
				checkEdit(t, p, edSet(i, at, s))
				checkEdit(t, p, edAdd(i, at, s))
			}
			checkEdit(t, p, edDrop(i, at))
		}
	}
}

// checkRightOrWrong asks it of a right Program, and for the fixed answers of another.
func checkRightOrWrong(t *testing.T, p impl.Program, is bool) {
	t.Helper()
	if is {
		checkChanges(t, p)
	} else {
		checkChangesWrong(t, "not right", p)
	}
}

// edit draws an Edit of p: most can be done, some miss by a little.
func (d *draws) edit(p impl.Program) impl.Edit {
	i := d.below(len(p.Procs))
	size := len(p.Procs[i].Stmts)
	e := impl.Edit{Kind: int64(1 + d.below(3)), Proc: int64(i), At: int64(d.below(size)), Stmt: d.stmt(size, len(p.Procs))}
	if e.Kind == impl.EdDrop {
		e.Stmt = impl.Stmt{}
	}
	switch d.below(30) {
	case 0:
		e.Kind = int64(d.below(7) - 1)
	case 1:
		e.Proc = int64(d.below(6) - 1)
	case 2:
		e.At = int64(d.below(15) - 1)
	case 3:
		e.Stmt = impl.Stmt{Kind: int64(d.below(11)), X: int64(d.below(8) - 1), Y: int64(d.below(14) - 1)}
	case 4:
		e = edProc()
	}
	return e
}

// textLies is where a text lies.
func textLies(s string) []stretch {
	from := uintptr(unsafe.Pointer(unsafe.StringData(s)))
	return []stretch{{from, from + uintptr(len(s))}}
}

// programLies is where each list of a Program lies, spare room included.
func programLies(p impl.Program) []stretch {
	lie := liesAt(p.Procs)
	for _, one := range p.Procs {
		lie = append(lie, liesAt(one.Stmts)...)
	}
	return lie
}

// checkMemoryApart asks that no two of these stretches of memory overlap.
func checkMemoryApart(t *testing.T, name string, lie []stretch) {
	t.Helper()
	for i := range lie {
		if overlap(lie[i:i+1], lie[i+1:]) {
			t.Fatalf("%s: memory is shared", name)
		}
	}
}

// spoilProgram writes over the lists of an answer, and over the spare room behind each.
func spoilProgram(p impl.Program) {
	procs := p.Procs[:cap(p.Procs)]
	for i := range procs {
		stmts := procs[i].Stmts[:cap(procs[i].Stmts)]
		for at := range stmts {
			stmts[at] = impl.Stmt{Kind: -4711, X: -4712, Y: -4713}
		}
		procs[i] = impl.Proc{Stmts: []impl.Stmt{{Kind: -4714}}}
	}
}
