package tests

import (
	"math"
	"runtime"
	"slices"
	"strconv"
	"strings"
	"testing"

	"loop.example/g00291/impl"
)

// editCase tells what an Edit makes of a program, "" where it can't be done, and what undoes it, where there is such a one.
type editCase struct {
	before string
	e      impl.Edit
	after  string
	undo   []impl.Edit
}

func by(e ...impl.Edit) []impl.Edit { return e }

func checkEditCases(t *testing.T, cases []editCase) {
	t.Helper()
	for _, c := range cases {
		p := written(t, c.before)
		if can := checkEdit(t, p, c.e); can != (c.after != "") {
			t.Errorf("%q, %v: can be done: %v", c.before, c.e, can)
		}
		if c.after == "" {
			checkNoEdit(t, c.before, p, c.e)
			continue
		}
		got, is := impl.Edited(p, c.e)
		if !is || !sameProgram(got, written(t, c.after)) || impl.ShowProgram(got) != c.after {
			t.Errorf("%q, %v: Edited %q, %v, want %q", c.before, c.e, impl.ShowProgram(got), is, c.after)
		}
		checkUndone(t, p, c.e, got, c.undo)
	}
}

func TestP13Constants(t *testing.T) {
	if kinds := []int64{impl.EdSet, impl.EdAdd, impl.EdDrop, impl.EdProc}; !slices.Equal(kinds, []int64{1, 2, 3, 4}) {
		t.Error(kinds)
	}
}

func TestP13Set(t *testing.T) {
	checkEditCases(t, []editCase{
		{"m0 j2 r", edSet(0, 0, skip()), "s j2 r", by(edSet(0, 0, mark(0)))},
		{"m0 j2 r", edSet(0, 0, assign(1, 2)), "c1,2 j2 r", by(edSet(0, 0, mark(0)))},
		{"m0 j2 r", edSet(0, 0, both(5, 0)), "b5,0 j2 r", by(edSet(0, 0, mark(0)))},
		{"m0 j2 r", edSet(0, 0, wipe(4)), "l4 j2 r", by(edSet(0, 0, mark(0)))},
		{"m0 j2 r", edSet(0, 0, mark(3)), "m3 j2 r", by(edSet(0, 0, mark(0)))},
		{"m0 j2 r", edSet(0, 0, mark(0)), "m0 j2 r", by(edSet(0, 0, mark(0)))},
		{"m0 j2 r", edSet(0, 0, ask(2)), "t2 j2 r", by(edSet(0, 0, mark(0)))},
		{"m0 j2 r", edSet(0, 1, jump(0)), "m0 j0 r", by(edSet(0, 1, jump(2)))},
		{"m0 j2 r", edSet(0, 1, jump(1)), "m0 j1 r", by(edSet(0, 1, jump(2)))},
		{"m0 j2 r", edSet(0, 1, call(0)), "m0 k0 r", by(edSet(0, 1, jump(2)))},
		{"m0 j2 r", edSet(0, 1, back()), "m0 r r", by(edSet(0, 1, jump(2)))},
		{"m0 j2 r", edSet(0, 2, back()), "m0 j2 r", by(edSet(0, 2, back()))},
		{"m0 j2 r", edSet(0, 2, skip()), "", nil},
		{"m0 j2 r", edSet(0, 2, jump(0)), "", nil},
		{"m0 j2 r", edSet(0, 2, call(0)), "", nil},
		{"m0 j2 r", edSet(0, 0, jump(2)), "j2 j2 r", by(edSet(0, 0, mark(0)))},
		{"m0 j2 r", edSet(0, 0, jump(3)), "", nil},
		{"m0 j2 r", edSet(0, 0, call(1)), "", nil},
		{"m0 j2 r;r", edSet(0, 0, call(1)), "k1 j2 r;r", by(edSet(0, 0, mark(0)))},
		{"m0 j2 r;r", edSet(0, 0, call(2)), "", nil},
		{"j0 j0 j1 j2 j4 r", edSet(0, 0, skip()), "s j0 j1 j2 j4 r", by(edSet(0, 0, jump(0)))},
		{"j0 j1 r;j0 j1 r;k2 r", edSet(1, 1, call(2)), "j0 j1 r;j0 k2 r;k2 r", by(edSet(1, 1, jump(1)))},
		{"j0 j1 r;j0 j1 r;k2 r", edSet(2, 0, jump(1)), "j0 j1 r;j0 j1 r;j1 r", by(edSet(2, 0, call(2)))},
		{"r", edSet(0, 0, back()), "r", by(edSet(0, 0, back()))},
		{"r", edSet(0, 0, skip()), "", nil},
	})
}

func TestP13Add(t *testing.T) {
	checkEditCases(t, []editCase{
		{"j0 j1 j2 j3 r", edAdd(0, 0, skip()), "s j1 j2 j3 j4 r", by(edDrop(0, 0))},
		{"j0 j1 j2 j3 r", edAdd(0, 1, mark(0)), "j0 m0 j2 j3 j4 r", by(edDrop(0, 1))},
		{"j0 j1 j2 j3 r", edAdd(0, 2, ask(5)), "j0 j1 t5 j3 j4 r", by(edDrop(0, 2))},
		{"j0 j1 j2 j3 r", edAdd(0, 4, back()), "j0 j1 j2 j3 r r", by(edDrop(0, 4))},
		{"j0 j1 j2 j3 r", edAdd(0, 5, back()), "", nil},
		{"j4 s s j3 r", edAdd(0, 4, wipe(0)), "j5 s s j3 l0 r", by(edDrop(0, 4))},
		{"j4 s s j3 r", edAdd(0, 3, assign(0, 3)), "j5 s s c0,3 j4 r", by(edDrop(0, 3))},
		{"j4 s s j3 r", edAdd(0, 2, both(0, 3)), "j5 s b0,3 s j4 r", by(edDrop(0, 2))},
		{"r", edAdd(0, 0, skip()), "s r", by(edDrop(0, 0))},
		{"r", edAdd(0, 0, back()), "r r", by(edDrop(0, 0))},
		{"r", edAdd(0, 1, back()), "", nil},
		{"r", edAdd(0, -1, back()), "", nil},
		{"r", edAdd(0, 0, call(0)), "k0 r", by(edDrop(0, 0))},
		{"r", edAdd(0, 0, call(1)), "", nil},
		{"s r;r", edAdd(0, 1, call(1)), "s k1 r;r", by(edDrop(0, 1))},
		{"s r;r", edAdd(1, 0, call(0)), "s r;k0 r", by(edDrop(1, 0))},
		{"s r;r", edAdd(1, 0, call(2)), "", nil},
		{"j0 j1 r;j0 j1 j2 r;j0 j1 r", edAdd(1, 1, skip()), "j0 j1 r;j0 s j2 j3 r;j0 j1 r", by(edDrop(1, 1))},
		{"j0 j1 r;j0 j1 j2 r;j0 j1 r", edAdd(2, 0, skip()), "j0 j1 r;j0 j1 j2 r;s j1 j2 r", by(edDrop(2, 0))},
	})
}

// A jump that comes goes where it is told to go, in the procedure as it is then.
func TestP13AddAJump(t *testing.T) {
	checkEditCases(t, []editCase{
		{"s j1 r", edAdd(0, 1, jump(0)), "s j0 j2 r", by(edDrop(0, 1))},
		{"s j1 r", edAdd(0, 1, jump(1)), "s j1 j2 r", by(edDrop(0, 1))},
		{"s j1 r", edAdd(0, 1, jump(2)), "s j2 j2 r", by(edDrop(0, 1))},
		{"s j1 r", edAdd(0, 1, jump(3)), "s j3 j2 r", by(edDrop(0, 1))},
		{"s j1 r", edAdd(0, 1, jump(4)), "", nil},
		{"s j1 r", edAdd(0, 0, jump(0)), "j0 s j2 r", by(edDrop(0, 0))},
		{"s j1 r", edAdd(0, 2, jump(2)), "s j1 j2 r", by(edDrop(0, 2))},
		{"s j1 r", edAdd(0, 2, jump(3)), "s j1 j3 r", by(edDrop(0, 2))},
		{"r", edAdd(0, 0, jump(0)), "j0 r", by(edDrop(0, 0))},
		{"r", edAdd(0, 0, jump(1)), "j1 r", by(edDrop(0, 0))},
		{"r", edAdd(0, 0, jump(2)), "", nil},
		{"s s s s s s s s s s r", edAdd(0, 0, jump(11)), "j11 s s s s s s s s s s r", by(edDrop(0, 0))},
		{"s s s s s s s s s s r", edAdd(0, 0, jump(12)), "", nil},
		{"s s s s s s s s s j10 r", edAdd(0, 10, skip()), "s s s s s s s s s j11 s r", by(edDrop(0, 10))},
		{"s s s s s s s s s j10 s r", edAdd(0, 0, skip()), "", nil},
	})
}

func TestP13Drop(t *testing.T) {
	checkEditCases(t, []editCase{
		{"s j1 j2 j4 r", edDrop(0, 0), "j0 j1 j3 r", by(edAdd(0, 0, skip()))},
		{"j4 m0 j3 j2 r", edDrop(0, 1), "j3 j2 j1 r", by(edAdd(0, 1, mark(0)))},
		{"j0 c1,2 j0 j2 r", edDrop(0, 1), "j0 j0 j1 r", by(edAdd(0, 1, assign(1, 2)))},
		{"j3 j2 s r", edDrop(0, 0), "j1 s r", by(edAdd(0, 0, jump(3)))},
		{"s j0 k0 r", edDrop(0, 1), "s k0 r", by(edAdd(0, 1, jump(0)))},
		{"s k0 r", edDrop(0, 1), "s r", by(edAdd(0, 1, call(0)))},
		{"j2 s r", edDrop(0, 1), "j1 r", by(edAdd(0, 1, skip()))},
		{"s j2 r", edDrop(0, 1), "s r", by(edAdd(0, 1, jump(2)))},
		{"s r r", edDrop(0, 1), "s r", by(edAdd(0, 1, back()))},
		{"r r", edDrop(0, 0), "r", by(edAdd(0, 0, back()))},
		{"j1 r;j1 s r;j1 r", edDrop(1, 0), "j1 r;s r;j1 r", by(edAdd(1, 0, jump(1)))},
		{"j1 r;s j2 r;j1 r", edDrop(1, 0), "j1 r;j1 r;j1 r", by(edAdd(1, 0, skip()))},
		{"k1 r;k1 s r", edDrop(1, 1), "k1 r;k1 r", by(edAdd(1, 1, skip()))},
	})
}

func TestP13DropWhatDoesNotComeBack(t *testing.T) {
	checkEditCases(t, []editCase{
		{"s r r", edDrop(0, 2), "s r", nil},
		{"r r", edDrop(0, 1), "r", nil},
		{"j1 r r", edDrop(0, 2), "j1 r", nil},
		{"j2 r r", edDrop(0, 2), "", nil},
		{"s s r", edDrop(0, 2), "", nil},
		{"s j0 r", edDrop(0, 2), "", nil},
		{"r", edDrop(0, 0), "", nil},
		{"j1 s j3 j2 r", edDrop(0, 1), "j1 j2 j1 r", nil},
		{"s j0 j1 j3 r", edDrop(0, 0), "j0 j0 j2 r", nil},
		{"j1 s r", edDrop(0, 1), "j1 r", nil},
		{"j1 r s r", edDrop(0, 1), "j1 s r", nil},
		{"s r j0 r", edDrop(0, 0), "r j0 r", nil},
		{"j0 r", edDrop(0, 0), "r", nil},
		{"s j1 j2 r", edDrop(0, 1), "s j1 r", nil},
		{"j1 r;s j1 r r", edDrop(1, 3), "j1 r;s j1 r", nil},
		{"j1 r;s s j1 r r", edDrop(1, 1), "j1 r;s j1 r r", nil},
		{"j1 s r;s s s r", edDrop(1, 1), "j1 s r;s s r", by(edAdd(1, 1, skip()))},
	})
}

func TestP13Proc(t *testing.T) {
	checkEditCases(t, []editCase{
		{"r", edProc(), "r;r", nil},
		{"k1 j0 r;m0 r", edProc(), "k1 j0 r;m0 r;r", nil},
		{"k2 r;s r;k0 r", edProc(), "k2 r;s r;k0 r;r", nil},
		{"k2 r;s r;k0 r;r", edProc(), "", nil},
	})
}

// What came by EdProc is called, and edited as others are.
func TestP13ProcAndOn(t *testing.T) {
	p := written(t, "s r")
	for _, c := range []struct {
		e     impl.Edit
		shown string
	}{
		{edProc(), "s r;r"}, {edSet(0, 0, call(1)), "k1 r;r"}, {edAdd(1, 0, mark(0)), "k1 r;m0 r"}, {edProc(), "k1 r;m0 r;r"},
		{edAdd(0, 1, call(2)), "k1 k2 r;m0 r;r"}, {edAdd(2, 0, jump(1)), "k1 k2 r;m0 r;j1 r"}, {edProc(), "k1 k2 r;m0 r;j1 r;r"}, {edDrop(0, 0), "k2 r;m0 r;j1 r;r"},
	} {
		q, is := impl.Edited(p, c.e)
		if !is || impl.ShowProgram(q) != c.shown {
			t.Fatalf("%v, %v: %q, %v, want %q", p, c.e, impl.ShowProgram(q), is, c.shown)
		}
		checkEdit(t, p, c.e)
		p = q
	}
}

// Every Edit of every small procedure, of a program of one and of the last one of two.
func TestP13EverySmallEdit(t *testing.T) {
	for n := 1; n <= 4; n++ {
		stmts := []impl.Stmt{{}, skip(), back(), both(1, 2), call(0), call(1), call(2)}
		for y := int64(-1); y <= int64(n)+2; y++ {
			stmts = append(stmts, jump(y))
		}
		smallProcs(n, func(one impl.Proc) {
			for proc, p := range []impl.Program{program(one), program(long(3), one)} {
				checkShown(t, p)
				for kind := range int64(6) {
					for at := int64(-1); at <= int64(n)+1; at++ {
						for _, s := range stmts {
							checkEdit(t, p, impl.Edit{Kind: kind, Proc: int64(proc), At: at, Stmt: s})
						}
					}
				}
			}
		})
	}
}

func TestP13ManyEdits(t *testing.T) {
	d := draws(13)
	done, undone := [5]int{}, [5]int{}
	for range 4000 {
		p := d.program()
		checkShown(t, p)
		for range 12 {
			e := d.edit(p)
			if checkEdit(t, p, e) {
				done[e.Kind]++
				if _, is := impl.Undone(p, e); is {
					undone[e.Kind]++
				}
			}
		}
	}
	if slices.Min(done[1:]) < 500 || slices.Min(undone[1:4]) < 2000 || undone[4] != 0 {
		t.Error("done", done, "undone", undone)
	}
}

// Edits done one after the other are undone, the last one first.
func TestP13UndoneInTurn(t *testing.T) {
	d := draws(130)
	all := 0
	for range 300 {
		p := d.program()
		was, undos := []impl.Program{}, []impl.Edit{}
		for range 60 {
			e := d.edit(p)
			q, is := impl.Edited(p, e)
			undo, can := impl.Undone(p, e)
			if can && !is {
				t.Fatalf("%v, %v: Undone %v, but not Edited", p, e, undo)
			}
			if can {
				was, undos, p = append(was, p), append(undos, undo), q
			}
		}
		all += len(undos)
		for i := len(undos) - 1; i >= 0; i-- {
			q, is := impl.Edited(p, undos[i])
			if !is || !sameProgram(q, was[i]) {
				t.Fatalf("%v, %v: %v, %v, want %v", p, undos[i], q, is, was[i])
			}
			p = q
		}
	}
	if all < 300*20 {
		t.Error("only", all, "were undone")
	}
}

func changing() []impl.Program {
	return append(allSorts(), fromTwo(), chain(), keeping(), levels(), callers())
}

func TestP13EdgesOfTheKind(t *testing.T) {
	for _, p := range changing() {
		for _, kind := range nearAndFar(-3, 9) {
			for _, e := range append(someEdits(), impl.Edit{}) {
				e.Kind = kind
				if can := checkEdit(t, p, e); can && (kind < 1 || kind > 4) {
					t.Errorf("%v: %v can be done", p, e)
				}
			}
		}
	}
	p := written(t, "s s r;r")
	for kind, want := range map[int64]bool{0: false, 1: true, 2: true, 3: false, 4: false, 5: false} {
		if _, is := impl.Edited(p, impl.Edit{Kind: kind, At: 1, Stmt: skip()}); is != want {
			t.Errorf("Kind %d with a Stmt: %v", kind, is)
		}
		if _, is := impl.Edited(p, impl.Edit{Kind: kind}); is != (kind == 3 || kind == 4) {
			t.Errorf("Kind %d alone: %v", kind, is)
		}
	}
}

func TestP13EdgesOfThePlace(t *testing.T) {
	for _, p := range changing() {
		for _, i := range nearAndFar(-2, 5) {
			for _, at := range nearAndFar(-2, 14) {
				for _, e := range []impl.Edit{edSet(i, at, back()), edSet(i, at, skip()), edAdd(i, at, back()), edAdd(i, at, skip()), edDrop(i, at)} {
					if can := checkEdit(t, p, e); can && !isPlace(p, impl.Place{Proc: i, At: at}) {
						t.Fatalf("%v: %v can be done", p, e)
					}
				}
			}
		}
	}
}

// At is met at both ends and passed by one, whatever the size; an EdAdd needs room for one more.
func TestP13EdgesOfAt(t *testing.T) {
	for procs := int64(1); procs <= 4; procs++ {
		for size := int64(1); size <= 12; size++ {
			p := program(slices.Repeat([]impl.Proc{long(12)}, int(procs))...)
			for i := int64(-1); i <= procs; i++ {
				q := program(slices.Clone(p.Procs)...)
				there := i >= 0 && i < procs
				if there {
					q.Procs[i] = long(int(size))
				}
				for at := int64(-1); at <= size; at++ {
					in := there && at >= 0 && at < size
					for _, c := range []struct {
						e    impl.Edit
						want bool
					}{
						{edSet(i, at, back()), in}, {edSet(i, at, skip()), in && at < size-1}, {edAdd(i, at, skip()), in && size < 12}, {edAdd(i, at, back()), in && size < 12}, {edDrop(i, at), in && at < size-1},
					} {
						if got := checkEdit(t, q, c.e); got != c.want {
							t.Fatalf("%d procedures, %d statements: %v can be done: %v", procs, size, c.e, got)
						}
					}
				}
			}
		}
	}
}

// With a StBack ahead of it the last statement can go, of procedures of each size, but not with a jump to it.
func TestP13DropTheLast(t *testing.T) {
	for size := int64(2); size <= 12; size++ {
		for at := range size {
			for y := range size {
				one := long(int(size))
				one.Stmts[size-2] = back()
				if at < size-2 {
					one.Stmts[at] = jump(y)
				}
				p := program(long(1), one)
				want := at >= size-2 || y < size-1
				if got := checkEdit(t, p, edDrop(1, size-1)); got != want {
					t.Fatalf("%v: its last can go: %v", one, got)
				}
				if undo, is := impl.Undone(p, edDrop(1, size-1)); is {
					t.Fatalf("%v: Undone %v", one, undo)
				}
			}
		}
	}
}

// Each jump of a procedure of each size, to ahead of, to and behind the place that is edited.
func TestP13EveryJump(t *testing.T) {
	for size := int64(2); size <= 12; size++ {
		for from := range size - 1 {
			for y := range size {
				one := long(int(size))
				one.Stmts[from] = jump(y)
				for at := range size {
					p := program(one, one, long(2))
					for _, e := range []impl.Edit{edAdd(0, at, mark(0)), edAdd(1, at, jump(size)), edAdd(1, at, jump(size+1)), edAdd(0, at, jump(at)), edDrop(0, at), edDrop(1, at), edSet(1, at, jump(size-1)), edSet(1, at, jump(size)), edSet(1, at, back())} {
						checkEdit(t, p, e)
					}
				}
			}
		}
	}
}

func TestP13EdgesOfHowManyProcs(t *testing.T) {
	for n := 1; n <= 4; n++ {
		for _, one := range []impl.Proc{long(1), long(12), calling(int64(n) - 1)} {
			p := program(slices.Repeat([]impl.Proc{one}, n)...)
			if got := checkEdit(t, p, edProc()); got != (n < 4) {
				t.Errorf("%d procedures: one more can come: %v", n, got)
			}
			for i := int64(-1); i <= 4; i++ {
				if got := checkEdit(t, p, edSet(0, 0, call(i))); got && (i < 0 || i >= int64(n)) {
					t.Errorf("%d procedures: %d is called", n, i)
				}
			}
		}
	}
}

// What is zero is so in each number.
func TestP13WhatIsZero(t *testing.T) {
	p := written(t, "s s r;s r")
	for _, n := range nearAndFar(-3, 13) {
		if n == 0 {
			continue
		}
		for _, s := range []impl.Stmt{{Kind: n}, {X: n}, {Y: n}, {Kind: n, X: n, Y: n}} {
			drop, more := edDrop(0, 0), edProc()
			drop.Stmt, more.Stmt = s, s
			checkNoEdit(t, "a Stmt", p, drop)
			checkNoEdit(t, "a Stmt", p, more)
		}
		checkNoEdit(t, "a Proc", p, impl.Edit{Kind: impl.EdProc, Proc: n})
		checkNoEdit(t, "an At", p, impl.Edit{Kind: impl.EdProc, At: n})
		checkNoEdit(t, "a Proc and an At", p, impl.Edit{Kind: impl.EdProc, Proc: n, At: n})
	}
	for _, s := range rightStmts() {
		checkNoEdit(t, "a right Stmt", p, impl.Edit{Kind: impl.EdDrop, Stmt: s})
		checkNoEdit(t, "a right Stmt", p, impl.Edit{Kind: impl.EdProc, Stmt: s})
	}
	if !checkEdit(t, p, edDrop(0, 0)) || !checkEdit(t, p, edDrop(1, 0)) || !checkEdit(t, p, edProc()) {
		t.Error("zero, and can't be done")
	}
}

func TestP13EveryStmtComes(t *testing.T) {
	for _, p := range []impl.Program{written(t, "s j0 r"), written(t, "r;s s r;r"), program(long(11), long(12), long(1), long(2))} {
		for i, one := range p.Procs {
			for at := range one.Stmts {
				for _, s := range rightStmts() {
					checkEdit(t, p, edSet(int64(i), int64(at), s))
					checkEdit(t, p, edAdd(int64(i), int64(at), s))
				}
			}
		}
	}
}

func TestP13WrongStmts(t *testing.T) {
	for _, p := range []impl.Program{written(t, "s j0 r"), written(t, "r;s s r;r"), program(long(11), long(12), long(1), long(2))} {
		for i, one := range p.Procs {
			for at := range one.Stmts {
				for kind := range int64(11) {
					for _, n := range nearAndFar(-2, 13) {
						for _, s := range []impl.Stmt{{Kind: kind, X: n}, {Kind: kind, Y: n}, {Kind: n}} {
							x, y := rooms(s.Kind)
							wrong := s.X < 0 || s.X >= x || s.Y < 0 || s.Y >= y
							set, add := checkEdit(t, p, edSet(int64(i), int64(at), s)), checkEdit(t, p, edAdd(int64(i), int64(at), s))
							if wrong && (set || add) {
								t.Fatalf("%v comes: %v, %v", s, set, add)
							}
						}
					}
				}
			}
		}
	}
}

func TestP13Shown(t *testing.T) {
	for _, c := range []struct {
		p    impl.Program
		want string
	}{
		{alone(back()), "r"},
		{alone(skip(), assign(1, 0), both(2, 5), wipe(3), mark(4), ask(5), jump(7), call(0), back()), "s c1,0 b2,5 l3 m4 t5 j7 k0 r"},
		{alone(skip(), skip(), skip(), skip(), skip(), skip(), skip(), skip(), skip(), jump(11), jump(10), back()), "s s s s s s s s s j11 j10 r"},
		{program(long(1), long(1)), "r;r"},
		{program(proc(mark(0), jump(2), call(1), back()), proc(assign(1, 0), back())), "m0 j2 k1 r;c1,0 r"},
		{program(calling(3), calling(2, 1), calling(), calling(0)), "k3 r;k2 k1 r;r;k0 r"},
		{alone(back(), jump(0), back(), back()), "r j0 r r"},
		{alone(assign(0, 0), both(5, 5), back()), "c0,0 b5,5 r"},
	} {
		if got := impl.ShowProgram(c.p); got != c.want {
			t.Errorf("%v: %q, want %q", c.p, got, c.want)
		}
		if got, is := impl.ReadProgram(c.want); !is || !sameProgram(got, c.p) {
			t.Errorf("%q: %v, %v, want %v", c.want, got, is, c.p)
		}
		checkShown(t, c.p)
		checkRead(t, c.want)
	}
}

func TestP13EveryStmtShown(t *testing.T) {
	for _, s := range rightStmts() {
		for at := range 11 {
			one := long(12)
			one.Stmts[at] = s
			checkShown(t, program(one, long(1), long(1), long(1)))
			checkShown(t, program(long(1), long(2), long(1), one))
		}
	}
	for _, p := range changing() {
		checkShown(t, p)
	}
}

func TestP13NearlyTexts(t *testing.T) {
	for _, s := range []string{
		"", " ", ";", ",", ";;", "  ", "\n", "\x00", "s", "c1,0", "j0", "k0", "s s", "x", "S r", "R",
		" r", "r ", "  r", "r  ", "s  r", "s\tr", "s\nr", "r\n", "r\x00", "\x00r", "s r ", " s r", "sr", "s,r", "s;r", "r r s",
		";r", "r;", "r;;r", "r; r", "r ;r", "r ; r", "r, r", "r,r", "r;r;", ";r;r", "r;r;;r", "r:r", "r;\nr", "r;r;r;r;r", "r;r;r;r;", "r;s", "s;r",
		"c1,0r", "c1 r", "c1, r", "c,0 r", "c, r", "c r", "c10 r", "c1,,0 r", "c1,0, r", "c,1,0 r", "c1,0,0 r", "c1;0 r", "c1 0 r", "c 1,0 r", "c1, 0 r", "c1 ,0 r", "c1.0 r", "c6,0 r", "c0,6 r", "c01,0 r", "c1,00 r", "c-1,0 r", "c1,-0 r", "c+1,0 r", "c1,0x0 r", "c1,a r",
		"b1 r", "b r", "b6,0 r", "b0,6 r", "b1,0,1 r", "b01,1 r", "b-1,1 r", "b0,-1 r",
		"l r", "l6 r", "l1,0 r", "l0,0 r", "l00 r", "l01 r", "l-0 r", "l-1 r", "l, r", "l0, r", "l,0 r", "l 0 r", "l10 r", "m r", "m6 r", "m1,0 r", "m00 r", "m0,0 r", "m-1 r", "t r", "t6 r", "t0,0 r", "t1,1 r", "t05 r",
		"j r", "j2 r", "j-1 r", "j-0 r", "j00 r", "j01 r", "j1,0 r", "j0,1 r", "j0,0 r", "j,0 r", "j,1 r", "j4 r", "j11 r", "j12 r", "j+1 r", "j1. r", "j0x1 r", "j1_0 r", "j1e0 r", "j٠ r", "j４ r",
		"k r", "k1 r", "k-1 r", "k-0 r", "k00 r", "k0,0 r", "k,0 r", "k4 r;r;r;r", "k2 r;r", "k01 r;r",
		"s0 r", "s, r", "s0,0 r", "s1 r", "r0", "r,", "r0,0", "r1", "s r0", "s r,", "ss r", "s rr", "ſ r", "s\u00a0r", "s　r", "x0 r", "a r", "q r", "z r", "0 r", "- r", ", r", "; r",
		"s s s s s s s s s s s s r", "s s s s s s s s s s s j12 r", "s s s s s s s s s s j12 r", "r;s s s s s s s s s s s s r",
		"tests r", "\"r\"", "r//", "{r}", "r\r", "\ufeffr", "r;r;r;r r;r",
	} {
		checkUnread(t, "a text by hand", s)
		if checkRead(t, s) {
			t.Errorf("%q is read", s)
		}
	}
	for _, s := range []string{"r", "s r", "r r", "j1 r", "j0 r", "k0 r", "l0 r", "c1,0 r", "r;r;r;r", "k3 r;r;r;r", "s s s s s s s s s s j11 r"} {
		if !checkRead(t, s) {
			t.Errorf("%q is not read", s)
		}
	}
}

func shownTexts() []string {
	return []string{"r", "s r", "m0 j2 k1 r;c1,0 r", "s c1,0 b2,5 l3 m4 t5 j7 k0 r", "s s s s s s s s s j11 j10 r", "k3 r;k2 k1 r;r;k0 r", "j0 j1 r;j0 b0,3 r"}
}

// Every byte of a shown text is made each other one, dropped, doubled, put elsewhere, and has each one put ahead of it.
func TestP13EveryByteAltered(t *testing.T) {
	read, asked := 0, 0
	ask := func(s string) {
		asked++
		if checkRead(t, s) {
			read++
		}
	}
	for _, s := range shownTexts() {
		if !checkRead(t, s) {
			t.Fatalf("%q is not read", s)
		}
		for i := range len(s) + 1 {
			for c := range 256 {
				ask(s[:i] + string([]byte{byte(c)}) + s[i:])
				if i < len(s) {
					ask(s[:i] + string([]byte{byte(c)}) + s[i+1:])
				}
			}
			ask(s[:i])
			ask(s[i:])
		}
		for i := range len(s) {
			ask(s[:i] + s[i+1:])
			ask(s[:i+1] + s[i:])
			for j := range len(s) {
				without := s[:i] + s[i+1:]
				at := min(j, len(without))
				ask(without[:at] + s[i:i+1] + without[at:])
			}
		}
	}
	if read < 300 || asked-read < 10000 {
		t.Error(asked, "texts, of which", read, "are read")
	}
}

// everyText calls f with every text of at most this many of these bytes.
func everyText(bytes string, most int, f func(s string)) {
	texts := []string{""}
	f("")
	for range most {
		var longer []string
		for _, s := range texts {
			for _, c := range bytes {
				longer = append(longer, s+string(c))
				f(s + string(c))
			}
		}
		texts = longer
	}
}

func TestP13EveryShortText(t *testing.T) {
	read := 0
	ask := func(s string) {
		if checkRead(t, s) {
			read++
		}
	}
	everyText("srjkl01,; -", 5, ask)
	everyText("scblmtjkr0156,; -", 4, ask)
	everyText("scr05, ", 6, ask)
	everyText("rk; 01", 7, ask)
	if read < 60 {
		t.Error("only", read, "are read")
	}
}

// Every word that can stand ahead of a StBack, with the numbers near the edges, in each form.
func TestP13EveryWord(t *testing.T) {
	numbers := []string{"", "-", "-1", "-0", "+0", "+1", "00", "01", "011", "1 ", " 1", "1.0", "0x1", "1e0", "1_0"}
	for _, n := range nearAndFar(-2, 14) {
		numbers = append(numbers, strconv.FormatInt(n, 10))
	}
	// Some that a number of fewer bits would take for a small one, and one beyond the ends.
	numbers = append(numbers, "256", "65536", "4294967296", "4294967297", "9223372036854775808", "-9223372036854775809", "18446744073709551615", "18446744073709551616", "18446744073709551617", "100000000", "999999999", "1000000000", "0000000000", "0000000001", strings.Repeat("9", 100), strings.Repeat("0", 100))
	for _, letter := range "scblmtjkrxSR" {
		for _, first := range numbers {
			for _, rest := range []string{" s s s s s s s s s s r;r;r;r", " r", ";r"} {
				checkRead(t, string(letter)+first+rest)
			}
			for _, second := range numbers {
				checkRead(t, string(letter)+first+","+second+" s s s s s s s s s s r;r;r;r")
			}
		}
	}
}

// In place of each number of a shown text, the ends of int64 and what lies one beyond.
func TestP13EndsOfInt64InTexts(t *testing.T) {
	for _, s := range shownTexts() {
		for i := 0; i < len(s); i++ {
			end := i
			for end < len(s) && s[end] >= '0' && s[end] <= '9' {
				end++
			}
			if end == i {
				continue
			}
			for _, n := range []string{"9223372036854775807", "-9223372036854775808", "9223372036854775808", "-9223372036854775809", "-9223372036854775807", "18446744073709551616", "-18446744073709551616", "1" + strings.Repeat("0", 64), "340282366920938463463374607431768211456"} {
				checkUnread(t, "an end", s[:i]+n+s[end:])
				checkUnread(t, "an end, and noughts", s[:i]+"000"+n+s[end:])
			}
			i = end
		}
	}
}

func TestP13ManyTexts(t *testing.T) {
	d := draws(131)
	read := 0
	for range 3000 {
		s := []byte(shownOf(d.program()))
		for range 1 + d.below(3) {
			i := d.below(len(s))
			switch d.below(4) {
			case 0:
				s[i] = "scblmtjkr0123456789,; -"[d.below(23)]
			case 1:
				s = slices.Delete(s, i, i+1)
			case 2:
				s = slices.Insert(s, i, s[d.below(len(s))])
			default:
				j := d.below(len(s))
				s[i], s[j] = s[j], s[i]
			}
			if len(s) == 0 {
				break
			}
			if checkRead(t, string(s)) {
				read++
			}
		}
	}
	if read < 100 {
		t.Error("only", read, "are read")
	}
}

// The longest text that is shown has 227 bytes; texts about the edge of 1000 are none of a Program, whatever they are made of.
func TestP13LongTexts(t *testing.T) {
	one := proc(append(slices.Repeat([]impl.Stmt{both(5, 5)}, 11), back())...)
	p := program(one, one, one, one)
	if s := impl.ShowProgram(p); len(s) != 227 {
		t.Errorf("%d bytes: %q", len(s), s)
	}
	checkShown(t, p)
	for _, n := range []int{227, 228, 229, 998, 999, 1000, 1001, 1002, 2000, 1 << 20} {
		for _, unit := range []string{"s ", "r;", "r ", "0", " ", ";", ",", "b5,5 ", "j", "j11 ", "\x00"} {
			filled := strings.Repeat(unit, n/len(unit)+1)
			for _, s := range []string{filled[:n], filled[:n-2] + " r", filled[:n-2] + ";r", "r;" + filled[:n-2], "j" + filled[:n-3] + " r", "r" + filled[:n-1]} {
				if len(s) != n {
					t.Fatal("the test's own text is not as long as told")
				}
				checkUnread(t, "a long text", s)
			}
		}
		checkUnread(t, "noughts ahead", "j"+strings.Repeat("0", n-4)+"1 r")
	}
}

func TestP13OneWrongProc(t *testing.T) {
	oneWrongProc(func(p impl.Program) { checkChangesWrong(t, "one wrong procedure", p) })
}

func TestP13EdgesOfHowMany(t *testing.T) {
	howManyProcs(func(p impl.Program, is bool) { checkRightOrWrong(t, p, is) })
	howManyStmts(func(p impl.Program, is bool) { checkRightOrWrong(t, p, is) })
}

func TestP13EdgesOfTheCalled(t *testing.T) {
	for n := 1; n <= 4; n++ {
		for _, y := range nearAndFar(-2, 6) {
			for at := range n {
				p := program(slices.Repeat([]impl.Proc{proc(mark(0), back())}, n)...)
				p.Procs[at] = calling(y)
				checkRightOrWrong(t, p, y >= 0 && y < int64(n))
			}
		}
	}
}

func TestP13WrongInOneField(t *testing.T) {
	inOneField(t, func(p impl.Program, is bool) {
		if !is {
			checkChangesWrong(t, "one wrong field", p)
			return
		}
		checkShown(t, p)
		for _, e := range someEdits() {
			checkEdit(t, p, e)
		}
	})
}

// A wrong program is not edited, though what would come is right.
func TestP13NotMended(t *testing.T) {
	for _, c := range []struct {
		p impl.Program
		e impl.Edit
	}{
		{alone(skip()), edSet(0, 0, back())}, {alone(impl.Stmt{}, back()), edSet(0, 0, skip())}, {alone(impl.Stmt{}, back()), edDrop(0, 0)}, {alone(back(), skip()), edDrop(0, 1)}, {program(long(13)), edDrop(0, 0)},
		{alone(jump(3), skip(), back()), edDrop(0, 1)}, {alone(jump(2), back()), edAdd(0, 0, skip())}, {alone(jump(-1), back()), edAdd(0, 0, skip())}, {program(calling(1)), edProc()}, {impl.Program{}, edProc()}, {program(long(1), long(0)), edAdd(1, 0, back())},
		{alone(call(1), back()), edSet(0, 0, skip())}, {alone(mark(6), back()), edDrop(0, 0)}, {alone(jump(12), back()), edDrop(0, 0)},
	} {
		checkNoEdit(t, "not mended", c.p, c.e)
		checkChangesWrong(t, "not right", c.p)
	}
}

// The spare room behind procedures and statements is no part of them.
func TestP13TheRoomBehindIsNoPart(t *testing.T) {
	for _, p := range changing() {
		checkChanges(t, roomy(p))
	}
}

func TestP21ChangesAnswersAreNewMemory(t *testing.T) {
	for _, p := range changing() {
		text := strings.Clone(shownOf(p))
		for _, e := range append(someEdits(), edDrop(0, int64(len(p.Procs[0].Stmts))-1), edSet(0, int64(len(p.Procs[0].Stmts))-1, back()), edAdd(0, int64(len(p.Procs[0].Stmts))-1, mark(0))) {
			ask := func() ([]impl.Program, []string) {
				var programs []impl.Program
				var texts []string
				for range 2 {
					edited, _ := impl.Edited(p, e)
					read, _ := impl.ReadProgram(text)
					programs, texts = append(programs, edited, read), append(texts, impl.ShowProgram(p), impl.ShowProgram(edited))
				}
				return programs, texts
			}
			programs, texts := ask()
			lie := append(programLies(p), textLies(text)...)
			var want []string
			for _, got := range programs {
				lie = append(lie, programLies(got)...)
				want = append(want, impl.ShowProgram(got))
			}
			for _, got := range texts {
				lie = append(lie, textLies(got)...)
			}
			checkMemoryApart(t, text, lie)
			for _, got := range programs {
				spoilProgram(got)
			}
			again, _ := ask()
			for i, got := range again {
				if impl.ShowProgram(got) != want[i] {
					t.Fatalf("%v, %v: answer %d: %q, once written over %q", p, e, i, want[i], impl.ShowProgram(got))
				}
			}
			runtime.KeepAlive(texts)
		}
	}
}

// askChanges calls each function of the chapter twice, and writes over what it answers.
func askChanges(p impl.Program, e impl.Edit) {
	for range 2 {
		edited, _ := impl.Edited(p, e)
		spoilProgram(edited)
		impl.Undone(p, e)
		read, _ := impl.ReadProgram(impl.ShowProgram(p))
		spoilProgram(read)
	}
}

func TestP21ChangesArgumentsStay(t *testing.T) {
	programs := append(changing(), impl.Program{}, program(slices.Repeat([]impl.Proc{calling(0)}, 5)...), program(calling(1), long(1), calling(3)))
	for _, wrong := range wrongProcs() {
		programs = append(programs, program(calling(1), wrong), program(wrong, calling(0)))
	}
	d := draws(21)
	for _, p := range programs {
		edits := append(someEdits(), impl.Edit{}, impl.Edit{Kind: 5}, edAdd(0, -1, skip()), edAdd(4, 12, skip()), edDrop(math.MinInt64, math.MaxInt64))
		if isProgram(p) {
			for range 30 {
				edits = append(edits, d.edit(p))
			}
		}
		for _, e := range edits {
			staysWhile(t, "changes", p, func(p impl.Program) { askChanges(p, e) })
		}
	}
}

func TestP21EndsOfInt64Changes(t *testing.T) {
	for _, end := range []int64{math.MinInt64, math.MaxInt64} {
		for _, p := range changing() {
			for _, e := range someEdits() {
				for field := range 6 {
					spoilt := e
					*[]*int64{&spoilt.Kind, &spoilt.Proc, &spoilt.At, &spoilt.Stmt.Kind, &spoilt.Stmt.X, &spoilt.Stmt.Y}[field] = end
					checkNoEdit(t, "an end", p, spoilt)
				}
				checkNoEdit(t, "all ends", p, impl.Edit{Kind: e.Kind, Proc: end, At: end, Stmt: impl.Stmt{Kind: end, X: end, Y: end}})
				checkNoEdit(t, "both ends", p, impl.Edit{Kind: e.Kind, Proc: end, At: -1 - end})
			}
		}
		for _, s := range []impl.Stmt{call(end), jump(end), mark(end), ask(end), wipe(end), assign(end, 0), assign(0, end), both(end, 0), both(0, end), {Kind: end}, {Kind: end, X: end, Y: end}, {Kind: impl.StCall, X: end}, {Kind: impl.StJump, X: end}, {Kind: impl.StBack, Y: end}, {Kind: impl.StSkip, X: end}} {
			checkChangesWrong(t, "an end", alone(s, back()))
			checkChangesWrong(t, "an end", program(calling(1), calling(2), calling(3), proc(call(0), s, back())))
			checkNoEdit(t, "an end", alone(skip(), jump(2), back()), edSet(0, 0, s))
			checkNoEdit(t, "an end", alone(skip(), jump(2), back()), edAdd(0, 0, s))
			checkNoEdit(t, "an end", alone(skip(), jump(2), back()), edAdd(0, 2, s))
		}
	}
}

func TestP21GreatChanges(t *testing.T) {
	checkChangesWrong(t, "a great procedure", program(calling(1), long(1<<20)))
	checkChangesWrong(t, "many procedures", program(slices.Repeat([]impl.Proc{calling(0)}, 1<<20)...))
	checkUnread(t, "a great text", strings.Repeat("s ", 1<<22)+"r")
	checkUnread(t, "a great number", "j"+strings.Repeat("1", 1<<22)+" r")
	checkUnread(t, "many lines", strings.Repeat("r;", 1<<22)+"r")
}
