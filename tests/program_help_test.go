package tests

import (
	"math"
	"reflect"
	"slices"
	"testing"

	"loop.example/g00291/impl"
)

func skip() impl.Stmt { return impl.Stmt{Kind: impl.StSkip} }

func assign(x, y int64) impl.Stmt { return impl.Stmt{Kind: impl.StCopy, X: x, Y: y} }

func both(x, y int64) impl.Stmt { return impl.Stmt{Kind: impl.StBoth, X: x, Y: y} }

func wipe(x int64) impl.Stmt { return impl.Stmt{Kind: impl.StClear, X: x} }

func mark(x int64) impl.Stmt { return impl.Stmt{Kind: impl.StMark, X: x} }

func ask(x int64) impl.Stmt { return impl.Stmt{Kind: impl.StTest, X: x} }

func jump(y int64) impl.Stmt { return impl.Stmt{Kind: impl.StJump, Y: y} }

func call(y int64) impl.Stmt { return impl.Stmt{Kind: impl.StCall, Y: y} }

func back() impl.Stmt { return impl.Stmt{Kind: impl.StBack} }

func proc(stmts ...impl.Stmt) impl.Proc { return impl.Proc{Stmts: stmts} }

func program(procs ...impl.Proc) impl.Program { return impl.Program{Procs: procs} }

// long is a Proc of n statements, the last one StBack.
func long(n int) impl.Proc {
	if n == 0 {
		return proc()
	}
	return proc(append(slices.Repeat([]impl.Stmt{skip()}, n-1), back())...)
}

// alone is a Program of this one Proc.
func alone(stmts ...impl.Stmt) impl.Program { return program(proc(stmts...)) }

// calling is a Proc that calls these, in this order.
func calling(procs ...int64) impl.Proc {
	var stmts []impl.Stmt
	for _, y := range procs {
		stmts = append(stmts, call(y))
	}
	return proc(append(stmts, back())...)
}

// wrongProcs are not right, each in a way of its own.
func wrongProcs() []impl.Proc {
	return []impl.Proc{
		{}, proc(), proc(skip()), proc(jump(0)), proc(call(0)), long(13), long(100), proc(impl.Stmt{}, back()), proc(impl.Stmt{Kind: 10}, back()), proc(skip(), impl.Stmt{Kind: impl.StBack, X: 1}),
		proc(jump(2), back()), proc(jump(-1), back()), proc(jump(12), back()), proc(jump(math.MaxInt64), back()), proc(jump(math.MinInt64), back()),
		proc(skip(), jump(3), back()), proc(impl.Stmt{Kind: impl.StJump, X: 1}, back()), proc(call(4), back()), proc(call(-1), back()),
		proc(mark(6), back()), proc(assign(0, 6), back()), proc(impl.Stmt{Kind: math.MinInt64}, back()), proc(back(), skip()), proc(back(), back(), jump(0)),
		proc(skip(), back(), impl.Stmt{Kind: impl.StSkip, Y: 1}, back()), proc(append(slices.Repeat([]impl.Stmt{jump(0)}, 12), back())...),
		proc(jump(0), impl.Stmt{Kind: impl.StJump, Y: 3}, back()), proc(jump(0), impl.Stmt{Kind: impl.StBack, Y: 1}),
	}
}

// roomy is p in memory of its own, with strangers in the spare room behind each list.
func roomy(p impl.Program) impl.Program {
	procs := make([]impl.Proc, 0, len(p.Procs)+2)
	for _, one := range p.Procs {
		stmts := make([]impl.Stmt, len(one.Stmts), len(one.Stmts)+2)
		copy(stmts, one.Stmts)
		stmts[:cap(stmts)][len(stmts)] = impl.Stmt{Kind: 4711, X: -4712, Y: 4713}
		procs = append(procs, impl.Proc{Stmts: stmts})
	}
	procs[:cap(procs)][len(procs)] = proc(impl.Stmt{Kind: -1})
	return impl.Program{Procs: procs}
}

// opened is a copy of p with the spare room behind its lists shown as part of them.
func opened(p impl.Program) impl.Program {
	procs := slices.Clone(p.Procs[:cap(p.Procs)])
	for i := range procs {
		procs[i].Stmts = slices.Clone(procs[i].Stmts[:cap(procs[i].Stmts)])
	}
	return impl.Program{Procs: procs}
}

// staysWhile asks that nothing of p is written, spare room included, while f runs.
func staysWhile(t *testing.T, name string, p impl.Program, f func(p impl.Program)) {
	t.Helper()
	room := roomy(p)
	before := opened(room)
	f(room)
	if !reflect.DeepEqual(before, opened(room)) {
		t.Errorf("%s: %v was changed to %v", name, before, opened(room))
	}
}

// spoilNumbers writes over an answer and the spare room behind it.
func spoilNumbers(numbers []int64) {
	numbers = numbers[:cap(numbers)]
	for i := range numbers {
		numbers[i] = -4711
	}
}
