package tests

import (
	"fmt"
	"math"
	"slices"
	"testing"

	"loop.example/g00291/impl"
)

// sumsCase tells Tables of each client.
type sumsCase struct {
	name        string
	p           impl.Program
	mark, unset [][]int64
}

func checkSumsCases(t *testing.T, cases []sumsCase) {
	t.Helper()
	for _, c := range cases {
		if got := impl.Tables(c.p, impl.ClMark); !sameLists(got, c.mark) {
			t.Errorf("%s: ClMark: %v, want %v", c.name, got, c.mark)
		}
		if got := impl.Tables(c.p, impl.ClUnset); !sameLists(got, c.unset) {
			t.Errorf("%s: ClUnset: %v, want %v", c.name, got, c.unset)
		}
		checkSummary(t, c.p)
	}
}

func same() []int64 { return []int64{1, 2, 4, 8, 16, 32, 64} }

// keptAlone is what a call does of which nothing comes back.
func keptAlone() []int64 { return []int64{1, 0, 0, 0, 16, 32, 64} }

// deeper1 hands what is known from variable 0 to 1 and from 1 to 2, once for each time that it calls itself.
func deeper1() impl.Program { return alone(jump(4), assign(2, 1), assign(1, 0), call(0), back()) }

// roundTwo are two that call one another, of which the first one may end.
func roundTwo() impl.Program {
	return program(proc(jump(3), assign(1, 0), call(1), back()), proc(assign(2, 1), call(0), back()))
}

// roundThree are three that call round and round, of which the second one may end.
func roundThree() impl.Program {
	return program(proc(call(1), assign(1, 0), back()), proc(jump(3), call(2), mark(0), back()), proc(wipe(2), call(0), back()))
}

// roundFour hands on by one variable each time round: what comes of it at last takes many rounds.
func roundFour() impl.Program {
	return program(proc(jump(5), assign(2, 1), assign(1, 0), mark(0), call(1), back()), calling(2), calling(3), calling(0))
}

// callsOn is a call of one that calls on.
func callsOn() impl.Program {
	return program(calling(1), proc(call(2), assign(2, 1), back()), proc(assign(1, 0), back()))
}

// largest has as many procedures and statements as there may be.
func largest() impl.Program {
	procs := []impl.Proc{}
	for i := range int64(4) {
		procs = append(procs, proc(jump(11), assign(5, 4), assign(4, 3), assign(3, 2), assign(2, 1), assign(1, 0), mark(0), call((i+1)%4), jump(0), call(i), jump(1), back()))
	}
	return program(procs...)
}

// allSorts are programs of every sort.
func allSorts() []impl.Program {
	return []impl.Program{
		alone(back()), program(carrying()), program(long(12), long(1), twoArms(), cutOff()), calls([]int64{0}), calls([]int64{1}, []int64{0}), calls(nil, nil, nil, nil),
		callAll(), twoRounds(), deeper1(), roundTwo(), roundThree(), roundFour(), callsOn(), largest(),
	}
}

func TestP10WithoutACall(t *testing.T) {
	checkSumsCases(t, []sumsCase{
		{"one statement", alone(back()), [][]int64{same()}, [][]int64{same()}},
		{"nothing done", program(long(12)), [][]int64{same()}, [][]int64{same()}},
		{"straight", alone(mark(0), assign(3, 0), wipe(0), both(4, 3), ask(3), back()), [][]int64{{49, 0, 4, 8, 0, 32, 64}}, [][]int64{{1, 0, 4, 8, 0, 32, 64}}},
		{"a branch", alone(jump(2), mark(1), back()), [][]int64{{5, 2, 4, 8, 16, 32, 64}}, [][]int64{same()}},
		{"a loop", program(carrying()), [][]int64{{15, 0, 8, 0, 16, 32, 64}}, [][]int64{{1, 0, 8, 0, 16, 32, 64}}},
		{"a StBack that no way comes to", alone(mark(0), back(), mark(1), back()), [][]int64{{3, 0, 4, 8, 16, 32, 64}}, [][]int64{{1, 0, 4, 8, 16, 32, 64}}},
		{"several StBacks", alone(jump(3), mark(0), back(), mark(1), back()), [][]int64{{7, 2, 4, 8, 16, 32, 64}}, [][]int64{same()}},
		{"several StBacks that all set", alone(jump(3), mark(0), back(), wipe(0), back()), [][]int64{{3, 0, 4, 8, 16, 32, 64}}, [][]int64{{1, 0, 4, 8, 16, 32, 64}}},
		{"a StBack at once, behind it others", alone(back(), wipe(0), back(), wipe(1), back()), [][]int64{same()}, [][]int64{same()}},
		{"each its own", program(proc(wipe(0), back()), proc(wipe(1), back()), proc(wipe(3), back()), proc(mark(5), back())),
			[][]int64{{1, 0, 4, 8, 16, 32, 64}, {1, 2, 0, 8, 16, 32, 64}, {1, 2, 4, 8, 0, 32, 64}, {65, 2, 4, 8, 16, 32, 0}},
			[][]int64{{1, 0, 4, 8, 16, 32, 64}, {1, 2, 0, 8, 16, 32, 64}, {1, 2, 4, 8, 0, 32, 64}, {1, 2, 4, 8, 16, 32, 0}}},
	})
}

func TestP10Calls(t *testing.T) {
	copies, shifts := []int64{1, 6, 0, 8, 16, 32, 64}, []int64{1, 6, 8, 0, 16, 32, 64}
	checkSumsCases(t, []sumsCase{
		{"does nothing", program(calling(1), long(1)), [][]int64{same(), same()}, [][]int64{same(), same()}},
		{"copies", program(calling(1), proc(assign(1, 0), back())), [][]int64{copies, copies}, [][]int64{copies, copies}},
		{"marks", program(calling(1), proc(mark(2), mark(3), back())), [][]int64{{9, 2, 4, 0, 16, 32, 64}, {25, 2, 4, 0, 0, 32, 64}}, [][]int64{{1, 2, 4, 0, 16, 32, 64}, {1, 2, 4, 0, 0, 32, 64}}},
		{"clears", program(calling(1), proc(wipe(0), wipe(4), back())), [][]int64{{1, 0, 4, 8, 16, 32, 64}, {1, 0, 4, 8, 16, 0, 64}}, [][]int64{{1, 0, 4, 8, 16, 32, 64}, {1, 0, 4, 8, 16, 0, 64}}},
		{"copies an own one out", program(calling(1), proc(assign(0, 3), back())), [][]int64{{1, 0, 4, 8, 16, 32, 64}, {1, 0, 4, 8, 18, 32, 64}}, [][]int64{{3, 0, 4, 8, 16, 32, 64}, {1, 0, 4, 8, 18, 32, 64}}},
		{"the caller's own stay", program(proc(mark(3), call(1), assign(0, 3), back()), proc(wipe(3), back())),
			[][]int64{{19, 0, 4, 8, 0, 32, 64}, {1, 2, 4, 8, 0, 32, 64}}, [][]int64{{1, 0, 4, 8, 0, 32, 64}, {1, 2, 4, 8, 0, 32, 64}}},
		{"twice", program(calling(1, 1), proc(assign(2, 1), assign(1, 0), back())), [][]int64{{1, 14, 0, 0, 16, 32, 64}, shifts}, [][]int64{{1, 14, 0, 0, 16, 32, 64}, shifts}},
		{"a way beside", program(proc(jump(2), call(1), back()), proc(mark(0), back())), [][]int64{{3, 2, 4, 8, 16, 32, 64}, {3, 0, 4, 8, 16, 32, 64}}, [][]int64{same(), {1, 0, 4, 8, 16, 32, 64}}},
		{"where no way comes", program(proc(back(), call(1), back()), proc(mark(0), back())), [][]int64{same(), {3, 0, 4, 8, 16, 32, 64}}, [][]int64{same(), {1, 0, 4, 8, 16, 32, 64}}},
		{"one that calls on", callsOn(), [][]int64{{1, 14, 0, 0, 16, 32, 64}, {1, 14, 0, 0, 16, 32, 64}, copies}, [][]int64{{1, 14, 0, 0, 16, 32, 64}, {1, 14, 0, 0, 16, 32, 64}, copies}},
		{"one that calls on, the last first", program(proc(assign(1, 0), back()), calling(0), calling(1), calling(2)), [][]int64{copies, copies, copies, copies}, [][]int64{copies, copies, copies, copies}},
		{"one that is ahead", program(proc(assign(1, 0), back()), calling(0)), [][]int64{copies, copies}, [][]int64{copies, copies}},
	})
}

func TestP10RoundAndRound(t *testing.T) {
	around := [][]int64{{1, 14, 4, 8, 16, 32, 64}, {1, 14, 12, 0, 16, 32, 64}}
	checkSumsCases(t, []sumsCase{
		{"itself, with a way that ends", deeper1(), [][]int64{{1, 14, 12, 8, 16, 32, 64}}, [][]int64{{1, 14, 12, 8, 16, 32, 64}}},
		{"itself, then a mark", alone(jump(3), call(0), mark(0), back()), [][]int64{{3, 2, 4, 8, 16, 32, 64}}, [][]int64{same()}},
		{"itself, without a way that ends", alone(call(0), back()), [][]int64{keptAlone()}, [][]int64{keptAlone()}},
		{"itself, behind a mark", alone(mark(0), call(0), mark(3), back()), [][]int64{{17, 0, 0, 0, 0, 32, 64}}, [][]int64{{1, 0, 0, 0, 0, 32, 64}}},
		{"itself, ahead of a mark", alone(call(0), mark(0), back()), [][]int64{{3, 0, 0, 0, 16, 32, 64}}, [][]int64{{1, 0, 0, 0, 16, 32, 64}}},
		{"itself, from outside", program(proc(wipe(1), call(1), back()), proc(jump(4), assign(2, 1), assign(1, 0), call(1), back())),
			[][]int64{{1, 14, 0, 8, 16, 32, 64}, {1, 14, 12, 8, 16, 32, 64}}, [][]int64{{1, 14, 0, 8, 16, 32, 64}, {1, 14, 12, 8, 16, 32, 64}}},
		{"two, with a way that ends", roundTwo(), around, around},
		{"two, without a way that ends", program(calling(1), calling(0)), [][]int64{keptAlone(), keptAlone()}, [][]int64{keptAlone(), keptAlone()}},
		{"three, with a way that ends", roundThree(), [][]int64{{7, 6, 0, 8, 16, 32, 64}, {7, 6, 4, 8, 16, 32, 64}, {7, 6, 0, 0, 16, 32, 64}}, [][]int64{{1, 6, 0, 8, 16, 32, 64}, {1, 6, 4, 8, 16, 32, 64}, {1, 6, 0, 0, 16, 32, 64}}},
		{"three, without a way that ends", program(calling(1), calling(2), calling(0)), [][]int64{keptAlone(), keptAlone(), keptAlone()}, [][]int64{keptAlone(), keptAlone(), keptAlone()}},
		{"four, slowly", roundFour(), slices.Repeat([][]int64{{15, 14, 12, 8, 16, 32, 64}}, 4), slices.Repeat([][]int64{{1, 14, 12, 8, 16, 32, 64}}, 4)},
		{"all that call all", callAll(), slices.Repeat([][]int64{keptAlone()}, 4), slices.Repeat([][]int64{keptAlone()}, 4)},
	})
	checkSummary(t, largest())
}

func TestP10InnerTold(t *testing.T) {
	none := allOf(0)
	for _, c := range []struct {
		p            impl.Program
		client, proc int64
		want         [][]int64
	}{
		{alone(back()), 1, 0, [][]int64{same()}},
		{alone(mark(0), assign(3, 0), wipe(0), back()), 1, 0, [][]int64{same(), {3, 0, 4, 8, 16, 32, 64}, {19, 0, 4, 8, 0, 32, 64}, {17, 0, 4, 8, 0, 32, 64}}},
		{alone(mark(0), assign(3, 0), wipe(0), back()), 2, 0, [][]int64{same(), {1, 0, 4, 8, 16, 32, 64}, {1, 0, 4, 8, 0, 32, 64}, {1, 0, 4, 8, 0, 32, 64}}},
		{program(cutOff()), 1, 0, [][]int64{same(), {3, 0, 4, 8, 16, 32, 64}, none, none, none}},
		{program(fromTheTop()), 1, 0, [][]int64{{7, 6, 4, 8, 16, 32, 64}, {7, 6, 0, 8, 16, 32, 64}, {7, 4, 0, 8, 16, 32, 64}, {7, 4, 0, 8, 16, 32, 64}}},
		{deeper1(), 2, 0, [][]int64{same(), same(), {1, 2, 12, 0, 16, 32, 64}, {1, 6, 8, 0, 16, 32, 64}, {1, 14, 12, 8, 16, 32, 64}}},
		{callsOn(), 1, 0, [][]int64{same(), {1, 14, 0, 0, 16, 32, 64}}},
		{callsOn(), 1, 1, [][]int64{same(), {1, 6, 0, 8, 16, 32, 64}, {1, 14, 0, 0, 16, 32, 64}}},
		{callsOn(), 2, 2, [][]int64{same(), {1, 6, 0, 8, 16, 32, 64}}},
		{calls([]int64{0, 0}), 1, 0, [][]int64{same(), keptAlone(), keptAlone()}},
	} {
		if got := impl.Inner(c.p, c.client, c.proc); !sameLists(got, c.want) {
			t.Errorf("%v, client %d: Inner of %d: %v, want %v", c.p, c.client, c.proc, got, c.want)
		}
	}
}

func TestP10EffectTold(t *testing.T) {
	p := program(proc(mark(0), mark(4), call(1), assign(2, 3), back()), proc(assign(1, 0), back()), calling(2))
	for _, c := range []struct {
		s           impl.Stmt
		mark, unset []int64
	}{
		{skip(), same(), same()}, {back(), same(), same()}, {ask(3), same(), same()}, {jump(11), same(), same()},
		{assign(0, 5), []int64{1, 0, 4, 8, 16, 32, 66}, []int64{1, 0, 4, 8, 16, 32, 66}}, {both(0, 5), []int64{1, 2, 4, 8, 16, 32, 66}, []int64{1, 2, 4, 8, 16, 32, 66}},
		{wipe(4), []int64{1, 2, 4, 8, 16, 0, 64}, []int64{1, 2, 4, 8, 16, 0, 64}}, {mark(4), []int64{33, 2, 4, 8, 16, 0, 64}, []int64{1, 2, 4, 8, 16, 0, 64}},
		{call(0), []int64{7, 0, 0, 0, 16, 32, 64}, []int64{9, 0, 0, 0, 16, 32, 64}}, {call(1), []int64{1, 6, 0, 8, 16, 32, 64}, []int64{1, 6, 0, 8, 16, 32, 64}}, {call(2), keptAlone(), keptAlone()},
		{call(3), nil, nil}, {call(4), nil, nil}, {call(-1), nil, nil}, {impl.Stmt{}, nil, nil}, {impl.Stmt{Kind: 10}, nil, nil}, {jump(12), nil, nil}, {mark(6), nil, nil},
	} {
		if mark, unset := impl.Effect(p, impl.ClMark, c.s), impl.Effect(p, impl.ClUnset, c.s); !slices.Equal(mark, c.mark) || !slices.Equal(unset, c.unset) {
			t.Errorf("%v: %v, %v, want %v, %v", c.s, mark, unset, c.mark, c.unset)
		}
	}
}

// Tables that Hold need not be Tables: what is called does more than it has to, and what calls it still does no more than is told.
func TestP10HoldsTold(t *testing.T) {
	self, pair := alone(call(0), back()), program(calling(1), proc(assign(1, 0), back()))
	copies := []int64{1, 6, 0, 8, 16, 32, 64}
	for _, c := range []struct {
		p      impl.Program
		tables [][]int64
		want   bool
	}{
		{self, [][]int64{keptAlone()}, true}, {self, [][]int64{same()}, true}, {self, [][]int64{allOf(127)}, true}, {self, [][]int64{allOf(0)}, false},
		{self, [][]int64{{1, 4, 0, 0, 16, 32, 64}}, true}, {self, [][]int64{{1, 16, 0, 0, 16, 32, 64}}, true}, {self, [][]int64{{15, 0, 0, 0, 16, 32, 64}}, true},
		{self, [][]int64{{0, 0, 0, 0, 16, 32, 64}}, false}, {self, [][]int64{{1, 0, 0, 0, 0, 32, 64}}, false}, {self, [][]int64{{126, 127, 127, 127, 127, 127, 127}}, false},
		{pair, [][]int64{copies, copies}, true}, {pair, [][]int64{{1, 14, 0, 8, 16, 32, 64}, copies}, true}, {pair, [][]int64{copies, {1, 14, 0, 8, 16, 32, 64}}, false},
		{pair, [][]int64{{1, 14, 0, 8, 16, 32, 64}, {1, 14, 0, 8, 16, 32, 64}}, true}, {pair, [][]int64{copies, {1, 22, 0, 8, 16, 32, 64}}, true},
		{pair, [][]int64{copies, {1, 2, 0, 8, 16, 32, 64}}, false}, {pair, [][]int64{{1, 2, 0, 8, 16, 32, 64}, {1, 2, 0, 8, 16, 32, 64}}, false},
		{deeper1(), [][]int64{{1, 14, 12, 8, 16, 32, 64}}, true}, {deeper1(), [][]int64{{1, 14, 14, 8, 16, 32, 64}}, true}, {deeper1(), [][]int64{{1, 14, 12, 10, 16, 32, 64}}, false},
		{deeper1(), [][]int64{{5, 14, 12, 8, 16, 32, 64}}, true}, {deeper1(), [][]int64{{1, 14, 14, 10, 16, 32, 64}}, true},
	} {
		checkHolds(t, c.p, impl.ClMark, c.tables, c.want)
		if isHeld(c.p, impl.ClMark, c.tables) != c.want {
			t.Errorf("%v: the tests' own word on %v is wrong", c.p, c.tables)
		}
	}
}

func TestP10EverySmallProgram(t *testing.T) {
	stmts := []impl.Stmt{mark(0), assign(1, 0), assign(0, 3), wipe(0), jump(0), jump(2), call(0), call(1), back()}
	twoProcs(stmts, func(p impl.Program) {
		for _, client := range bothClients {
			checkSums(t, p, client)
			checkRules(t, p, client)
		}
	})
	some := []impl.Stmt{mark(0), assign(0, 3), jump(2), call(0), call(1)}
	twoProcs(some, func(p impl.Program) {
		for _, client := range bothClients {
			checkNothingLess(t, p, client)
		}
	})
}

// Every way in which up to three procedures call one another, each with a way beside its calls, and each marking one of its own.
func TestP10EveryoneCallsWhomever(t *testing.T) {
	for n := 1; n <= 3; n++ {
		callingPrograms(n, func(p impl.Program) {
			for i := range p.Procs {
				last := int64(len(p.Procs[i].Stmts)) + 1
				p.Procs[i].Stmts = append([]impl.Stmt{mark(int64(i)), jump(last)}, p.Procs[i].Stmts...)
			}
			for _, client := range bothClients {
				checkSums(t, p, client)
				checkRules(t, p, client)
				checkNothingLess(t, p, client)
			}
		})
	}
}

func TestP10ManyPrograms(t *testing.T) {
	d := draws(10)
	for range 1000 {
		for _, p := range []impl.Program{d.program(), d.spinning(), d.onward()} {
			for _, client := range bothClients {
				checkSums(t, p, client)
				checkRules(t, p, client)
			}
		}
	}
	for range 25 {
		checkSummary(t, d.program())
		checkSummary(t, d.spinning())
	}
}

// Where every run ends, a table makes of a set what all runs together make of it, and no more.
func TestP10AllRunsTogether(t *testing.T) {
	d := draws(101)
	for range 3000 {
		p, client := d.onward(), int64(1+d.below(2))
		for i, table := range impl.Tables(p, client) {
			for _, set := range []int64{0, 1, 2, 4, 8, 16, 32, 64, 127, int64(d.below(allSets)), int64(d.below(allSets))} {
				var all known
				runs(p, client, impl.Place{Proc: int64(i)}, knownOf(set), func(impl.Place, known) {}, func(end known) { all = all.with(end) })
				if got := impl.Image(table, set); got != all.set() {
					t.Fatalf("%v, client %d: of %d %v makes %d of %d, all runs %d", p, client, i, table, got, set, all.set())
				}
			}
		}
	}
}

// Whatever holds along a run, ahead of a statement or at its end, is told, however deep it calls itself.
func TestP10WhatHoldsAlongARunIsTold(t *testing.T) {
	d := draws(102)
	ended := 0
	for range 6000 {
		p, client, set := d.spinning(), int64(1+d.below(2)), int64(d.below(allSets))
		i, left := int64(d.below(len(p.Procs))), 300
		inner, table := impl.Inner(p, client, i), impl.Tables(p, client)[i]
		end, back := d.run(p, client, i, knownOf(set), &left, func(at int64, k known) {
			if told := knownOf(impl.Image(inner[at], set)); told.with(k) != told {
				t.Fatalf("%v, client %d: %d becomes %d ahead of %d of %d, Inner %v", p, client, set, k.set(), at, i, inner)
			}
		})
		if told := knownOf(impl.Image(table, set)); back && told.with(end) != told {
			t.Fatalf("%v, client %d: %d becomes %d at the end of %d, table %v", p, client, set, end.set(), i, table)
		}
		if back {
			ended++
		}
	}
	if ended < 1500 {
		t.Error("only", ended, "runs ended")
	}
}

// Whatever Holds has all that Tables have; what is drawn Holds just where the tests' own word is.
func TestP10WhatHolds(t *testing.T) {
	d := draws(103)
	holds := 0
	for range 2000 {
		p, client := d.spinning(), int64(1+d.below(2))
		tables := make([][]int64, len(p.Procs))
		for i := range tables {
			tables[i] = allOf(0)
			for range d.below(4) {
				tables[i][d.below(7)] |= int64(d.below(allSets))
			}
		}
		if d.below(4) > 0 {
			tables = heldFrom(p, client, tables)
		}
		if d.below(4) == 0 {
			i, fact := d.below(len(tables)), d.below(7)
			tables = replaced(tables, i, changed(tables[i], fact, int64(d.below(allSets))))
		}
		checkHolds(t, p, client, tables, isHeld(p, client, tables))
		if !impl.Holds(p, client, tables) {
			continue
		}
		holds++
		for i, least := range impl.Tables(p, client) {
			if !impl.Within(least, tables[i]) {
				t.Fatalf("%v, client %d: %v Holds, but the table of %d is %v", p, client, tables, i, least)
			}
		}
	}
	if holds < 500 || holds > 1700 {
		t.Error(holds, "of 2000 Hold")
	}
}

func TestP10EdgesOfHowManyProcs(t *testing.T) {
	howManyProcs(func(p impl.Program, is bool) {
		if is {
			checkSummary(t, p)
		} else {
			checkNoSumsOfBoth(t, "too few or too many", p)
		}
	})
}

func TestP10EdgesOfHowManyStmts(t *testing.T) {
	howManyStmts(func(p impl.Program, is bool) {
		if !is {
			checkNoSumsOfBoth(t, "too few or too many", p)
			return
		}
		for _, client := range bothClients {
			checkSums(t, p, client)
			checkRules(t, p, client)
		}
	})
}

func TestP10EdgesOfTheClient(t *testing.T) {
	for _, client := range nearAndFar(-3, 12) {
		for _, p := range allSorts() {
			if client != 1 && client != 2 {
				checkNoSums(t, "no client", p, client)
				checkHolds(t, p, client, impl.Tables(p, impl.ClMark), false)
				continue
			}
			checkSums(t, p, client)
			checkHolds(t, p, client, impl.Tables(p, client), true)
		}
	}
}

func TestP10EdgesOfTheProc(t *testing.T) {
	for n := 1; n <= 4; n++ {
		last := int64(n) - 1
		p := program(slices.Repeat([]impl.Proc{calling(0, last)}, n)...)
		for _, client := range bothClients {
			for _, i := range []int64{0, last} {
				if got := impl.Inner(p, client, i); !sameLists(got, [][]int64{same(), keptAlone(), keptAlone()}) {
					t.Errorf("%v, client %d: Inner of %d: %v", p, client, i, got)
				}
			}
			for _, i := range append([]int64{-4, -2, -1, last + 1, last + 2, 4, 5, 12}, farNumbers...) {
				if got := impl.Inner(p, client, i); len(got) != 0 {
					t.Errorf("%v, client %d: Inner of %d: %v", p, client, i, got)
				}
			}
		}
	}
}

// A call of each number, within a program of each size and asked of it.
func TestP10EdgesOfTheCalled(t *testing.T) {
	for n := 1; n <= 4; n++ {
		procs := slices.Repeat([]impl.Proc{proc(mark(0), back())}, n)
		for _, y := range nearAndFar(-2, 6) {
			is := y >= 0 && y < int64(n)
			if got := impl.Effect(program(procs...), impl.ClMark, call(y)); is != slices.Equal(got, []int64{3, 0, 4, 8, 16, 32, 64}) || !is && len(got) != 0 {
				t.Errorf("%d procedures: Effect of a call of %d: %v", n, y, got)
			}
			for at := range n {
				p := program(slices.Clone(procs)...)
				p.Procs[at] = calling(y)
				if is {
					checkSummary(t, p)
				} else {
					checkNoSumsOfBoth(t, "no such procedure", p)
				}
			}
		}
	}
}

// Every Kind, X and Y, right or not.
func TestP10EdgesOfTheStatement(t *testing.T) {
	p := program(calling(1), proc(mark(0), back()))
	for _, kind := range nearAndFar(-3, 14) {
		roomX, roomY := rooms(kind)
		if kind == impl.StCall {
			roomY = 2
		}
		for _, x := range nearAndFar(-2, 13) {
			for _, y := range nearAndFar(-2, 13) {
				s := impl.Stmt{Kind: kind, X: x, Y: y}
				is := x >= 0 && x < roomX && y >= 0 && y < roomY
				for _, client := range bothClients {
					if got := impl.Effect(p, client, s); (len(got) == 7) != is || !is && len(got) != 0 {
						t.Fatalf("client %d: Effect of %v: %v", client, s, got)
					}
				}
			}
		}
	}
}

func TestP10EdgesOfHowManyTables(t *testing.T) {
	for n := 1; n <= 4; n++ {
		p := program(slices.Repeat([]impl.Proc{calling(0)}, n)...)
		for _, client := range bothClients {
			tables := impl.Tables(p, client)
			for _, size := range []int{0, 1, 2, 3, 4, 5, n - 1, n, n + 1, 1 << 16} {
				checkHolds(t, p, client, slices.Repeat([][]int64{allOf(127)}, size), size == n)
				checkHolds(t, p, client, slices.Repeat([][]int64{keptAlone()}, size), size == n)
			}
			checkHolds(t, p, client, tables, true)
			checkHolds(t, p, client, tables[:n-1], false)
			checkHolds(t, p, client, append(tables, allOf(0)), false)
			checkHolds(t, p, client, nil, false)
		}
	}
}

func TestP10EdgesOfTheTables(t *testing.T) {
	for _, p := range []impl.Program{alone(back()), calls([]int64{0}), callAll(), callsOn()} {
		whole := slices.Repeat([][]int64{allOf(127)}, len(p.Procs))
		for _, client := range bothClients {
			for i := range whole {
				for _, wrong := range wrongRelations() {
					checkHolds(t, p, client, replaced(whole, i, wrong), false)
					checkHolds(t, p, client, replaced(impl.Tables(p, client), i, wrong), false)
				}
				for size := range 10 {
					checkHolds(t, p, client, replaced(whole, i, slices.Repeat([]int64{127}, size)), size == 7)
				}
				for fact := range 7 {
					for _, set := range nearAndFar(-2, 130) {
						tables := replaced(whole, i, changed(allOf(127), fact, set))
						checkHolds(t, p, client, tables, set >= 0 && set <= 127 && isHeld(p, client, tables))
					}
				}
			}
		}
	}
}

func TestP10OneWrongProc(t *testing.T) {
	oneWrongProc(func(p impl.Program) { checkNoSumsOfBoth(t, "one wrong procedure", p) })
}

func TestP10WrongInOneField(t *testing.T) {
	checkSummary(t, callers())
	inOneField(t, func(p impl.Program, is bool) {
		for _, client := range bothClients {
			if is {
				checkSums(t, p, client)
			} else {
				checkNoSums(t, "one wrong field", p, client)
			}
		}
	})
}

// The spare room behind procedures, statements, tables and their sets is no part of them.
func TestP10TheRoomBehindIsNoPart(t *testing.T) {
	for _, p := range allSorts() {
		for _, client := range bothClients {
			checkSums(t, roomy(p), client)
			tables := roomyTables(impl.Tables(p, client))
			checkHolds(t, roomy(p), client, tables, true)
			for i, table := range tables {
				checkHolds(t, p, client, replaced(tables, i, table[:6]), false)
				checkHolds(t, p, client, replaced(tables, i, table[:8]), false)
			}
			checkHolds(t, p, client, tables[:len(tables)+1], false)
		}
	}
}

// sumsAnswers are the lists that the chapter tells, each asked for twice, and what holds them.
func sumsAnswers(p impl.Program, client int64) (lists [][]int64, holders [][][]int64) {
	for range 2 {
		holders = append(holders, impl.Tables(p, client))
		for i := range p.Procs {
			holders = append(holders, impl.Inner(p, client, int64(i)))
			lists = append(lists, impl.Effect(p, client, call(int64(i))))
		}
		lists = append(lists, impl.Effect(p, client, skip()), impl.Effect(p, client, mark(3)), impl.Unit(), impl.Keep())
	}
	return append(lists, slices.Concat(holders...)...), holders
}

func TestP21SummaryAnswersAreNewMemory(t *testing.T) {
	for _, p := range allSorts() {
		for _, client := range bothClients {
			checkNewMemory(t, fmt.Sprint(p, client), func() ([][]int64, [][][]int64) { return sumsAnswers(p, client) })
		}
	}
}

// askSummary calls each function of the chapter twice, and writes over what it answers.
func askSummary(p impl.Program, client, n int64, tables [][]int64) {
	for range 2 {
		spoilLists(impl.Tables(p, client))
		spoilLists(impl.Inner(p, client, n))
		for _, s := range []impl.Stmt{call(n), jump(n), mark(n), assign(n, n), {Kind: n}, skip()} {
			spoilNumbers(impl.Effect(p, client, s))
		}
		impl.Holds(p, client, tables)
	}
}

func TestP21SummaryArgumentsStay(t *testing.T) {
	programs := append(allSorts(), impl.Program{}, program(slices.Repeat([]impl.Proc{calling(0)}, 5)...), program(calling(1), long(1), calling(3)))
	for _, wrong := range wrongProcs() {
		programs = append(programs, program(calling(1), wrong), program(wrong, calling(0)))
	}
	for _, p := range programs {
		for _, client := range []int64{-1, 0, 1, 2, 3, math.MinInt64, math.MaxInt64} {
			all := slices.Repeat([][]int64{allOf(127)}, len(p.Procs))
			for _, tables := range [][][]int64{nil, all, slices.Repeat([][]int64{allOf(0)}, len(p.Procs)), append(all, allOf(1)), slices.Repeat([][]int64{{1, 2}}, len(p.Procs)), impl.Tables(p, client)} {
				for _, n := range []int64{-1, 0, 1, 3, 4, math.MinInt64, math.MaxInt64} {
					tablesStayWhile(t, tables, func(tables [][]int64) {
						staysWhile(t, "summary", p, func(p impl.Program) { askSummary(p, client, n, tables) })
					})
				}
			}
		}
	}
}

func TestP21EndsOfInt64Summary(t *testing.T) {
	for _, end := range []int64{math.MinInt64, math.MaxInt64} {
		for _, p := range allSorts() {
			checkNoSums(t, "an end", p, end)
			for _, client := range append([]int64{end}, bothClients...) {
				if got := impl.Inner(p, client, end); len(got) != 0 {
					t.Errorf("%v, client %d: Inner of %d: %v", p, client, end, got)
				}
				checkHolds(t, p, client, slices.Repeat([][]int64{allOf(end)}, len(p.Procs)), false)
				for _, s := range []impl.Stmt{call(end), jump(end), mark(end), assign(end, 0), assign(0, end), {Kind: end}, {Kind: end, X: end, Y: end}, {Kind: impl.StCall, X: end}, {Kind: impl.StSkip, X: end}, {Kind: impl.StBack, Y: end}} {
					if got := impl.Effect(p, client, s); len(got) != 0 {
						t.Errorf("%v, client %d: Effect of %v: %v", p, client, s, got)
					}
				}
			}
		}
		for _, s := range []impl.Stmt{call(end), jump(end), mark(end), assign(0, end), {Kind: end}, {Kind: end, X: end, Y: end}, {Kind: impl.StCall, X: end}} {
			checkNoSumsOfBoth(t, "an end", program(proc(s, back())))
			checkNoSumsOfBoth(t, "an end", program(calling(1), calling(2), calling(3), proc(call(0), s, back())))
		}
	}
}

func TestP21GreatSummary(t *testing.T) {
	great := long(1 << 20)
	checkNoSumsOfBoth(t, "a great procedure", program(calling(1), great))
	checkNoSumsOfBoth(t, "many procedures", program(slices.Repeat([]impl.Proc{calling(0)}, 1<<20)...))
	p := callsOn()
	checkHolds(t, p, impl.ClMark, slices.Repeat([][]int64{allOf(127)}, 1<<20), false)
	checkHolds(t, p, impl.ClMark, slices.Repeat([][]int64{make([]int64, 1<<20)}, 3), false)
}
