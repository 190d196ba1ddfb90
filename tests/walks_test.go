package tests

import (
	"fmt"
	"math"
	"slices"
	"testing"

	"loop.example/g00291/impl"
)

// walkCase tells what is open at the end of a walk and what comes behind it, and what holds ahead of each of its Places.
type walkCase struct {
	name        string
	p           impl.Program
	walk        []impl.Place
	open, steps []impl.Place
	mark, unset []int64
}

func checkWalkCases(t *testing.T, cases []walkCase) {
	t.Helper()
	for _, c := range cases {
		if got := impl.Open(c.p, c.walk); !slices.Equal(got, c.open) {
			t.Errorf("%s: Open %v, want %v", c.name, got, c.open)
		}
		if got := impl.Steps(c.p, c.walk); !slices.Equal(got, c.steps) {
			t.Errorf("%s: Steps %v, want %v", c.name, got, c.steps)
		}
		for n := 1; n <= len(c.walk); n++ {
			if !impl.WalkOk(c.p, c.walk[:n]) {
				t.Errorf("%s: the first %d of it are no walk", c.name, n)
			}
			if mark, unset := impl.Holding(c.p, impl.ClMark, c.walk[:n]), impl.Holding(c.p, impl.ClUnset, c.walk[:n]); mark != c.mark[n-1] || unset != c.unset[n-1] {
				t.Errorf("%s: %v: Holding %d, %d, want %d, %d", c.name, c.walk[:n], mark, unset, c.mark[n-1], c.unset[n-1])
			}
		}
		g := groundOf(c.p)
		g.checkPrefixes(t, c.walk)
		for n := 1; n <= len(c.walk); n++ {
			g.checkBehind(t, c.walk[:n])
		}
	}
}

// keeping marks one of its own variables ahead of a call of one that marks another of its own.
func keeping() impl.Program {
	return program(proc(mark(3), call(1), ask(3), back()), proc(ask(3), mark(4), back()))
}

// levels marks variable 3 or 4 of its own, and calls itself or not.
func levels() impl.Program {
	return alone(jump(3), mark(3), jump(4), mark(4), jump(6), call(0), back())
}

// handingOn calls itself and hands a mark on by one variable each time.
func handingOn() impl.Program {
	return program(proc(mark(0), call(1), ask(2), back()), proc(jump(4), assign(2, 1), assign(1, 0), call(1), ask(2), back()))
}

func TestP12WithinOneProcedure(t *testing.T) {
	writing, falling, turning := alone(mark(0), assign(1, 0), both(2, 1), wipe(0), back()), alone(jump(3), mark(0), ask(0), back()), alone(assign(1, 0), mark(0), jump(0), back())
	checkWalkCases(t, []walkCase{
		{"one Place", writing, in(0, 0), nil, in(0, 1), []int64{1}, []int64{127}},
		{"falling through", writing, in(0, 0, 1, 2, 3), nil, in(0, 4), []int64{1, 3, 7, 15}, []int64{127, 125, 121, 121}},
		{"a StBack where none is open", writing, in(0, 0, 1, 2, 3, 4), nil, nil, []int64{1, 3, 7, 15, 13}, []int64{127, 125, 121, 121, 121}},
		{"a StBack alone", alone(back()), in(0, 0), nil, nil, []int64{1}, []int64{127}},
		{"a StBack in the middle", program(cutOff()), in(0, 0, 1), nil, nil, []int64{1, 3}, []int64{127, 125}},
		{"ahead of a jump", falling, in(0, 0), nil, in(0, 1, 3), []int64{1}, []int64{127}},
		{"a jump", falling, in(0, 0, 3), nil, nil, []int64{1, 1}, []int64{127, 127}},
		{"a jump that falls through", falling, in(0, 0, 1, 2, 3), nil, nil, []int64{1, 1, 3, 3}, []int64{127, 127, 125, 125}},
		{"a jump back", turning, in(0, 0, 1, 2), nil, in(0, 0, 3), []int64{1, 1, 3}, []int64{127, 127, 125}},
		{"round and round", turning, in(0, 0, 1, 2, 0, 1, 2, 3), nil, nil, []int64{1, 1, 3, 3, 7, 7, 7}, []int64{127, 127, 125, 125, 121, 121, 121}},
		{"a jump to the next one", alone(jump(1), back()), in(0, 0), nil, in(0, 1), []int64{1}, []int64{127}},
		{"a jump to itself", alone(jump(0), back()), in(0, 0, 0, 0), nil, in(0, 0, 1), []int64{1, 1, 1}, []int64{127, 127, 127}},
	})
}

func TestP12IntoACallAndBack(t *testing.T) {
	p := program(proc(mark(0), mark(4), call(1), ask(1), ask(4), back()), proc(ask(4), assign(1, 0), back()))
	inside := along(in(0, 0, 1, 2), in(1, 0, 1, 2))
	checkWalkCases(t, []walkCase{
		{"ahead of a call", p, in(0, 0, 1, 2), nil, in(1, 0), []int64{1, 3, 35}, []int64{127, 125, 93}},
		{"into a call", p, along(in(0, 0, 1, 2), in(1, 0)), in(0, 2), in(1, 1), []int64{1, 3, 35, 3}, []int64{127, 125, 93, 125}},
		{"ahead of the way back", p, inside, in(0, 2), in(0, 3), []int64{1, 3, 35, 3, 3, 7}, []int64{127, 125, 93, 125, 125, 121}},
		{"back out behind it", p, along(inside, in(0, 3)), nil, in(0, 4), []int64{1, 3, 35, 3, 3, 7, 39}, []int64{127, 125, 93, 125, 125, 121, 89}},
		{"to the end", p, along(inside, in(0, 3, 4, 5)), nil, nil, []int64{1, 3, 35, 3, 3, 7, 39, 39, 39}, []int64{127, 125, 93, 125, 125, 121, 89, 89, 89}},
		{"what is one's own stays", keeping(), along(in(0, 0, 1), in(1, 0, 1, 2), in(0, 2, 3)), nil, nil, []int64{1, 17, 1, 1, 33, 17, 17}, []int64{127, 111, 127, 127, 95, 111, 111}},
		{"a call ahead of the last", calls([]int64{1}, nil), along(in(0, 0), in(1, 0), in(0, 1)), nil, nil, []int64{1, 1, 1}, []int64{127, 127, 127}},
		{"back from the middle", program(proc(call(1), ask(0), back()), cutOff()), along(in(0, 0), in(1, 0, 1), in(0, 1, 2)), nil, nil, []int64{1, 1, 3, 3, 3}, []int64{127, 127, 125, 125, 125}},
	})
}

func TestP12CallsWithinCalls(t *testing.T) {
	deep := along(in(0, 0, 1, 2), in(1, 0, 1, 2), in(2, 0, 1, 2, 3))
	two := along(in(0, 0, 1), in(1, 0, 1, 2), in(0, 2, 3, 4), in(1, 0, 1, 2))
	checkWalkCases(t, []walkCase{
		{"two open", chain(), deep, along(in(0, 2), in(1, 2)), in(1, 3), []int64{1, 3, 19, 3, 7, 39, 7, 15, 15, 15}, []int64{127, 125, 109, 125, 121, 89, 121, 113, 113, 113}},
		{"one came back", chain(), along(deep, in(1, 3, 4, 5)), in(0, 2), in(0, 3), []int64{1, 3, 19, 3, 7, 39, 7, 15, 15, 15, 47, 47, 47}, []int64{127, 125, 109, 125, 121, 89, 121, 113, 113, 113, 81, 81, 81}},
		{"both came back", chain(), along(deep, in(1, 3, 4, 5), in(0, 3, 4, 5)), nil, nil, []int64{1, 3, 19, 3, 7, 39, 7, 15, 15, 15, 47, 47, 47, 31, 31, 31}, []int64{127, 125, 109, 125, 121, 89, 121, 113, 113, 113, 81, 81, 81, 97, 97, 97}},
		{"from the first place", fromTwo(), two[:5], in(0, 1), in(0, 2), []int64{1, 3, 3, 7, 7}, []int64{127, 125, 125, 121, 121}},
		{"from the second place", fromTwo(), two, in(0, 4), in(0, 5), []int64{1, 3, 3, 7, 7, 7, 5, 13, 13, 9, 9}, []int64{127, 125, 125, 121, 121, 121, 121, 113, 113, 113, 113}},
		{"each to its own", fromTwo(), along(two, in(0, 5, 6)), nil, nil, []int64{1, 3, 3, 7, 7, 7, 5, 13, 13, 9, 9, 9, 9}, []int64{127, 125, 125, 121, 121, 121, 121, 113, 113, 113, 113, 113, 113}},
		{"of oneself", handingOn(), along(in(0, 0, 1), in(1, 0, 1, 2, 3, 0, 1, 2, 3, 0)), along(in(0, 1), in(1, 3, 3)), in(1, 1, 4), []int64{1, 3, 3, 3, 3, 7, 7, 7, 15, 15, 15}, []int64{127, 125, 125, 125, 125, 121, 121, 121, 113, 113, 113}},
		{"of oneself, and back", handingOn(), along(in(0, 0, 1), in(1, 0, 1, 2, 3, 0, 1, 2, 3, 0, 4, 5, 4, 5, 4, 5), in(0, 2, 3)), nil, nil,
			[]int64{1, 3, 3, 3, 3, 7, 7, 7, 15, 15, 15, 15, 15, 15, 15, 15, 15, 15, 15}, []int64{127, 125, 125, 125, 125, 121, 121, 121, 113, 113, 113, 113, 113, 113, 113, 113, 113, 113, 113}},
		{"each its own", levels(), in(0, 0, 1, 2, 4, 5, 0, 3, 4, 5, 0, 1, 2, 4, 6, 6, 6), nil, nil,
			[]int64{1, 1, 17, 17, 17, 1, 1, 33, 33, 1, 1, 17, 17, 17, 33, 17}, []int64{127, 127, 111, 111, 111, 127, 127, 95, 95, 127, 127, 111, 111, 111, 95, 111}},
		{"without a way back", program(calling(1), calling(0)), along(in(0, 0), in(1, 0), in(0, 0), in(1, 0)), along(in(0, 0), in(1, 0), in(0, 0)), in(0, 0), []int64{1, 1, 1, 1}, []int64{127, 127, 127, 127}},
	})
}

func TestP12NoWalks(t *testing.T) {
	two := along(in(0, 0, 1), in(1, 0, 1, 2), in(0, 2, 3, 4), in(1, 0, 1, 2))
	deep := along(in(0, 0, 1, 2), in(1, 0, 1, 2), in(2, 0, 1, 2, 3))
	for _, c := range []struct {
		name string
		p    impl.Program
		walk []impl.Place
	}{
		{"nothing", chain(), nil},
		{"a statement left out", chain(), in(0, 0, 2)},
		{"a statement twice", chain(), in(0, 0, 0)},
		{"backwards", chain(), in(0, 0, 1, 0)},
		{"into another without a call", chain(), along(in(0, 0), in(1, 1))},
		{"past a call", chain(), in(0, 0, 1, 2, 3)},
		{"a call twice", chain(), in(0, 0, 1, 2, 2)},
		{"into another than is called", chain(), along(in(0, 0, 1, 2), in(2, 0))},
		{"into the middle of what is called", chain(), along(in(0, 0, 1, 2), in(1, 1))},
		{"back to the call", chain(), along(deep, in(1, 2))},
		{"back too far behind the call", chain(), along(deep, in(1, 4))},
		{"back to who called first", chain(), along(deep, in(0, 3))},
		{"falling through a StBack", program(proc(call(1), back()), cutOff()), along(in(0, 0), in(1, 0, 1, 2))},
		{"back to the place of the one ahead", fromTwo(), along(two, in(0, 2))},
		{"back to the place of the one behind", fromTwo(), along(two[:5], in(0, 5))},
		{"behind the end", fromTwo(), along(two, in(0, 5, 6), in(0, 5))},
		{"behind the end, to the beginning", fromTwo(), along(two, in(0, 5, 6), in(0, 0))},
		{"behind the end, once more", fromTwo(), along(two, in(0, 5, 6), in(0, 6))},
		{"a jump to neither", alone(jump(2), skip(), skip(), back()), in(0, 0, 3)},
		{"from oneself, back too often", levels(), in(0, 0, 1, 2, 4, 5, 0, 3, 4, 6, 6, 6)},
	} {
		if isWalk(c.p, c.walk) {
			t.Errorf("%s: the tests' own word is wrong", c.name)
		}
		checkNoWalk(t, c.name, c.p, c.walk)
		for n := 1; n < len(c.walk); n++ {
			groundOf(c.p).checkWalk(t, c.walk[:n])
		}
	}
}

// Each rule, at the first, at a middle and at the last step, is broken by each wrong Place; all other steps are right.
func TestP12EachRuleBroken(t *testing.T) {
	broken := map[string]int{}
	for _, first := range []impl.Stmt{skip(), jump(2), call(1), back()} {
		p := program(proc(first, jump(3), ask(0), call(1), mark(3), call(2), back()), proc(skip(), call(2), back()), proc(jump(2), ask(0), back()))
		g := groundOf(p)
		for _, walk := range [][]impl.Place{goingOn(p, nil, impl.Place{}, 100), goingOn(p, in(0, 0), impl.Place{At: 1}, 100)} {
			for i := 1; i <= len(walk) && isWalk(p, walk[:i]); i++ {
				g.checkWalk(t, walk[:i])
				for _, wrong := range wrongPlaces(p, walk[:i]) {
					for _, most := range []int{i + 1, i + 2, i + 5, 100} {
						spoilt := goingOn(p, walk[:i], wrong, most)
						checkNoWalk(t, "one wrong step", p, spoilt)
						broken[fmt.Sprint(stmtOf(p, walk[i-1]).Kind, i == 1, len(spoilt) == i+1)]++
					}
				}
			}
		}
	}
	for _, kind := range []int64{impl.StSkip, impl.StJump, impl.StCall, impl.StBack} {
		for _, one := range []string{fmt.Sprint(kind, true, false), fmt.Sprint(kind, false, false), fmt.Sprint(kind, false, true)} {
			if broken[one] < 20 {
				t.Errorf("%s: only %d", one, broken[one])
			}
		}
	}
}

// wrongPlaces are those that do not come behind a walk, of the program and one beyond its edges.
func wrongPlaces(p impl.Program, walk []impl.Place) []impl.Place {
	var list []impl.Place
	for i := int64(-1); i <= int64(len(p.Procs)); i++ {
		for at := int64(-1); at <= 12; at++ {
			if next := (impl.Place{Proc: i, At: at}); !comesBehind(p, walk, next) {
				list = append(list, next)
			}
		}
	}
	return list
}

func TestP12EverySmallProgram(t *testing.T) {
	stmts := []impl.Stmt{mark(0), assign(1, 0), assign(0, 3), mark(3), jump(0), jump(2), call(0), call(1), back()}
	twoProcs(stmts, func(p impl.Program) {
		g := groundOf(p)
		walksFrom(p, in(0, 0), 7, func(walk []impl.Place) { g.checkWalk(t, walk) })
	})
}

func TestP12ManyWalks(t *testing.T) {
	d := draws(12)
	sizes, deepest := map[bool]int{}, 0
	for range 200 {
		for _, p := range []impl.Program{d.program(), d.spinning(), d.onward(), d.testing(d.spinning())} {
			g, walk := groundOf(p), d.wanderer(p, 100)
			g.checkPrefixes(t, walk)
			sizes[len(walk) == 100]++
			deepest = max(deepest, len(impl.Open(p, walk)))
			some := walk[:1+d.below(len(walk))]
			if len(some) < 100 {
				g.checkBehind(t, some)
			}
			for range 20 {
				g.check(t, d.altered(walk))
			}
		}
	}
	if sizes[true] < 120 || sizes[false] < 120 || deepest < 60 {
		t.Errorf("%d walks of 100, %d shorter ones, at most %d open", sizes[true], sizes[false], deepest)
	}
}

// altered draws a walk, or none, that is this one but for one Place.
func (d *draws) altered(walk []impl.Place) []impl.Place {
	walk, i := slices.Clone(walk), d.below(len(walk))
	switch d.below(6) {
	case 0:
		walk[i].At += int64(d.below(5) - 2)
	case 1:
		walk[i].Proc += int64(d.below(3) - 1)
	case 2:
		walk[i] = walk[d.below(len(walk))]
	case 3:
		walk = slices.Delete(walk, i, i+1)
	case 4:
		walk = slices.Insert(walk, i, walk[i])
	default:
		walk = walk[:i+1]
		walk[i] = impl.Place{Proc: int64(d.below(5) - 1), At: int64(d.below(14) - 1)}
	}
	return walk
}

// What the tests' own walks hold, place by place.
func TestP12HoldingAlongADrawnWalk(t *testing.T) {
	d := draws(120)
	for range 1000 {
		p, client := d.spinning(), int64(1+d.below(2))
		var walk []impl.Place
		d.walk(p, client, 100, func(here impl.Place, k known) {
			walk = append(walk, here)
			if got := impl.Holding(p, client, walk); got != k.set() {
				t.Fatalf("%v, client %d, %v: Holding %d, want %d", p, client, walk, got, k.set())
			}
		})
	}
}

// Where every walk ends, what holds along all walks together is Facts, and no more.
func TestP12AllWalksTogether(t *testing.T) {
	d := draws(121)
	asked := 0
	for asked < 300 {
		p, client := d.onward(), int64(1+d.below(2))
		all, left := &places{}, 3000
		var goOn func(walk []impl.Place)
		goOn = func(walk []impl.Place) {
			left--
			if left < 0 || len(walk) == 100 {
				left = -1
				return
			}
			last := walk[len(walk)-1]
			ahead := &all.ahead[last.Proc][last.At]
			*ahead = ahead.with(knownOf(impl.Holding(p, client, walk)))
			for _, next := range impl.Steps(p, walk) {
				goOn(append(walk, next))
			}
		}
		goOn(in(0, 0))
		if left < 0 {
			continue
		}
		asked++
		if got, want := all.facts(p), impl.Facts(p, client); !sameLists(got, want) {
			t.Fatalf("%v, client %d: along all walks %v, Facts %v", p, client, got, want)
		}
	}
}

// spin is a walk of n Places of which these come over and over again.
func spin(n int, round ...impl.Place) []impl.Place {
	return slices.Repeat(round, n/len(round)+1)[:n]
}

func TestP12EdgesOfHowManyPlaces(t *testing.T) {
	one, other := impl.Place{}, impl.Place{Proc: 1}
	for _, c := range []struct {
		p     impl.Program
		round []impl.Place
		open  func(n int) int
	}{
		{alone(skip(), jump(0), back()), in(0, 0, 1), func(int) int { return 0 }},
		{alone(jump(0), back()), in(0, 0), func(int) int { return 0 }},
		{program(calling(0)), in(0, 0), func(n int) int { return n - 1 }},
		{program(calling(1), calling(0)), []impl.Place{one, other}, func(n int) int { return n - 1 }},
		{program(calling(0), calling(0), calling(0), calling(0)), in(0, 0), func(n int) int { return n - 1 }},
		{alone(skip(), call(0), back()), in(0, 0, 1), func(n int) int { return (n - 1) / 2 }},
		{program(proc(call(1), jump(0), back()), proc(back())), along(in(0, 0), in(1, 0), in(0, 1)), func(n int) int { return map[bool]int{true: 1}[n%3 == 2] }},
	} {
		g := groundOf(c.p)
		for _, n := range []int{0, 1, 2, 3, 4, 50, 98, 99, 100, 101, 102, 200, 1000} {
			walk := spin(n, c.round...)
			if n < 1 || n > 100 {
				checkNoWalk(t, "too few or too many", c.p, walk)
				continue
			}
			g.checkWalk(t, walk)
			if got := len(impl.Open(c.p, walk)); got != c.open(n) {
				t.Errorf("%v: %d Places: %d are open", c.p, n, got)
			}
			if steps := impl.Steps(c.p, walk); (len(steps) == 0) != (n == 100) || n < 100 && !slices.Contains(steps, spin(n+1, c.round...)[n]) {
				t.Errorf("%v: %d Places: Steps %v", c.p, n, steps)
			}
		}
	}
}

// All 99 calls that can be open are, or as many as can come back within a walk do.
func TestP12ManyOpen(t *testing.T) {
	p := program(calling(0))
	walk := spin(100, impl.Place{})
	if got := impl.Open(p, walk); !slices.Equal(got, walk[:99]) {
		t.Errorf("Open %v", got)
	}
	groundOf(p).checkPrefixes(t, walk)
	p = alone(jump(3), mark(3), call(0), assign(0, 3), back())
	for k := range 25 {
		// Down k times by 0 1 2, the last one by 0 3 4, and back up k times by 3 4.
		up := along(slices.Repeat(in(0, 0, 1, 2), k), in(0, 0, 3, 4), slices.Repeat(in(0, 3, 4), k))
		if isWalk(p, up) != (len(up) <= 100) {
			t.Fatalf("the tests' own word on %v is wrong", up)
		}
		for n := 1; n <= len(up); n++ {
			groundOf(p).check(t, up[:n])
		}
	}
	k := 19
	up := along(slices.Repeat(in(0, 0, 1, 2), k), in(0, 0, 3, 4), slices.Repeat(in(0, 3, 4), k))
	if got := impl.Open(p, up[:3*k+3]); !slices.Equal(got, slices.Repeat(in(0, 2), k)) {
		t.Errorf("Open %v", got)
	}
	if o, s := impl.Open(p, up), impl.Steps(p, up); !impl.WalkOk(p, up) || len(up) != 98 || len(o) != 0 || len(s) != 0 {
		t.Errorf("%d Places: Open %v, Steps %v", len(up), o, s)
	}
}

func TestP12EdgesOfTheFirstPlace(t *testing.T) {
	for _, p := range append(allSorts(), fromTwo(), chain(), keeping(), levels()) {
		walk := goingOn(p, nil, impl.Place{}, 12)
		for _, i := range nearAndFar(-2, 5) {
			for _, at := range nearAndFar(-2, 13) {
				first := impl.Place{Proc: i, At: at}
				if first == (impl.Place{}) {
					continue
				}
				checkNoWalk(t, "another first", p, []impl.Place{first})
				checkNoWalk(t, "another first", p, append([]impl.Place{first}, walk...))
				checkNoWalk(t, "another first", p, append([]impl.Place{first}, walk[1:]...))
				checkNoWalk(t, "another first", p, goingOn(p, nil, first, 12))
			}
		}
		groundOf(p).checkPrefixes(t, walk)
	}
}

// Steps to the first and to the last statement, and into the first and into the last procedure, are met; one beyond is none.
func TestP12EdgesOfThePlaces(t *testing.T) {
	for n := int64(1); n <= 4; n++ {
		for size := int64(2); size <= 12; size++ {
			p := program(slices.Repeat([]impl.Proc{long(int(size))}, int(n))...)
			for _, s := range []impl.Stmt{jump(0), jump(size - 1), call(0), call(n - 1)} {
				p.Procs[0] = long(int(size))
				p.Procs[0].Stmts[0] = s
				there := impl.Place{At: s.Y}
				if s.Kind == impl.StCall {
					there = impl.Place{Proc: s.Y}
				}
				g := groundOf(p)
				g.checkBehind(t, in(0, 0))
				g.checkWalk(t, []impl.Place{{}, there})
				g.checkPrefixes(t, goingOn(p, in(0, 0), there, 100))
				for _, beyond := range []impl.Place{{Proc: -1}, {Proc: n}, {At: -1}, {At: size}, {Proc: n - 1, At: -1}, {Proc: n - 1, At: size}, {Proc: -1, At: -1}, {Proc: n, At: size}} {
					checkNoWalk(t, "beyond", p, []impl.Place{{}, beyond})
					checkNoWalk(t, "beyond", p, []impl.Place{{}, there, beyond})
					checkNoWalk(t, "beyond", p, []impl.Place{{}, beyond, there})
					checkNoWalk(t, "beyond", p, []impl.Place{beyond, there})
				}
			}
		}
	}
}

// A call that is the last statement ahead of the StBack, of procedures of each size: one comes back to the StBack.
func TestP12CallAheadOfTheLast(t *testing.T) {
	for size := int64(2); size <= 12; size++ {
		first := long(int(size))
		first.Stmts[size-2] = call(1)
		p := program(first, first)
		p.Procs[1] = long(1)
		walk := []impl.Place{}
		for at := range size - 1 {
			walk = append(walk, impl.Place{At: at})
		}
		walk = append(walk, impl.Place{Proc: 1})
		if got := impl.Steps(p, walk); !slices.Equal(got, in(0, size-1)) {
			t.Errorf("%d statements: Steps %v", size, got)
		}
		g := groundOf(p)
		g.checkBehind(t, walk)
		walk = append(walk, impl.Place{At: size - 1})
		g.checkPrefixes(t, walk)
		g.checkBehind(t, walk)
	}
}

func TestP12EdgesOfTheClient(t *testing.T) {
	for _, p := range append(allSorts(), fromTwo(), chain(), keeping(), levels()) {
		walk := goingOn(p, nil, impl.Place{}, 100)
		for n := 1; n <= len(walk); n++ {
			for _, client := range nearAndFar(-3, 12) {
				if client != 1 && client != 2 {
					checkNotHolding(t, "no client", p, client, walk[:n])
				} else if got := impl.Holding(p, client, walk[:n]); got != holdingOf(p, client, walk[:n]) {
					t.Fatalf("%v, client %d, %v: Holding %d", p, client, walk[:n], got)
				}
			}
		}
	}
}

func TestP12EdgesOfHowMany(t *testing.T) {
	asked := func(p impl.Program, is bool) {
		if !is {
			checkWalksWrong(t, "too few or too many", p)
			return
		}
		groundOf(p).checkPrefixes(t, goingOn(p, nil, impl.Place{}, 30))
	}
	howManyProcs(asked)
	howManyStmts(asked)
}

func TestP12EdgesOfTheCalled(t *testing.T) {
	for n := 1; n <= 4; n++ {
		for _, y := range nearAndFar(-2, 6) {
			for at := range n {
				p := program(slices.Repeat([]impl.Proc{proc(mark(0), back())}, n)...)
				p.Procs[at] = calling(y)
				if y >= 0 && y < int64(n) {
					groundOf(p).checkPrefixes(t, goingOn(p, nil, impl.Place{}, 30))
				} else {
					checkWalksWrong(t, "no such procedure", p, along(in(0, 0), in(y, 0)), along(in(0, 0), in(y, 0), in(0, 1)))
				}
			}
		}
	}
}

func TestP12OneWrongProc(t *testing.T) {
	oneWrongProc(func(p impl.Program) { checkWalksWrong(t, "one wrong procedure", p, spin(100, impl.Place{})) })
}

// Walks of the right program are held against it when one field was changed: where it is right still, they may be walks or not.
func TestP12WrongInOneField(t *testing.T) {
	d := draws(122)
	walks := [][]impl.Place{goingOn(callers(), nil, impl.Place{}, 100)}
	for range 5 {
		walks = append(walks, d.wanderer(callers(), 30))
	}
	inOneField(t, func(p impl.Program, is bool) {
		if !is {
			checkWalksWrong(t, "one wrong field", p, walks...)
			return
		}
		g := groundOf(p)
		for _, walk := range walks {
			g.check(t, walk)
			g.check(t, walk[:min(4, len(walk))])
		}
	})
}

// The spare room behind procedures, statements and Places is no part of them.
func TestP12TheRoomBehindIsNoPart(t *testing.T) {
	for _, p := range append(allSorts(), fromTwo(), chain(), keeping(), levels()) {
		g, walk := groundOf(roomy(p)), goingOn(p, nil, impl.Place{}, 100)
		g.checkWalk(t, roomyPlaces(walk))
		g.checkPrefixes(t, walk)
		checkNoWalk(t, "nothing ahead of the room", p, walk[:0])
		checkNoWalk(t, "what is in the room", p, roomyPlaces(walk)[:len(walk)+1])
	}
}

func TestP21WalksAnswersAreNewMemory(t *testing.T) {
	for _, p := range append(allSorts(), fromTwo(), chain(), keeping(), levels()) {
		whole := goingOn(p, nil, impl.Place{}, 100)
		for n := 1; n <= len(whole); n++ {
			walk := slices.Clone(whole[:n])
			ask := func() [][]impl.Place {
				return [][]impl.Place{impl.Open(p, walk), impl.Steps(p, walk), impl.Open(p, walk), impl.Steps(p, walk)}
			}
			answers := ask()
			checkListsApart(t, fmt.Sprint(p, walk), append(answers, walk))
			var want [][]impl.Place
			for _, got := range answers {
				want = append(want, slices.Clone(got))
			}
			for _, got := range answers {
				spoilPlaces(got)
			}
			for i, again := range ask() {
				if !slices.Equal(again, want[i]) {
					t.Fatalf("%v, %v: answer %d: %v, once written over %v", p, walk, i, want[i], again)
				}
			}
		}
	}
}

// askWalks calls each function of the chapter twice, and writes over what it answers.
func askWalks(p impl.Program, client int64, walk []impl.Place) {
	for range 2 {
		impl.WalkOk(p, walk)
		spoilPlaces(impl.Open(p, walk))
		spoilPlaces(impl.Steps(p, walk))
		impl.Holding(p, client, walk)
	}
}

func TestP21WalksArgumentsStay(t *testing.T) {
	programs := append(allSorts(), fromTwo(), chain(), keeping(), levels(), impl.Program{}, program(slices.Repeat([]impl.Proc{calling(0)}, 5)...), program(calling(1), long(1), calling(3)))
	for _, wrong := range wrongProcs() {
		programs = append(programs, program(calling(1), wrong), program(wrong, calling(0)))
	}
	for _, p := range programs {
		walks := [][]impl.Place{nil, in(0, 0), in(0, 0, 1), in(0, 0, 0), in(0, 1), along(in(0, 0), in(1, 0)), along(in(0, 0), in(1, 0), in(0, 1)), spin(99, impl.Place{}), spin(100, impl.Place{}), spin(101, impl.Place{}), in(math.MinInt64, math.MaxInt64)}
		if isProgram(p) {
			walk := goingOn(p, nil, impl.Place{}, 100)
			walks = append(walks, walk, walk[:len(walk)/2+1], append(slices.Clone(walk), impl.Place{At: 11}))
		}
		for _, walk := range walks {
			for _, client := range []int64{-1, 0, 1, 2, 3, math.MinInt64, math.MaxInt64} {
				placesStayWhile(t, walk, func(walk []impl.Place) {
					staysWhile(t, "walks", p, func(p impl.Program) { askWalks(p, client, walk) })
				})
			}
		}
	}
}

func TestP21EndsOfInt64Walks(t *testing.T) {
	for _, end := range []int64{math.MinInt64, math.MaxInt64} {
		for _, p := range append(allSorts(), fromTwo(), chain(), keeping(), levels()) {
			walk := goingOn(p, nil, impl.Place{}, 20)
			checkNotHolding(t, "an end", p, end, walk)
			for i := range walk {
				for _, wrong := range []impl.Place{{Proc: end, At: walk[i].At}, {Proc: walk[i].Proc, At: end}, {Proc: end, At: end}, {Proc: end, At: -1 - end}} {
					spoilt := slices.Clone(walk)
					spoilt[i] = wrong
					checkNoWalk(t, "an end", p, spoilt)
					checkNoWalk(t, "an end", p, spoilt[:i+1])
					checkNotHolding(t, "an end", p, end, spoilt)
				}
			}
		}
		for _, s := range []impl.Stmt{call(end), jump(end), mark(end), ask(end), assign(end, 0), assign(0, end), {Kind: end}, {Kind: end, X: end, Y: end}, {Kind: impl.StCall, X: end}, {Kind: impl.StBack, Y: end}} {
			checkWalksWrong(t, "an end", program(proc(s, back())), along(in(0, 0), in(end, 0)), in(0, 0, end))
			checkWalksWrong(t, "an end", program(calling(1), calling(2), calling(3), proc(call(0), s, back())), along(in(0, 0), in(1, 0), in(2, 0), in(3, 0), in(0, 0)))
		}
	}
}

func TestP21GreatWalks(t *testing.T) {
	great := spin(1<<20, impl.Place{})
	checkNoWalk(t, "a great walk", program(calling(0)), great)
	checkWalksWrong(t, "a great procedure", program(calling(1), long(1<<20)), great)
	checkWalksWrong(t, "many procedures", program(slices.Repeat([]impl.Proc{calling(0)}, 1<<20)...), great)
}
