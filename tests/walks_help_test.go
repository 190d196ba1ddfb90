package tests

import (
	"reflect"
	"slices"
	"testing"

	"loop.example/g00291/impl"
)

// in are Places of one procedure.
func in(proc int64, ats ...int64) []impl.Place {
	var list []impl.Place
	for _, at := range ats {
		list = append(list, impl.Place{Proc: proc, At: at})
	}
	return list
}

// along puts Places behind one another, in memory of its own.
func along(parts ...[]impl.Place) []impl.Place { return slices.Concat(parts...) }

func isPlace(p impl.Program, place impl.Place) bool {
	return place.Proc >= 0 && place.Proc < int64(len(p.Procs)) && place.At >= 0 && place.At < int64(len(p.Procs[place.Proc].Stmts))
}

func stmtOf(p impl.Program, place impl.Place) impl.Stmt { return p.Procs[place.Proc].Stmts[place.At] }

// callOf tells to which call of the walk its StBack number i comes back, -1 where there is none: going backwards, calls and StBacks
// are counted against each other. Ahead of it the walk is right.
func callOf(p impl.Program, walk []impl.Place, i int) int {
	inside := 1
	for j := i - 1; j >= 0; j-- {
		switch stmtOf(p, walk[j]).Kind {
		case impl.StCall:
			inside--
		case impl.StBack:
			inside++
		}
		if inside == 0 {
			return j
		}
	}
	return -1
}

// comesBehind is the tests' own word on what may come behind a walk that is right, whatever its size.
func comesBehind(p impl.Program, walk []impl.Place, next impl.Place) bool {
	last := len(walk) - 1
	here := walk[last]
	switch s := stmtOf(p, here); s.Kind {
	case impl.StCall:
		return next == impl.Place{Proc: s.Y}
	case impl.StBack:
		from := callOf(p, walk, last)
		return from >= 0 && next.Proc == walk[from].Proc && next.At == walk[from].At+1
	default:
		return isPlace(p, next) && next.Proc == here.Proc && isStep(p.Procs[here.Proc], here.At, next.At)
	}
}

// isWalk is the tests' own word on walks; p is right.
func isWalk(p impl.Program, walk []impl.Place) bool {
	if len(walk) < 1 || len(walk) > 100 || walk[0] != (impl.Place{}) {
		return false
	}
	for i := 1; i < len(walk); i++ {
		if !comesBehind(p, walk[:i], walk[i]) {
			return false
		}
	}
	return true
}

// openOf is the tests' own word on Open: the calls ahead of the last Place to which no StBack ahead of it comes back.
func openOf(p impl.Program, walk []impl.Place) []impl.Place {
	var cameBack [100]bool
	ahead := walk[:len(walk)-1]
	for i, place := range ahead {
		if from := callOf(p, walk, i); stmtOf(p, place).Kind == impl.StBack && from >= 0 {
			cameBack[from] = true
		}
	}
	var open []impl.Place
	for i, place := range ahead {
		if stmtOf(p, place).Kind == impl.StCall && !cameBack[i] {
			open = append(open, place)
		}
	}
	return open
}

// stepsOf is the tests' own word on Steps.
func stepsOf(p impl.Program, walk []impl.Place) []impl.Place {
	return where(p, func(i, at int64, _ impl.Stmt) bool {
		return len(walk) < 100 && comesBehind(p, walk, impl.Place{Proc: i, At: at})
	})
}

// holdingOf is the tests' own word on Holding.
func holdingOf(p impl.Program, client int64, walk []impl.Place) int64 {
	sets := []known{startOf(client)}
	for i, place := range walk[:len(walk)-1] {
		switch s := stmtOf(p, place); s.Kind {
		case impl.StCall:
			sets = append(sets, sets[i].inside(client))
		case impl.StBack:
			sets = append(sets, sets[callOf(p, walk, i)].backFrom(sets[i]))
		default:
			sets = append(sets, sets[i].behind(client, s))
		}
	}
	return sets[len(sets)-1].set()
}

// ground is a right Program with its Facts of each client, which are told once for many walks.
type ground struct {
	p     impl.Program
	facts map[int64][][]int64
}

func groundOf(p impl.Program) ground {
	g := ground{p, map[int64][][]int64{}}
	for _, client := range bothClients {
		g.facts[client] = impl.Facts(p, client)
	}
	return g
}

// checkWalk asks for all that the chapter tells of a walk, and that what holds there is among Facts.
func (g ground) checkWalk(t *testing.T, walk []impl.Place) {
	t.Helper()
	if !impl.WalkOk(g.p, walk) {
		t.Fatalf("%v: %v is no walk", g.p, walk)
	}
	if got, want := impl.Open(g.p, walk), openOf(g.p, walk); !slices.Equal(got, want) {
		t.Fatalf("%v, %v: Open %v, want %v", g.p, walk, got, want)
	}
	if got, want := impl.Steps(g.p, walk), stepsOf(g.p, walk); !slices.Equal(got, want) {
		t.Fatalf("%v, %v: Steps %v, want %v", g.p, walk, got, want)
	}
	last := walk[len(walk)-1]
	for _, client := range bothClients {
		got := impl.Holding(g.p, client, walk)
		if want := holdingOf(g.p, client, walk); got != want {
			t.Fatalf("%v, client %d, %v: Holding %d, want %d", g.p, client, walk, got, want)
		}
		if told := g.facts[client][last.Proc][last.At]; !isSubset(got, told) {
			t.Fatalf("%v, client %d, %v: Holding %d, Facts %v", g.p, client, walk, got, g.facts[client])
		}
	}
}

// checkPrefixes asks it of each part of a walk that begins as it does.
func (g ground) checkPrefixes(t *testing.T, walk []impl.Place) {
	t.Helper()
	for n := 1; n <= len(walk); n++ {
		g.checkWalk(t, walk[:n])
	}
}

// check asks it of a walk, and for the fixed answers of what is none.
func (g ground) check(t *testing.T, walk []impl.Place) {
	t.Helper()
	if isWalk(g.p, walk) {
		g.checkWalk(t, walk)
	} else {
		checkNoWalk(t, "no walk", g.p, walk)
	}
}

// checkBehind asks, of every Place of the program, of those beyond its edges and of far ones, that just those of Steps make a walk
// of the walk when they are put behind it. The walk has less than 100.
func (g ground) checkBehind(t *testing.T, walk []impl.Place) {
	t.Helper()
	steps := impl.Steps(g.p, walk)
	for _, i := range nearAndFar(-2, 5) {
		for _, at := range nearAndFar(-2, 13) {
			next := impl.Place{Proc: i, At: at}
			if got := impl.WalkOk(g.p, append(slices.Clone(walk), next)); got != slices.Contains(steps, next) {
				t.Fatalf("%v: %v, and %v behind it: %v; Steps %v", g.p, walk, next, got, steps)
			}
		}
	}
	for _, next := range steps {
		g.checkWalk(t, append(slices.Clone(walk), next))
	}
}

// checkNoWalk asks for the fixed answers where p or the walk is not as told.
func checkNoWalk(t *testing.T, name string, p impl.Program, walk []impl.Place) {
	t.Helper()
	if impl.WalkOk(p, walk) {
		t.Fatalf("%s: %.200v: %.200v is a walk", name, p, walk)
	}
	if o, s := impl.Open(p, walk), impl.Steps(p, walk); len(o) != 0 || len(s) != 0 {
		t.Fatalf("%s: %.200v, %.200v: Open %v, Steps %v", name, p, walk, o, s)
	}
	for _, client := range bothClients {
		checkNotHolding(t, name, p, client, walk)
	}
}

func checkNotHolding(t *testing.T, name string, p impl.Program, client int64, walk []impl.Place) {
	t.Helper()
	if got := impl.Holding(p, client, walk); got != -1 {
		t.Fatalf("%s: %.200v, client %d, %.200v: Holding %d", name, p, client, walk, got)
	}
}

// checkWalksWrong asks for them of a Program that is not right, of these walks and of the least one.
func checkWalksWrong(t *testing.T, name string, p impl.Program, walks ...[]impl.Place) {
	t.Helper()
	for _, walk := range append(walks, nil, in(0, 0), in(0, 0, 1), in(0, 0, 0), along(in(0, 0), in(1, 0))) {
		checkNoWalk(t, name, p, walk)
	}
}

// walksFrom calls f with each walk of at most this many Places that goes on from this one, itself too.
func walksFrom(p impl.Program, walk []impl.Place, most int, f func(walk []impl.Place)) {
	f(walk)
	if len(walk) == most {
		return
	}
	for _, next := range stepsOf(p, walk) {
		walksFrom(p, append(slices.Clone(walk), next), most, f)
	}
}

// wanderer draws the Places of a walk, of at most this many; it ends where nothing comes behind.
func (d *draws) wanderer(p impl.Program, most int) []impl.Place {
	var walk []impl.Place
	d.walk(p, impl.ClMark, most, func(here impl.Place, _ known) { walk = append(walk, here) })
	return walk
}

// goingOn is a walk with one Place behind it, whatever it is, and those behind that which come by the rules then, the first of
// several each time: of a wrong Place no other step is wrong. It ends with this many, or where nothing comes.
func goingOn(p impl.Program, walk []impl.Place, next impl.Place, most int) []impl.Place {
	walk = slices.Clone(walk)
	open := openOf(p, append(slices.Clone(walk), next))
	for {
		walk = append(walk, next)
		if len(walk) == most || !isPlace(p, next) {
			return walk
		}
		one := p.Procs[next.Proc]
		switch s := stmtOf(p, next); s.Kind {
		case impl.StCall:
			open = append(open, next)
			next = impl.Place{Proc: s.Y}
		case impl.StBack:
			last := len(open) - 1
			if last < 0 {
				return walk
			}
			next = impl.Place{Proc: open[last].Proc, At: open[last].At + 1}
			open = open[:last]
		default:
			next.At = stmtsWhere(one, func(to int64) bool { return isStep(one, next.At, to) })[0]
		}
	}
}

// roomyPlaces is a copy with strangers in the spare room behind it.
func roomyPlaces(list []impl.Place) []impl.Place {
	room := append(make([]impl.Place, 0, len(list)+3), list...)
	for i := len(list); i < cap(room); i++ {
		room[:cap(room)][i] = impl.Place{Proc: 4711, At: -4712}
	}
	return room
}

// placesStayWhile asks that nothing of these Places is written, spare room included, while f runs.
func placesStayWhile(t *testing.T, list []impl.Place, f func(list []impl.Place)) {
	t.Helper()
	room := roomyPlaces(list)
	before := slices.Clone(room[:cap(room)])
	f(room)
	if !reflect.DeepEqual(before, room[:cap(room)]) {
		t.Errorf("%v was changed to %v", before, room[:cap(room)])
	}
}
