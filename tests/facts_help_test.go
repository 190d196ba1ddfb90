package tests

import (
	"slices"
	"testing"

	"loop.example/g00291/impl"
)

// places are what holds ahead of each place, and at each entry.
type places struct {
	entries [4]known
	ahead   [4][12]known
}

// startOf is the tests' own word on Start.
func startOf(client int64) known {
	k := known{always: true}
	if client == 2 {
		k.of = [6]bool{true, true, true, true, true, true}
	}
	return k
}

// placesOf is the tests' own word on Entries and Facts: what the tests' own relations make of the entries, and what of that goes
// in by a call, over and over again, the last procedure first, until nothing more comes.
func placesOf(p impl.Program, client int64) *places {
	own, h := summed(p, client), &places{}
	h.entries[0] = startOf(client)
	for more := true; more; {
		more = false
		for i := len(p.Procs) - 1; i >= 0; i-- {
			for at, s := range p.Procs[i].Stmts {
				h.ahead[i][at] = own.ahead(int64(i), at, h.entries[i])
				if s.Kind != impl.StCall {
					continue
				}
				in := h.entries[s.Y].with(h.ahead[i][at].inside(client))
				more = more || in != h.entries[s.Y]
				h.entries[s.Y] = in
			}
		}
	}
	return h
}

func (h *places) entrySets(p impl.Program) []int64 {
	var sets []int64
	for i := range p.Procs {
		sets = append(sets, h.entries[i].set())
	}
	return sets
}

func (h *places) facts(p impl.Program) [][]int64 {
	sets := make([][]int64, len(p.Procs))
	for i, one := range p.Procs {
		for at := range one.Stmts {
			sets[i] = append(sets[i], h.ahead[i][at].set())
		}
	}
	return sets
}

// where tells the places of p that are so, by Proc, then At.
func where(p impl.Program, so func(i, at int64, s impl.Stmt) bool) []impl.Place {
	var list []impl.Place
	for i, one := range p.Procs {
		for at, s := range one.Stmts {
			if so(int64(i), int64(at), s) {
				list = append(list, impl.Place{Proc: int64(i), At: int64(at)})
			}
		}
	}
	return list
}

func (h *places) tests(p impl.Program) []impl.Place {
	return where(p, func(i, at int64, s impl.Stmt) bool { return s.Kind == impl.StTest && h.ahead[i][at].of[s.X] })
}

func (h *places) nowhere(p impl.Program) []impl.Place {
	return where(p, func(i, at int64, _ impl.Stmt) bool { return h.ahead[i][at] == known{} })
}

// checkPlaces asks for all that the chapter tells of a right Program and a client.
func checkPlaces(t *testing.T, p impl.Program, client int64) {
	t.Helper()
	own := placesOf(p, client)
	if got, want := impl.Entries(p, client), own.entrySets(p); !slices.Equal(got, want) {
		t.Fatalf("%v, client %d: Entries %v, want %v", p, client, got, want)
	}
	if got, want := impl.Facts(p, client), own.facts(p); !sameLists(got, want) {
		t.Fatalf("%v, client %d: Facts %v, want %v", p, client, got, want)
	}
	if got, want := impl.Tests(p, client), own.tests(p); !slices.Equal(got, want) {
		t.Fatalf("%v, client %d: Tests %v, want %v", p, client, got, want)
	}
	if client != impl.ClMark {
		return
	}
	if got, want := impl.Nowhere(p), own.nowhere(p); !slices.Equal(got, want) {
		t.Fatalf("%v: Nowhere %v, want %v", p, got, want)
	}
}

// checkAsked asks for Asked of each place and fact, and of those one beyond: just where Facts has it.
func checkAsked(t *testing.T, p impl.Program, client int64) {
	t.Helper()
	sets := impl.Facts(p, client)
	for i := range int64(len(sets)) {
		for at := range int64(len(sets[i])) {
			for fact := range int64(8) {
				want := fact >= 1 && fact <= 6 && hasFact(sets[i][at], fact)
				if got := impl.Asked(p, client, i, at, fact); got != want {
					t.Fatalf("%v, client %d: Asked of %d at %d, %d: %v; Facts %v", p, client, fact, i, at, got, sets)
				}
			}
		}
		for fact := range int64(8) {
			checkNotAsked(t, "ahead of 0", p, client, i, -1, fact)
			checkNotAsked(t, "behind the last", p, client, i, int64(len(sets[i])), fact)
		}
	}
	for fact := range int64(8) {
		checkNotAsked(t, "ahead of procedure 0", p, client, -1, 0, fact)
		checkNotAsked(t, "behind the last procedure", p, client, int64(len(sets)), 0, fact)
	}
}

// inners are Inner of each procedure.
func inners(p impl.Program, client int64) [][][]int64 {
	var list [][][]int64
	for i := range p.Procs {
		list = append(list, impl.Inner(p, client, int64(i)))
	}
	return list
}

// isEntered asks whether these sets at entries are as the chapter wants them, least or not.
func isEntered(p impl.Program, client int64, inner [][][]int64, entries []int64) bool {
	if !isSubset(impl.Start(client), entries[0]) {
		return false
	}
	enter := impl.Enter(client)
	for i, one := range p.Procs {
		for at, s := range one.Stmts {
			if s.Kind == impl.StCall && !isSubset(impl.Image(enter, impl.Image(inner[i][at], entries[i])), entries[s.Y]) {
				return false
			}
		}
	}
	return true
}

func isSubset(part, all int64) bool { return knownOf(all).with(knownOf(part)) == knownOf(all) }

// checkPlacesRules asks what the chapter tells, of what the program tells alone: Entries are entered, and with one fact less they
// are not; Facts are Image of Inner of them.
func checkPlacesRules(t *testing.T, p impl.Program, client int64) {
	t.Helper()
	inner, entries, sets := inners(p, client), impl.Entries(p, client), impl.Facts(p, client)
	if len(entries) != len(p.Procs) || len(sets) != len(p.Procs) || !isEntered(p, client, inner, entries) {
		t.Fatalf("%v, client %d: Entries %v, Facts %v", p, client, entries, sets)
	}
	for i, set := range entries {
		for fact := range int64(7) {
			if hasFact(set, fact) && isEntered(p, client, inner, changed(entries, i, without(set, fact))) {
				t.Fatalf("%v, client %d: Entries %v, but %d of %d is not needed", p, client, entries, fact, i)
			}
		}
		for at, r := range inner[i] {
			if want := impl.Image(r, set); len(sets[i]) != len(inner[i]) || sets[i][at] != want {
				t.Fatalf("%v, client %d: Facts %v, but ahead of %d of %d holds %d", p, client, sets, at, i, want)
			}
		}
	}
}

// checkAllPlaces asks all of it, of both clients.
func checkAllPlaces(t *testing.T, p impl.Program) {
	t.Helper()
	for _, client := range bothClients {
		checkPlaces(t, p, client)
		checkPlacesRules(t, p, client)
		checkAsked(t, p, client)
	}
}

// checkNoPlaces asks for the fixed answers where p or client is not as told.
func checkNoPlaces(t *testing.T, name string, p impl.Program, client int64) {
	t.Helper()
	if e, f, l := impl.Entries(p, client), impl.Facts(p, client), impl.Tests(p, client); len(e) != 0 || len(f) != 0 || len(l) != 0 {
		t.Fatalf("%s: %.200v, client %d: Entries %v, Facts %v, Tests %v", name, p, client, e, f, l)
	}
	for _, i := range nearAndFar(-1, 4) {
		for _, at := range []int64{-1, 0, 1, 11, 12} {
			checkNotAsked(t, name, p, client, i, at, 1)
			checkNotAsked(t, name, p, client, i, at, 6)
		}
	}
}

func checkNotAsked(t *testing.T, name string, p impl.Program, client, proc, at, fact int64) {
	t.Helper()
	if impl.Asked(p, client, proc, at, fact) {
		t.Fatalf("%s: %.200v, client %d: Asked of %d at %d, %d", name, p, client, fact, proc, at)
	}
}

// checkWrongPlaces asks for them of a Program that is not right.
func checkWrongPlaces(t *testing.T, name string, p impl.Program) {
	t.Helper()
	for _, client := range bothClients {
		checkNoPlaces(t, name, p, client)
	}
	if got := impl.Nowhere(p); len(got) != 0 {
		t.Fatalf("%s: %.200v: Nowhere %v", name, p, got)
	}
}

// walk draws a walk from the beginning of p, and calls f with what holds ahead of each place. It ends where nothing comes behind,
// or after this many places.
func (d *draws) walk(p impl.Program, client int64, most int, f func(here impl.Place, k known)) {
	var open []impl.Place
	var kept []known
	here, k := impl.Place{}, startOf(client)
	for range most {
		f(here, k)
		one := p.Procs[here.Proc]
		switch s := one.Stmts[here.At]; s.Kind {
		case impl.StCall:
			open, kept = append(open, here), append(kept, k)
			here, k = impl.Place{Proc: s.Y}, k.inside(client)
		case impl.StBack:
			last := len(open) - 1
			if last < 0 {
				return
			}
			here, k = impl.Place{Proc: open[last].Proc, At: open[last].At + 1}, kept[last].backFrom(k)
			open, kept = open[:last], kept[:last]
		default:
			nexts := stmtsWhere(one, func(to int64) bool { return isStep(one, here.At, to) })
			here.At, k = nexts[d.below(len(nexts))], k.behind(client, s)
		}
	}
}

// testing makes some statements of p that do nothing ask.
func (d *draws) testing(p impl.Program) impl.Program {
	p = roomy(p)
	for _, one := range p.Procs {
		for at, s := range one.Stmts {
			if s.Kind == impl.StSkip || s.Kind == impl.StTest || s.Kind == impl.StClear && d.below(2) == 0 {
				one.Stmts[at] = ask(int64(d.below(6)))
			}
		}
	}
	return p
}

// withoutCalls is p with a StSkip in place of each call.
func withoutCalls(p impl.Program) impl.Program {
	p = roomy(p)
	for _, one := range p.Procs {
		for at, s := range one.Stmts {
			if s.Kind == impl.StCall {
				one.Stmts[at] = skip()
			}
		}
	}
	return p
}

// spoilPlaces writes over an answer and the spare room behind it.
func spoilPlaces(list []impl.Place) {
	list = list[:cap(list)]
	for i := range list {
		list[i] = impl.Place{Proc: -4711, At: -4712}
	}
}
