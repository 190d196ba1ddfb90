package tests

import (
	"slices"
	"testing"

	"loop.example/g00291/impl"
)

// bothClients are all that there are.
var bothClients = []int64{1, 2}

// rightStmts are all statements that are right: each Kind with each X and each Y.
func rightStmts() []impl.Stmt {
	var list []impl.Stmt
	for kind := range int64(10) {
		roomX, roomY := rooms(kind)
		for x := range roomX {
			for y := range roomY {
				list = append(list, impl.Stmt{Kind: kind, X: x, Y: y})
			}
		}
	}
	return list
}

// known is the tests' own set of facts: whether fact 0 holds, and whether that of each variable does.
type known struct {
	always bool
	of     [6]bool
}

func knownOf(set int64) known {
	k := known{always: set%2 == 1}
	for v := range k.of {
		set /= 2
		k.of[v] = set%2 == 1
	}
	return k
}

func (k known) set() int64 {
	set := int64(0)
	for v := 5; v >= 0; v-- {
		if k.of[v] {
			set++
		}
		set *= 2
	}
	if k.always {
		set++
	}
	return set
}

// behind does what the statement says to what is known ahead of it.
func (k known) behind(client int64, s impl.Stmt) known {
	switch s.Kind {
	case impl.StCopy:
		k.of[s.X] = k.of[s.Y]
	case impl.StBoth:
		k.of[s.X] = k.of[s.X] || k.of[s.Y]
	case impl.StClear:
		k.of[s.X] = false
	case impl.StMark:
		k.of[s.X] = client == 1 && k.always
	}
	return k
}

func (k known) behindAll(client int64, stmts []impl.Stmt) known {
	for _, s := range stmts {
		k = k.behind(client, s)
	}
	return k
}

// inside is what a procedure that is called begins with.
func (k known) inside(client int64) known {
	own := client == 2 && k.always
	for v := 3; v < 6; v++ {
		k.of[v] = own
	}
	return k
}

// backFrom is what a caller who knew k goes on with, where what is called ended with end.
func (k known) backFrom(end known) known {
	for v := range 3 {
		k.of[v] = end.of[v]
	}
	k.always = k.always || end.always
	return k
}

// flowAlong composes the Flows of these statements.
func flowAlong(client int64, stmts []impl.Stmt) []int64 {
	r := impl.Unit()
	for _, s := range stmts {
		r = impl.Compose(r, impl.Flow(client, s))
	}
	return r
}

// callBy is what a call does where what is called does table.
func callBy(client int64, table []int64) []int64 {
	through := impl.Compose(impl.Compose(impl.Enter(client), table), impl.Leave())
	return impl.Join(impl.Keep(), through)
}

// checkImage asks for Image of r, of every set, as becomes tells it.
func checkImage(t *testing.T, name string, r []int64, becomes func(k known) known) {
	t.Helper()
	if !impl.RelOk(r) {
		t.Fatalf("%s: %v is no relation", name, r)
	}
	for set := range int64(allSets) {
		if got, want := impl.Image(r, set), becomes(knownOf(set)).set(); got != want {
			t.Fatalf("%s: %v makes %d of %d, want %d", name, r, got, set, want)
		}
	}
}

// checkLeaves asks that nobody but who writes it makes or unmakes the fact of a variable, and that fact 0 stays.
func checkLeaves(t *testing.T, client int64, s impl.Stmt) {
	t.Helper()
	flow := pairsOf(impl.Flow(client, s))
	writes := s.Kind >= impl.StCopy && s.Kind <= impl.StMark
	for made := range int64(7) {
		for by := range int64(7) {
			if writes && made == s.X+1 {
				continue
			}
			if flow[by][made] != (by == made) {
				t.Fatalf("client %d, %v: fact %d makes fact %d: %v", client, s, by, made, flow[by][made])
			}
		}
	}
}

// makersOf are the facts that make the one of variable x.
func makersOf(r []int64, x int64) []int64 {
	var makers []int64
	for by, makes := range pairsOf(r) {
		if makes[x+1] {
			makers = append(makers, int64(by))
		}
	}
	return makers
}

// rising is a list of numbers as a set would tell them.
func rising(numbers ...int64) []int64 {
	slices.Sort(numbers)
	return slices.Compact(numbers)
}

// checkNoFlow asks for nothing.
func checkNoFlow(t *testing.T, client int64, s impl.Stmt) {
	t.Helper()
	if got := impl.Flow(client, s); len(got) != 0 {
		t.Fatalf("Flow(%d, %v) = %v", client, s, got)
	}
}

// clientAnswers are all lists that the chapter tells of a client and a statement, each asked for twice.
func clientAnswers(client int64, s impl.Stmt) [][]int64 {
	return [][]int64{
		impl.Flow(client, s), impl.Enter(client), impl.Leave(), impl.Keep(),
		impl.Flow(client, s), impl.Enter(client), impl.Leave(), impl.Keep(),
	}
}
