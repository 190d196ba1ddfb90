package tests

import (
	"slices"
	"testing"

	"loop.example/g00291/impl"
)

// comes is the tests' own word on coming from one statement to another, neither of them nor one between being barred.
func comes(p impl.Proc, from, to, barred int64) bool {
	if from == barred {
		return false
	}
	seen := make([]bool, len(p.Stmts))
	var visit func(at int64)
	visit = func(at int64) {
		seen[at] = true
		for next := range int64(len(p.Stmts)) {
			if next != barred && !seen[next] && isStep(p, at, next) {
				visit(next)
			}
		}
	}
	visit(from)
	return seen[to]
}

// gatesByBarring has for each statement those without which one does not come there.
func gatesByBarring(p impl.Proc) [][]int64 {
	gates := make([][]int64, len(p.Stmts))
	for n := range gates {
		if comes(p, 0, int64(n), -1) {
			gates[n] = stmtsWhere(p, func(d int64) bool { return !comes(p, 0, int64(n), d) })
		}
	}
	return gates
}

// nearestGates are all that Gate might tell of n: those among its gates but n of which all others but n are gates.
func nearestGates(gates [][]int64, n int64) []int64 {
	var nearest []int64
	for _, d := range gates[n] {
		lacks := slices.ContainsFunc(gates[n], func(other int64) bool {
			return other != n && other != d && !slices.Contains(gates[d], other)
		})
		if d != n && !lacks {
			nearest = append(nearest, d)
		}
	}
	return nearest
}

func loopsBy(p impl.Proc, gates [][]int64) [][]int64 {
	var loops [][]int64
	for from := range int64(len(p.Stmts)) {
		for _, gate := range gates[from] {
			if isStep(p, from, gate) {
				loops = append(loops, []int64{from, gate})
			}
		}
	}
	return loops
}

func hasLoop(loops [][]int64, from, gate int64) bool {
	return slices.ContainsFunc(loops, func(loop []int64) bool { return slices.Equal(loop, []int64{from, gate}) })
}

func checkGates(t *testing.T, p impl.Proc) {
	t.Helper()
	gates := gatesByBarring(p)
	for n, want := range gates {
		if got := impl.Gates(p, int64(n)); !slices.Equal(got, want) {
			t.Fatalf("%v: Gates of %d: %v, want %v", p, n, got, want)
		}
		nearest := append(nearestGates(gates, int64(n)), -1)
		if hasOne := n > 0 && len(want) > 0; hasOne != (len(nearest) == 2) {
			t.Fatalf("%v: nearest gates of %d: %v", p, n, nearest)
		}
		if got := impl.Gate(p, int64(n)); got != nearest[0] {
			t.Fatalf("%v: Gate of %d: %d, want %d", p, n, got, nearest[0])
		}
	}
}

// checkLoops asks for Loops, and for Body of every pair of numbers from -1 to one behind the last statement.
func checkLoops(t *testing.T, p impl.Proc) {
	t.Helper()
	loops := loopsBy(p, gatesByBarring(p))
	if got := impl.Loops(p); !sameLists(got, loops) {
		t.Fatalf("%v: Loops %v, want %v", p, got, loops)
	}
	size := int64(len(p.Stmts))
	for from := int64(-1); from <= size; from++ {
		for gate := int64(-1); gate <= size; gate++ {
			var want []int64
			if hasLoop(loops, from, gate) {
				want = stmtsWhere(p, func(at int64) bool { return at == gate || comes(p, at, from, gate) })
			}
			if got := impl.Body(p, from, gate); !slices.Equal(got, want) {
				t.Fatalf("%v: Body of %d, %d: %v, want %v", p, from, gate, got, want)
			}
		}
	}
}

// checkOnWays asks that a gate is on each way that Ways tells, and one that is none has a way beside it. p has at most 9
// statements: a way that goes round nothing is no longer.
func checkOnWays(t *testing.T, p impl.Proc) {
	t.Helper()
	for n := range int64(len(p.Stmts)) {
		ways := impl.Ways(p, n, 9)
		gates := impl.Gates(p, n)
		if (len(ways) > 0) != (len(gates) > 0) {
			t.Fatalf("%v: Gates of %d: %v, Ways %v", p, n, gates, ways)
		}
		if len(gates) > 0 && (!slices.Contains(gates, 0) || !slices.Contains(gates, n)) {
			t.Fatalf("%v: Gates of %d: %v", p, n, gates)
		}
		for d := range int64(len(p.Stmts)) {
			beside := slices.ContainsFunc(ways, func(way []int64) bool { return !slices.Contains(way, d) })
			if isGate := slices.Contains(gates, d); len(ways) > 0 && isGate == beside {
				t.Fatalf("%v: %d is a gate of %d: %v, a way beside it: %v", p, d, n, isGate, beside)
			}
		}
	}
}

// checkNoGates asks for the fixed answers of a statement that is not there, or that no way comes to.
func checkNoGates(t *testing.T, p impl.Proc, n int64) {
	t.Helper()
	if gs, g := impl.Gates(p, n), impl.Gate(p, n); len(gs) != 0 || g != -1 {
		t.Fatalf("%d statements, asked for %d: Gates %v, Gate %d", len(p.Stmts), n, gs, g)
	}
}

// checkGatesWrong asks for the fixed answers of a Proc that is not right.
func checkGatesWrong(t *testing.T, p impl.Proc) {
	t.Helper()
	if l := impl.Loops(p); len(l) != 0 {
		t.Errorf("%v: Loops %v", p, l)
	}
	for _, n := range nearAndFar(-2, 14) {
		checkNoGates(t, p, n)
		for _, gate := range nearAndFar(-2, 14) {
			if b := impl.Body(p, n, gate); len(b) != 0 {
				t.Errorf("%v: Body of %d, %d: %v", p, n, gate, b)
			}
		}
	}
}
