package tests

import (
	"slices"
	"testing"

	"loop.example/g00291/impl"
)

// hasFact is the tests' own word on what is in a set.
func hasFact(set, fact int64) bool { return knownOf(set).has(fact) }

func (k known) has(fact int64) bool { return fact == 0 && k.always || fact > 0 && k.of[fact-1] }

// without is the set less one fact that it has.
func without(set, fact int64) int64 {
	k := knownOf(set)
	if fact == 0 {
		k.always = false
	} else {
		k.of[fact-1] = false
	}
	return k.set()
}

func (k known) with(other known) known {
	k.always = k.always || other.always
	for v := range k.of {
		k.of[v] = k.of[v] || other.of[v]
	}
	return k
}

// becomes is the tests' own word on Along; way is one of p.
func becomes(p impl.Proc, client int64, way []int64, start int64) int64 {
	k := knownOf(start)
	for _, at := range way[:len(way)-1] {
		k = k.behind(client, p.Stmts[at])
	}
	return k.set()
}

// closed is the least that has these sets and all that comes of them: every step is done over and over again, the last one first,
// until nothing more comes.
func closed(p impl.Proc, client int64, sets []int64) []int64 {
	sets = slices.Clone(sets)
	for more := true; more; {
		more = false
		for from := len(sets) - 1; from >= 0; from-- {
			for to := range sets {
				if !isStep(p, int64(from), int64(to)) {
					continue
				}
				set := knownOf(sets[to]).with(knownOf(sets[from]).behind(client, p.Stmts[from])).set()
				more = more || set != sets[to]
				sets[to] = set
			}
		}
	}
	return sets
}

// leastSets is the tests' own word on Solved.
func leastSets(p impl.Proc, client, start int64) []int64 {
	return closed(p, client, changed(make([]int64, len(p.Stmts)), 0, start))
}

// isCovered is the tests' own word on Covers; there are as many sets as statements.
func isCovered(p impl.Proc, client, start int64, sets []int64) bool {
	if knownOf(sets[0]).with(knownOf(start)).set() != sets[0] {
		return false
	}
	for from := range sets {
		for to := range sets {
			behind := knownOf(sets[from]).behind(client, p.Stmts[from])
			if isStep(p, int64(from), int64(to)) && knownOf(sets[to]).with(behind).set() != sets[to] {
				return false
			}
		}
	}
	return true
}

// stand is where a way ends, and with which set.
type stand struct {
	at  int64
	set known
}

// leastProofs is the tests' own word on Proof, [at][fact]: all that ways of one size come to, the least way to each, size by
// size, until nothing new is come to.
func leastProofs(p impl.Proc, client, start int64) [][7][]int64 {
	proofs := make([][7][]int64, len(p.Stmts))
	seen := map[stand]bool{}
	for level := map[stand][]int64{{0, knownOf(start)}: {0}}; len(level) > 0; {
		for s, way := range level {
			seen[s] = true
			for fact := range int64(7) {
				was := proofs[s.at][fact]
				if hasFact(s.set.set(), fact) && (was == nil || len(was) == len(way) && slices.Compare(way, was) < 0) {
					proofs[s.at][fact] = way
				}
			}
		}
		next := map[stand][]int64{}
		for s, way := range level {
			for to := range int64(len(p.Stmts)) {
				there := stand{to, s.set.behind(client, p.Stmts[s.at])}
				if !isStep(p, s.at, to) || seen[there] {
					continue
				}
				went := append(slices.Clone(way), to)
				if was, ok := next[there]; !ok || slices.Compare(went, was) < 0 {
					next[there] = went
				}
			}
		}
		level = next
	}
	return proofs
}

// checkSolved asks for Solved and for Proof of every statement and fact, and that these are what they are said to be.
func checkSolved(t *testing.T, p impl.Proc, client, start int64) {
	t.Helper()
	solved := impl.Solved(p, client, start)
	if want := leastSets(p, client, start); !slices.Equal(solved, want) {
		t.Fatalf("%v, client %d, start %d: Solved %v, want %v", p, client, start, solved, want)
	}
	for at, want := range leastProofs(p, client, start) {
		for fact := range int64(7) {
			way := impl.Proof(p, client, start, int64(at), fact)
			if !slices.Equal(way, want[fact]) || (len(way) > 0) != hasFact(solved[at], fact) {
				t.Fatalf("%v, client %d, start %d: Proof of %d at %d: %v, want %v; Solved %v", p, client, start, fact, at, way, want[fact], solved)
			}
			if len(way) > 0 && (!impl.WayOk(p, way) || way[len(way)-1] != int64(at) || !hasFact(impl.Along(p, client, way, start), fact)) {
				t.Fatalf("%v, client %d, start %d: %v is no Proof of %d at %d", p, client, start, way, fact, at)
			}
		}
	}
}

// checkAlongWays holds Solved and Proof against Along of all Ways together, as far as these go.
func checkAlongWays(t *testing.T, p impl.Proc, client, start int64) {
	t.Helper()
	solved := impl.Solved(p, client, start)
	for at := range int64(len(p.Stmts)) {
		var first [7][]int64
		for _, way := range impl.Ways(p, at, 9) {
			set := impl.Along(p, client, way, start)
			if want := becomes(p, client, way, start); set != want {
				t.Fatalf("%v, client %d: %d along %v: %d, want %d", p, client, start, way, set, want)
			}
			for fact := range int64(7) {
				if hasFact(set, fact) && first[fact] == nil {
					first[fact] = way
				}
			}
		}
		for fact := range int64(7) {
			proof := impl.Proof(p, client, start, at, fact)
			if hasFact(solved[at], fact) != (first[fact] != nil || len(proof) > 9) {
				t.Fatalf("%v, client %d, start %d: Solved %v, but of %d at %d: %v", p, client, start, solved, fact, at, first[fact])
			}
			if first[fact] != nil && !slices.Equal(proof, first[fact]) {
				t.Fatalf("%v, client %d, start %d: Proof of %d at %d: %v, the first of Ways %v", p, client, start, fact, at, proof, first[fact])
			}
		}
	}
}

// checkCovers asks that Solved Covers, that nothing does that lacks one fact of it, and of those that have one more which do.
func checkCovers(t *testing.T, p impl.Proc, client, start int64) {
	t.Helper()
	solved := impl.Solved(p, client, start)
	if !impl.Covers(p, client, start, solved) || !impl.Covers(p, client, start, slices.Repeat([]int64{127}, len(solved))) {
		t.Fatalf("%v, client %d, start %d: Solved %v, or the whole sets, do not Cover", p, client, start, solved)
	}
	for at, set := range solved {
		for fact := range int64(7) {
			if hasFact(set, fact) {
				checkCovered(t, p, client, start, changed(solved, at, without(set, fact)), false)
				continue
			}
			more := changed(solved, at, set+1<<fact)
			checkCovered(t, p, client, start, more, isCovered(p, client, start, more))
		}
	}
}

func checkCovered(t *testing.T, p impl.Proc, client, start int64, sets []int64, want bool) {
	t.Helper()
	if got := impl.Covers(p, client, start, sets); got != want {
		t.Fatalf("%v, client %d, start %d: Covers %v: %v", p, client, start, sets, got)
	}
}

// checkInside asks all of it, of both clients and these starts.
func checkInside(t *testing.T, p impl.Proc, starts ...int64) {
	t.Helper()
	for _, client := range bothClients {
		for _, start := range starts {
			checkSolved(t, p, client, start)
			checkAlongWays(t, p, client, start)
			checkCovers(t, p, client, start)
		}
	}
}

// writingProcs calls f with every Proc of n statements of which each writes variable 0 or 1, is StBack, or a jump, the last one
// StBack.
func writingProcs(n int, f func(p impl.Proc)) {
	kinds := []impl.Stmt{mark(0), assign(1, 0), wipe(0), both(0, 1), back()}
	for y := range n {
		kinds = append(kinds, jump(int64(y)))
	}
	var fill func(p impl.Proc, at int)
	fill = func(p impl.Proc, at int) {
		if at == n-1 {
			f(p)
			return
		}
		for _, s := range kinds {
			p.Stmts[at] = s
			fill(p, at+1)
		}
	}
	fill(long(n), 0)
}

// checkInsideWrong asks for the fixed answers where p, client or start is not as told.
func checkInsideWrong(t *testing.T, p impl.Proc, client, start int64) {
	t.Helper()
	if got := impl.Solved(p, client, start); len(got) != 0 {
		t.Fatalf("%.200v, client %d, start %d: Solved %v", p, client, start, got)
	}
	for _, way := range [][]int64{nil, {0}, {0, 1}, {0, 0}} {
		if got := impl.Along(p, client, way, start); got != -1 {
			t.Fatalf("%.200v, client %d: %d along %v: %d", p, client, start, way, got)
		}
	}
	for _, set := range []int64{0, 1, 127, start} {
		if impl.Covers(p, client, start, slices.Repeat([]int64{set}, len(p.Stmts))) {
			t.Fatalf("%.200v, client %d, start %d: Covers", p, client, start)
		}
	}
	if impl.Covers(p, client, start, nil) {
		t.Fatalf("%.200v, client %d, start %d: Covers without a set", p, client, start)
	}
	for at := range int64(13) {
		for fact := range int64(7) {
			checkNoProof(t, p, client, start, at, fact)
		}
	}
}

func checkNoProof(t *testing.T, p impl.Proc, client, start, at, fact int64) {
	t.Helper()
	if got := impl.Proof(p, client, start, at, fact); len(got) != 0 {
		t.Fatalf("%.200v, client %d, start %d: Proof of %d at %d: %v", p, client, start, fact, at, got)
	}
}

// isProc is the tests' own word on procedures.
func isProc(p impl.Proc) bool {
	n := len(p.Stmts)
	wrong := slices.ContainsFunc(p.Stmts, func(s impl.Stmt) bool {
		x, y := rooms(s.Kind)
		if s.Kind == impl.StJump {
			y = int64(n)
		}
		return s.X < 0 || s.X >= x || s.Y < 0 || s.Y >= y
	})
	return n >= 1 && n <= 12 && !wrong && p.Stmts[n-1].Kind == impl.StBack
}

// stirring draws a Proc that mostly copies, and goes back often: it takes long ways to bring a fact to where it may come.
func (d *draws) stirring() impl.Proc {
	p := long(2 + d.below(11))
	for at := range len(p.Stmts) - 1 {
		switch d.below(8) {
		case 0, 1:
			p.Stmts[at] = jump(int64(d.below(len(p.Stmts))))
		case 2:
			p.Stmts[at] = d.stmt(len(p.Stmts), 4)
		case 3:
			p.Stmts[at] = wipe(int64(d.below(6)))
		default:
			p.Stmts[at] = assign(int64(d.below(6)), int64(d.below(6)))
		}
	}
	return p
}

// wandering draws a way of at most this many statements; it ends where nothing comes next.
func (d *draws) wandering(p impl.Proc, most int) []int64 {
	way := []int64{0}
	for len(way) < most {
		last := way[len(way)-1]
		nexts := stmtsWhere(p, func(to int64) bool { return isStep(p, last, to) })
		if len(nexts) == 0 {
			break
		}
		way = append(way, nexts[d.below(len(nexts))])
	}
	return way
}
