package tests

import (
	"slices"
	"testing"

	"loop.example/g00291/impl"
)

// allSets is how many sets of facts there are: the first number that is none.
const allSets = 128

// pairs is the tests' own relation: pairs[i][k] says that fact i makes fact k.
type pairs [7][7]bool

func pairsOf(r []int64) pairs {
	var p pairs
	for i := range p {
		for k := range p[i] {
			p[i][k] = r[i]/(1<<k)%2 == 1
		}
	}
	return p
}

func (p pairs) sets() []int64 {
	r := make([]int64, 7)
	for i := range p {
		for k, makes := range p[i] {
			if makes {
				r[i] += 1 << k
			}
		}
	}
	return r
}

// image asks of each fact whether one of the set makes it.
func (p pairs) image(set int64) int64 {
	var made int64
	for k := range p {
		for i := range p {
			if set/(1<<i)%2 == 1 && p[i][k] {
				made += 1 << k
				break
			}
		}
	}
	return made
}

func composed(a, b pairs) pairs {
	var c pairs
	for i := range c {
		for mid := range c {
			for k := range c {
				c[i][k] = c[i][k] || a[i][mid] && b[mid][k]
			}
		}
	}
	return c
}

func joined(a, b pairs) pairs {
	for i := range a {
		for k := range a[i] {
			a[i][k] = a[i][k] || b[i][k]
		}
	}
	return a
}

func isWithin(a, b pairs) bool {
	for i := range a {
		for k := range a[i] {
			if a[i][k] && !b[i][k] {
				return false
			}
		}
	}
	return true
}

// onePair is the relation in which fact i makes fact k, and nothing else makes anything.
func onePair(i, k int) []int64 {
	r := make([]int64, 7)
	r[i] = 1 << k
	return r
}

// allOf is the relation of which each fact makes this set.
func allOf(set int64) []int64 { return slices.Repeat([]int64{set}, 7) }

// changed is r with this set at one place.
func changed(r []int64, at int, set int64) []int64 {
	r = slices.Clone(r)
	r[at] = set
	return r
}

// told are relations of every sort: empty, whole, of single pairs, of shifts, and such in which fact 0 makes others or is made.
func told() [][]int64 {
	list := [][]int64{
		allOf(0), allOf(127), allOf(1), allOf(64), {1, 2, 4, 8, 16, 32, 64}, {64, 32, 16, 8, 4, 2, 1}, {2, 4, 8, 16, 32, 64, 1}, {2, 4, 8, 16, 32, 64, 0},
		{127, 0, 0, 0, 0, 0, 0}, {0, 0, 0, 0, 0, 0, 127}, {127, 2, 4, 8, 16, 32, 64}, {1, 1, 1, 1, 1, 1, 1}, {0, 1, 1, 1, 1, 1, 1}, {126, 1, 1, 1, 1, 1, 1},
		{1, 0, 6, 8, 16, 32, 64}, {1, 8, 4, 8, 16, 32, 64}, {3, 0, 4, 8, 16, 32, 64}, {1, 2, 4, 8, 0, 0, 0}, {1, 0, 0, 0, 16, 32, 64}, {113, 2, 4, 8, 0, 0, 0},
		{1, 3, 7, 15, 31, 63, 127}, {127, 126, 124, 120, 112, 96, 64},
	}
	for i := range 7 {
		list = append(list, onePair(i, i), onePair(0, i), onePair(i, 0), onePair(i, 6-i))
	}
	return list
}

// relation draws a thin, a thick or a middling one.
func (d *draws) relation() []int64 {
	r := make([]int64, 7)
	much := 1 + d.below(9)
	for i := range r {
		for k := range 7 {
			if d.below(10) < much {
				r[i] += 1 << k
			}
		}
	}
	return r
}

// wrongRelations are not right, each in a way of its own.
func wrongRelations() [][]int64 {
	unit := []int64{1, 2, 4, 8, 16, 32, 64}
	list := [][]int64{nil, {}, {1}, unit[:6], append(slices.Clone(unit), 0), append(slices.Clone(unit), 127), allOf(0)[:6], make([]int64, 8), make([]int64, 14), make([]int64, 128), make([]int64, 1<<16)}
	for at := range 7 {
		for _, set := range append([]int64{-128, -127, -2, -1, 128, 129, 255, 256 + 1}, farNumbers...) {
			list = append(list, changed(unit, at, set), changed(allOf(0), at, set))
		}
	}
	return list
}

// checkRelation asks of one relation all that needs no other.
func checkRelation(t *testing.T, r []int64) {
	t.Helper()
	p := pairsOf(r)
	if !impl.RelOk(r) || !impl.Within(r, r) {
		t.Fatalf("%v: RelOk %v, Within itself %v", r, impl.RelOk(r), impl.Within(r, r))
	}
	if before, behind := impl.Compose(impl.Unit(), r), impl.Compose(r, impl.Unit()); !slices.Equal(before, r) || !slices.Equal(behind, r) {
		t.Fatalf("%v: behind Unit %v, ahead of it %v", r, before, behind)
	}
	if got := impl.Join(r, r); !slices.Equal(got, r) {
		t.Fatalf("%v: joined with itself %v", r, got)
	}
	for set := range int64(allSets) {
		if got, want := impl.Image(r, set), p.image(set); got != want {
			t.Fatalf("%v: Image of %d: %d, want %d", r, set, got, want)
		}
	}
}

// checkSets asks that Image of two sets together is what it is of each.
func checkSets(t *testing.T, r []int64, s, u int64) {
	t.Helper()
	if both, one, other := impl.Image(r, s|u), impl.Image(r, s), impl.Image(r, u); both != one|other {
		t.Fatalf("%v: Image of %d and %d: %d, of each %d, %d", r, s, u, both, one, other)
	}
}

func checkTwo(t *testing.T, a, b []int64) {
	t.Helper()
	pa, pb := pairsOf(a), pairsOf(b)
	c, j := impl.Compose(a, b), impl.Join(a, b)
	if want := composed(pa, pb).sets(); !slices.Equal(c, want) {
		t.Fatalf("Compose(%v, %v) = %v, want %v", a, b, c, want)
	}
	if want := joined(pa, pb).sets(); !slices.Equal(j, want) || !slices.Equal(impl.Join(b, a), want) {
		t.Fatalf("Join(%v, %v) = %v, the other way round %v, want %v", a, b, j, impl.Join(b, a), want)
	}
	if got, want := impl.Within(a, b), isWithin(pa, pb); got != want || got != slices.Equal(j, b) {
		t.Fatalf("Within(%v, %v) = %v, want %v; joined %v", a, b, got, want, j)
	}
	if !impl.RelOk(c) || !impl.RelOk(j) || !impl.Within(a, j) || !impl.Within(b, j) {
		t.Fatalf("%v, %v: composed %v, joined %v", a, b, c, j)
	}
}

// checkImages asks for Image of what two make, of every set.
func checkImages(t *testing.T, a, b []int64) {
	t.Helper()
	c, j := impl.Compose(a, b), impl.Join(a, b)
	for set := range int64(allSets) {
		if got, want := impl.Image(c, set), impl.Image(b, impl.Image(a, set)); got != want {
			t.Fatalf("%v, then %v: Image of %d: %d, one after the other %d", a, b, set, got, want)
		}
		if got, want := impl.Image(j, set), impl.Image(a, set)|impl.Image(b, set); got != want {
			t.Fatalf("%v with %v: Image of %d: %d, of each %d", a, b, set, got, want)
		}
	}
}

func checkThree(t *testing.T, a, b, c []int64) {
	t.Helper()
	if one, other := impl.Compose(impl.Compose(a, b), c), impl.Compose(a, impl.Compose(b, c)); len(one) != 7 || !slices.Equal(one, other) {
		t.Fatalf("%v, %v, %v: composed %v, the last two first %v", a, b, c, one, other)
	}
	if one, other := impl.Join(impl.Join(a, b), c), impl.Join(a, impl.Join(b, c)); len(one) != 7 || !slices.Equal(one, other) {
		t.Fatalf("%v, %v, %v: joined %v, the last two first %v", a, b, c, one, other)
	}
	if over, each := impl.Compose(a, impl.Join(b, c)), impl.Join(impl.Compose(a, b), impl.Compose(a, c)); !slices.Equal(over, each) {
		t.Fatalf("%v ahead of %v with %v: %v, of each %v", a, b, c, over, each)
	}
	if over, each := impl.Compose(impl.Join(a, b), c), impl.Join(impl.Compose(a, c), impl.Compose(b, c)); !slices.Equal(over, each) {
		t.Fatalf("%v with %v ahead of %v: %v, of each %v", a, b, c, over, each)
	}
}

// checkNoRelation asks for the fixed answers where wrong is one argument, and good the other, or wrong is both.
func checkNoRelation(t *testing.T, wrong, good []int64) {
	t.Helper()
	for _, two := range [][2][]int64{{wrong, good}, {good, wrong}, {wrong, wrong}} {
		if c, j := impl.Compose(two[0], two[1]), impl.Join(two[0], two[1]); len(c) != 0 || len(j) != 0 || impl.Within(two[0], two[1]) {
			t.Fatalf("%.200v, %v: Compose %v, Join %v, Within %v", wrong, good, c, j, impl.Within(two[0], two[1]))
		}
	}
}

// roomyNumbers is a copy with strangers in the spare room behind it.
func roomyNumbers(numbers []int64) []int64 {
	room := slices.Grow(slices.Clone(numbers), 3)
	spare := room[len(room):cap(room)]
	for i := range spare {
		spare[i] = int64(100 + i)
	}
	return room
}
