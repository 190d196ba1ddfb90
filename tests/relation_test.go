package tests

import (
	"slices"
	"testing"

	"loop.example/g00291/impl"
)

func TestP6Unit(t *testing.T) {
	if got := impl.Unit(); !slices.Equal(got, []int64{1, 2, 4, 8, 16, 32, 64}) {
		t.Fatal(got)
	}
	for set := range int64(allSets) {
		if got := impl.Image(impl.Unit(), set); got != set {
			t.Errorf("Image of %d: %d", set, got)
		}
	}
	checkRelation(t, impl.Unit())
}

func TestP6WhatIsMade(t *testing.T) {
	a := []int64{1, 0, 6, 8, 16, 32, 64} // fact 2 makes 1 and 2, fact 1 nothing
	b := []int64{1, 8, 4, 0, 16, 32, 64} // fact 1 makes 3, fact 3 nothing
	for _, c := range []struct {
		r         []int64
		set, want int64
	}{
		{a, 0, 0}, {a, 1, 1}, {a, 2, 0}, {a, 4, 6}, {a, 5, 7}, {a, 6, 6}, {a, 8, 8}, {a, 64, 64}, {a, 127, 127}, {a, 121, 121},
		{b, 2, 8}, {b, 4, 4}, {b, 6, 12}, {b, 8, 0}, {b, 10, 8}, {b, 127, 125},
		{[]int64{126, 1, 0, 0, 0, 0, 0}, 1, 126}, {[]int64{126, 1, 0, 0, 0, 0, 0}, 2, 1}, {[]int64{126, 1, 0, 0, 0, 0, 0}, 3, 127}, {[]int64{126, 1, 0, 0, 0, 0, 0}, 124, 0},
		{allOf(0), 127, 0}, {allOf(127), 0, 0}, {allOf(127), 64, 127}, {onePair(6, 0), 64, 1}, {onePair(6, 0), 63, 0}, {onePair(0, 6), 1, 64}, {onePair(0, 6), 126, 0},
	} {
		if got := impl.Image(c.r, c.set); got != c.want {
			t.Errorf("Image(%v, %d) = %d, want %d", c.r, c.set, got, c.want)
		}
	}
	if got := impl.Compose(a, b); !slices.Equal(got, []int64{1, 0, 12, 0, 16, 32, 64}) {
		t.Errorf("first a, then b: %v", got)
	}
	if got := impl.Compose(b, a); !slices.Equal(got, []int64{1, 8, 6, 0, 16, 32, 64}) {
		t.Errorf("first b, then a: %v", got)
	}
	if got := impl.Join(a, b); !slices.Equal(got, []int64{1, 8, 6, 8, 16, 32, 64}) {
		t.Errorf("either: %v", got)
	}
	if impl.Within(a, b) || impl.Within(b, a) {
		t.Error("neither makes all that the other makes")
	}
}

func TestP6EmptyAndWhole(t *testing.T) {
	empty, all := allOf(0), allOf(127)
	for _, r := range told() {
		if got, back := impl.Compose(empty, r), impl.Compose(r, empty); !slices.Equal(got, empty) || !slices.Equal(back, empty) {
			t.Errorf("%v: behind nothing %v, ahead of it %v", r, got, back)
		}
		if !slices.Equal(impl.Join(r, empty), r) || !slices.Equal(impl.Join(r, all), all) {
			t.Errorf("%v: joined %v, %v", r, impl.Join(r, empty), impl.Join(r, all))
		}
		if !impl.Within(empty, r) || !impl.Within(r, all) {
			t.Errorf("%v: not between nothing and all", r)
		}
		if impl.Within(r, empty) != slices.Equal(r, empty) || impl.Within(all, r) != slices.Equal(r, all) {
			t.Errorf("%v: within nothing %v, has all %v", r, impl.Within(r, empty), impl.Within(all, r))
		}
	}
	for _, r := range [][]int64{empty, all} {
		checkRelation(t, r)
	}
}

// What facts make is told of each fact alone: so every pair of facts, and every two and three such pairs, show each rule.
func TestP6EveryPairOfFacts(t *testing.T) {
	var single [][]int64
	for i := range 7 {
		for k := range 7 {
			single = append(single, onePair(i, k))
		}
	}
	for _, a := range single {
		checkRelation(t, a)
		for _, b := range single {
			checkTwo(t, a, b)
			for _, c := range single {
				checkThree(t, a, b, c)
			}
		}
	}
}

func TestP6EveryTwoSets(t *testing.T) {
	d := draws(6)
	for _, r := range append(told(), d.relation(), d.relation(), d.relation(), d.relation()) {
		for s := range int64(allSets) {
			for u := range int64(allSets) {
				checkSets(t, r, s, u)
			}
		}
	}
}

func TestP6EverySort(t *testing.T) {
	for _, a := range told() {
		checkRelation(t, a)
		for _, b := range told() {
			checkTwo(t, a, b)
			checkImages(t, a, b)
			for _, c := range told() {
				checkThree(t, a, b, c)
			}
		}
	}
}

func TestP6ManyRelations(t *testing.T) {
	d := draws(66)
	for range 4000 {
		a, b, c := d.relation(), d.relation(), d.relation()
		checkRelation(t, a)
		checkTwo(t, a, b)
		checkImages(t, a, b)
		checkThree(t, a, b, c)
		checkSets(t, c, int64(d.below(allSets)), int64(d.below(allSets)))
	}
}

// Who makes more makes no less of it ahead of or behind another one.
func TestP6MoreMakesMore(t *testing.T) {
	d := draws(67)
	for range 2000 {
		a, b, c := d.relation(), d.relation(), d.relation()
		more := impl.Join(a, b)
		if !impl.Within(a, more) || !impl.Within(impl.Compose(a, c), impl.Compose(more, c)) || !impl.Within(impl.Compose(c, a), impl.Compose(c, more)) {
			t.Fatalf("%v, %v, %v", a, b, c)
		}
		if impl.Within(more, a) != slices.Equal(more, a) {
			t.Fatalf("%v and %v: Within %v", more, a, impl.Within(more, a))
		}
	}
}

// One fact more at any one place of either is seen by Within.
func TestP6WithinByOneFact(t *testing.T) {
	for _, r := range [][]int64{impl.Unit(), allOf(0), {1, 0, 6, 8, 16, 32, 64}, {0, 127, 0, 127, 0, 127, 0}} {
		for at := range 7 {
			for k := range 7 {
				more := changed(r, at, r[at]|1<<k)
				if !impl.Within(r, more) || impl.Within(more, r) != slices.Equal(more, r) {
					t.Errorf("%v, %v: %v, %v", r, more, impl.Within(r, more), impl.Within(more, r))
				}
			}
		}
	}
}

func TestP6EdgesOfTheSets(t *testing.T) {
	for _, r := range [][]int64{impl.Unit(), allOf(0), allOf(127)} {
		for at := range 7 {
			for set := range int64(allSets) {
				one := changed(r, at, set)
				checkRelation(t, one)
				checkTwo(t, one, r)
				checkTwo(t, r, one)
			}
			for _, set := range append([]int64{-128, -2, -1, 128, 129, 255, 256}, farNumbers...) {
				one := changed(r, at, set)
				if impl.RelOk(one) {
					t.Errorf("RelOk of %v", one)
				}
				checkNoRelation(t, one, r)
				if impl.Image(one, 0) != -1 || impl.Image(one, 127) != -1 || impl.Image(one, 1<<at) != -1 {
					t.Errorf("Image of %v", one)
				}
			}
		}
	}
}

func TestP6EdgesOfTheAsked(t *testing.T) {
	for _, r := range told() {
		if impl.Image(r, 0) != 0 || impl.Image(r, 127) != r[0]|r[1]|r[2]|r[3]|r[4]|r[5]|r[6] {
			t.Errorf("%v: Image of 0 %d, of 127 %d", r, impl.Image(r, 0), impl.Image(r, 127))
		}
		for _, set := range append([]int64{-128, -127, -2, -1, 128, 129, 255, 256}, farNumbers...) {
			if got := impl.Image(r, set); got != -1 {
				t.Errorf("%v: Image of %d: %d", r, set, got)
			}
		}
	}
}

func TestP6EdgesOfTheLength(t *testing.T) {
	for _, set := range []int64{0, 1, 127} {
		for n := range 20 {
			r := slices.Repeat([]int64{set}, n)
			if impl.RelOk(r) != (n == 7) {
				t.Errorf("RelOk of %d sets: %v", n, impl.RelOk(r))
			}
			if n == 7 {
				checkRelation(t, r)
				continue
			}
			checkNoRelation(t, r, allOf(set))
			if impl.Image(r, 0) != -1 || impl.Image(r, 1) != -1 {
				t.Errorf("Image of %d sets: %d, %d", n, impl.Image(r, 0), impl.Image(r, 1))
			}
		}
	}
}

// The room behind a list is none of it: 6 sets with a 7th one there are 6, and 7 with a wrong one behind them are right.
func TestP6TheRoomBehindIsNoPart(t *testing.T) {
	unit := impl.Unit()
	if impl.RelOk(unit[:6]) || impl.Image(unit[:6], 1) != -1 || len(impl.Compose(unit[:6], unit)) != 0 || len(impl.Join(unit, unit[:6])) != 0 {
		t.Error("6 sets of 7")
	}
	room := append(impl.Unit(), 128)[:7]
	checkRelation(t, room)
	checkTwo(t, room, unit)
}

func TestP6WrongRelations(t *testing.T) {
	for _, wrong := range wrongRelations() {
		if impl.RelOk(wrong) {
			t.Errorf("RelOk of %v", wrong)
		}
		for _, good := range [][]int64{impl.Unit(), allOf(0), allOf(127)} {
			checkNoRelation(t, wrong, good)
		}
		for _, set := range nearAndFar(-2, 129) {
			if got := impl.Image(wrong, set); got != -1 {
				t.Errorf("Image of %.200v, %d: %d", wrong, set, got)
			}
		}
		for _, other := range [][]int64{nil, {}, allOf(-1), make([]int64, 8)} {
			checkNoRelation(t, wrong, other)
		}
	}
}

func TestP21RelationsArgumentsStay(t *testing.T) {
	lists := append(told(), wrongRelations()...)
	for _, one := range lists {
		for _, two := range [][]int64{impl.Unit(), allOf(127), nil, {1, 2}, allOf(128), make([]int64, 8)} {
			a, b := roomyNumbers(one), roomyNumbers(two)
			wasA, wasB := slices.Clone(a[:cap(a)]), slices.Clone(b[:cap(b)])
			for _, asked := range [][2][]int64{{a, b}, {b, a}, {a, a}, {b, b}} {
				impl.RelOk(asked[0])
				impl.Image(asked[0], 127)
				impl.Within(asked[0], asked[1])
				spoilNumbers(impl.Compose(asked[0], asked[1]))
				spoilNumbers(impl.Join(asked[0], asked[1]))
			}
			if !slices.Equal(a[:cap(a)], wasA) || !slices.Equal(b[:cap(b)], wasB) {
				t.Fatalf("%v, %v were changed to %v, %v", wasA, wasB, a[:cap(a)], b[:cap(b)])
			}
		}
	}
}

func TestP21RelationsAnswersAreNewMemory(t *testing.T) {
	for _, one := range told() {
		r, unit, empty := roomyNumbers(one), impl.Unit(), allOf(0)
		lie := slices.Concat(liesAt(r), liesAt(unit), liesAt(empty))
		answers := [][]int64{
			impl.Unit(), impl.Unit(), impl.Compose(r, unit), impl.Compose(unit, r), impl.Compose(r, r), impl.Compose(r, unit), impl.Join(r, r), impl.Join(r, empty),
			impl.Join(empty, r), impl.Join(r, r), impl.Compose(empty, r), impl.Compose(unit, unit), impl.Join(unit, unit),
		}
		for i, got := range answers {
			if len(got) != 7 || overlap(lie, liesAt(got)) {
				t.Fatalf("%v: answer %d shares memory: %v", r, i, got)
			}
			lie = append(lie, liesAt(got)...)
		}
		for _, got := range answers {
			spoilNumbers(got)
		}
		if !slices.Equal(impl.Unit(), unit) || !slices.Equal(unit, []int64{1, 2, 4, 8, 16, 32, 64}) || !slices.Equal(r, one) {
			t.Fatalf("%v: Unit %v, %v", r, unit, impl.Unit())
		}
		checkRelation(t, r)
	}
}
