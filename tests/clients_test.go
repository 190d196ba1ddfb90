package tests

import (
	"math"
	"reflect"
	"slices"
	"testing"

	"loop.example/g00291/impl"
)

func TestP7Constants(t *testing.T) {
	if impl.ClMark != 1 || impl.ClUnset != 2 {
		t.Error(impl.ClMark, impl.ClUnset)
	}
}

func TestP7WhatAStatementMakes(t *testing.T) {
	for _, c := range []struct {
		s           impl.Stmt
		mark, unset []int64
	}{
		{assign(0, 2), []int64{1, 0, 4, 10, 16, 32, 64}, []int64{1, 0, 4, 10, 16, 32, 64}},
		{assign(5, 0), []int64{1, 66, 4, 8, 16, 32, 0}, []int64{1, 66, 4, 8, 16, 32, 0}},
		{assign(0, 5), []int64{1, 0, 4, 8, 16, 32, 66}, []int64{1, 0, 4, 8, 16, 32, 66}},
		{assign(3, 3), []int64{1, 2, 4, 8, 16, 32, 64}, []int64{1, 2, 4, 8, 16, 32, 64}},
		{both(0, 2), []int64{1, 2, 4, 10, 16, 32, 64}, []int64{1, 2, 4, 10, 16, 32, 64}},
		{both(5, 0), []int64{1, 66, 4, 8, 16, 32, 64}, []int64{1, 66, 4, 8, 16, 32, 64}},
		{both(4, 4), []int64{1, 2, 4, 8, 16, 32, 64}, []int64{1, 2, 4, 8, 16, 32, 64}},
		{wipe(0), []int64{1, 0, 4, 8, 16, 32, 64}, []int64{1, 0, 4, 8, 16, 32, 64}},
		{wipe(5), []int64{1, 2, 4, 8, 16, 32, 0}, []int64{1, 2, 4, 8, 16, 32, 0}},
		{mark(0), []int64{3, 0, 4, 8, 16, 32, 64}, []int64{1, 0, 4, 8, 16, 32, 64}},
		{mark(2), []int64{9, 2, 4, 0, 16, 32, 64}, []int64{1, 2, 4, 0, 16, 32, 64}},
		{mark(5), []int64{65, 2, 4, 8, 16, 32, 0}, []int64{1, 2, 4, 8, 16, 32, 0}},
	} {
		if got := impl.Flow(impl.ClMark, c.s); !slices.Equal(got, c.mark) {
			t.Errorf("ClMark, %v: %v, want %v", c.s, got, c.mark)
		}
		if got := impl.Flow(impl.ClUnset, c.s); !slices.Equal(got, c.unset) {
			t.Errorf("ClUnset, %v: %v, want %v", c.s, got, c.unset)
		}
	}
}

func TestP7WhatWritesNothingIsUnit(t *testing.T) {
	unit := []int64{1, 2, 4, 8, 16, 32, 64}
	for _, s := range rightStmts() {
		switch s.Kind {
		case impl.StSkip, impl.StTest, impl.StJump, impl.StCall, impl.StBack:
			for _, client := range bothClients {
				if got := impl.Flow(client, s); !slices.Equal(got, unit) {
					t.Errorf("client %d, %v: %v", client, s, got)
				}
			}
		}
	}
}

func TestP7EveryFlowSetBySet(t *testing.T) {
	for _, client := range bothClients {
		for _, s := range rightStmts() {
			checkImage(t, "a statement", impl.Flow(client, s), func(k known) known { return k.behind(client, s) })
			checkLeaves(t, client, s)
		}
	}
}

// A set is no more than its facts: what a Flow makes of two sets together, the empty and the whole one too, is what it makes of each.
func TestP7SetsTogether(t *testing.T) {
	for _, client := range bothClients {
		for _, s := range rightStmts() {
			flow := impl.Flow(client, s)
			if got := impl.Image(flow, 0); got != 0 {
				t.Fatalf("client %d, %v makes %d of nothing", client, s, got)
			}
			for one := range int64(allSets) {
				for other := range int64(allSets) {
					checkSets(t, flow, one, other)
				}
			}
		}
	}
}

func TestP7WhoMakesTheFactOfX(t *testing.T) {
	for x := range int64(6) {
		for y := range int64(6) {
			for _, client := range bothClients {
				for _, c := range []struct {
					s    impl.Stmt
					want []int64
				}{
					{assign(x, y), rising(y + 1)}, {both(x, y), rising(x+1, y+1)}, {wipe(x), nil}, {ask(x), rising(x + 1)},
					{mark(x), map[int64][]int64{1: {0}, 2: nil}[client]},
				} {
					if got := makersOf(impl.Flow(client, c.s), x); !slices.Equal(got, c.want) {
						t.Errorf("client %d, %v: fact %d is made by %v, want %v", client, c.s, x+1, got, c.want)
					}
				}
			}
		}
	}
}

// Only what a mark does hangs on the client.
func TestP7WhereTheClientsDiffer(t *testing.T) {
	for _, s := range rightStmts() {
		one, other := impl.Flow(impl.ClMark, s), impl.Flow(impl.ClUnset, s)
		if alike := slices.Equal(one, other); alike != (s.Kind != impl.StMark) {
			t.Errorf("%v: %v, %v", s, one, other)
		}
	}
	if slices.Equal(impl.Enter(impl.ClMark), impl.Enter(impl.ClUnset)) || impl.Start(impl.ClMark) == impl.Start(impl.ClUnset) {
		t.Error("the clients begin alike")
	}
}

func TestP7OneAfterTheOther(t *testing.T) {
	stmts := rightStmts()
	for _, client := range bothClients {
		for _, one := range stmts {
			for _, other := range stmts {
				row := []impl.Stmt{one, other}
				checkImage(t, "two statements", flowAlong(client, row), func(k known) known { return k.behindAll(client, row) })
			}
		}
	}
}

func TestP7ManyRowsOfStatements(t *testing.T) {
	d := draws(7)
	for range 2000 {
		row := make([]impl.Stmt, d.below(20))
		for i := range row {
			row[i] = d.stmt(12, 4)
		}
		for _, client := range bothClients {
			checkImage(t, "a row", flowAlong(client, row), func(k known) known { return k.behindAll(client, row) })
			checkImage(t, "a call of a row", callBy(client, flowAlong(client, row)), func(k known) known {
				return k.backFrom(k.inside(client).behindAll(client, row))
			})
		}
	}
}

func TestP7InOutAndBeside(t *testing.T) {
	for _, c := range []struct {
		name      string
		got, want []int64
	}{
		{"Enter of ClMark", impl.Enter(impl.ClMark), []int64{1, 2, 4, 8, 0, 0, 0}},
		{"Enter of ClUnset", impl.Enter(impl.ClUnset), []int64{113, 2, 4, 8, 0, 0, 0}},
		{"Leave", impl.Leave(), []int64{1, 2, 4, 8, 0, 0, 0}},
		{"Keep", impl.Keep(), []int64{1, 0, 0, 0, 16, 32, 64}},
	} {
		if !slices.Equal(c.got, c.want) {
			t.Errorf("%s: %v, want %v", c.name, c.got, c.want)
		}
		for fact := range c.got {
			if got := impl.Image(c.got, 1<<fact); got != c.want[fact] {
				t.Errorf("%s: fact %d makes %d, want %d", c.name, fact, got, c.want[fact])
			}
		}
	}
	for _, client := range bothClients {
		checkImage(t, "Enter", impl.Enter(client), func(k known) known { return k.inside(client) })
	}
	checkImage(t, "Leave", impl.Leave(), func(k known) known { return known{always: k.always}.backFrom(k) })
	checkImage(t, "Keep", impl.Keep(), func(k known) known { return k.backFrom(known{}) })
}

func TestP7Start(t *testing.T) {
	if got := impl.Start(impl.ClMark); got != 1 {
		t.Errorf("ClMark begins with %d", got)
	}
	if got := impl.Start(impl.ClUnset); got != 127 {
		t.Errorf("ClUnset begins with %d", got)
	}
	for _, client := range bothClients {
		if got := impl.Image(impl.Unit(), impl.Start(client)); got != impl.Start(client) {
			t.Errorf("Start of client %d: %d is no set: %d", client, impl.Start(client), got)
		}
	}
}

// Of what is called that does nothing, a caller keeps all; of what never comes back, a caller keeps only what is beside the call.
func TestP7CallsOfWhatDoesNothing(t *testing.T) {
	for _, client := range bothClients {
		if got := callBy(client, impl.Unit()); !slices.Equal(got, impl.Unit()) {
			t.Errorf("client %d: a call of what does nothing: %v", client, got)
		}
		if got := callBy(client, allOf(0)); !slices.Equal(got, impl.Keep()) {
			t.Errorf("client %d: a call of what never comes back: %v", client, got)
		}
	}
	for _, two := range [][]int64{impl.Compose(impl.Leave(), impl.Keep()), impl.Compose(impl.Keep(), impl.Leave())} {
		if !slices.Equal(two, onePair(0, 0)) {
			t.Errorf("what comes back and what stays have in common %v", two)
		}
	}
}

// What is called sees nothing of a caller's own variables, and writes nothing into them, whatever it does.
func TestP7OwnVariablesAreApart(t *testing.T) {
	for _, client := range bothClients {
		for _, s := range rightStmts() {
			call := callBy(client, impl.Flow(client, s))
			checkImage(t, "a call of a statement", call, func(k known) known { return k.backFrom(k.inside(client).behind(client, s)) })
			for own := 4; own < 7; own++ {
				if call[own] != 1<<own {
					t.Errorf("client %d, %v: fact %d makes %d", client, s, own, call[own])
				}
			}
		}
	}
	// An own variable that nobody has set in there tells so when it is copied out; none is marked there at the beginning.
	if got := callBy(impl.ClUnset, impl.Flow(impl.ClUnset, assign(0, 4))); !slices.Equal(got, []int64{3, 0, 4, 8, 16, 32, 64}) {
		t.Errorf("ClUnset, a call of a copy from an own variable: %v", got)
	}
	if got := callBy(impl.ClMark, impl.Flow(impl.ClMark, assign(0, 4))); !slices.Equal(got, []int64{1, 0, 4, 8, 16, 32, 64}) {
		t.Errorf("ClMark, a call of a copy from an own variable: %v", got)
	}
	if got := callBy(impl.ClMark, impl.Flow(impl.ClMark, mark(1))); !slices.Equal(got, []int64{5, 2, 0, 8, 16, 32, 64}) {
		t.Errorf("ClMark, a call of a mark: %v", got)
	}
}

func TestP7EdgesOfTheClient(t *testing.T) {
	for _, client := range nearAndFar(-3, 12) {
		is := client == 1 || client == 2
		for _, s := range rightStmts() {
			if got := impl.Flow(client, s); (len(got) == 7) != is || !is && len(got) != 0 {
				t.Fatalf("Flow(%d, %v) = %v", client, s, got)
			}
		}
		if got := impl.Enter(client); (len(got) == 7) != is || !is && len(got) != 0 {
			t.Errorf("Enter(%d) = %v", client, got)
		}
		if got := impl.Start(client); (got > 0) != is || !is && got != -1 {
			t.Errorf("Start(%d) = %d", client, got)
		}
	}
}

// Every Kind, X and Y, right or not, of every client, one or none.
func TestP7EdgesOfTheStatement(t *testing.T) {
	for _, kind := range nearAndFar(-3, 14) {
		roomX, roomY := rooms(kind)
		for _, x := range nearAndFar(-3, 15) {
			for _, y := range nearAndFar(-3, 15) {
				s := impl.Stmt{Kind: kind, X: x, Y: y}
				right := x >= 0 && x < roomX && y >= 0 && y < roomY
				for client := int64(-1); client <= 4; client++ {
					is := right && (client == 1 || client == 2)
					if got := impl.Flow(client, s); (len(got) == 7) != is || !is && len(got) != 0 {
						t.Fatalf("Flow(%d, %v) = %v", client, s, got)
					}
				}
			}
		}
	}
}

func TestP7WrongInOneField(t *testing.T) {
	wrong := []impl.Stmt{
		{}, {Kind: 10}, {Kind: -1}, {Kind: math.MaxInt64}, {Kind: math.MinInt64}, {Kind: 0, X: 1}, {Kind: 10, X: 1, Y: 2},
		assign(6, 0), assign(-1, 0), assign(0, 6), assign(0, -1), both(6, 0), both(-1, 0), both(0, 6), both(0, -1),
		wipe(6), wipe(-1), mark(6), mark(-1), ask(6), ask(-1), jump(12), jump(-1), call(4), call(-1),
		{Kind: impl.StSkip, X: 1}, {Kind: impl.StSkip, Y: 1}, {Kind: impl.StClear, Y: 1}, {Kind: impl.StMark, Y: 1}, {Kind: impl.StTest, Y: 1},
		{Kind: impl.StJump, X: 1}, {Kind: impl.StCall, X: 1}, {Kind: impl.StBack, X: 1}, {Kind: impl.StBack, Y: 1},
	}
	for _, far := range farNumbers {
		wrong = append(wrong, assign(far, 0), assign(0, far), both(far, 0), both(0, far), wipe(far), mark(far), ask(far), jump(far), call(far))
	}
	for _, s := range wrong {
		for _, client := range nearAndFar(-1, 4) {
			checkNoFlow(t, client, s)
		}
	}
	for _, s := range []impl.Stmt{assign(0, 0), assign(5, 5), both(0, 5), both(5, 0), wipe(5), mark(5), ask(5), jump(11), call(3)} {
		for _, client := range bothClients {
			checkRelation(t, impl.Flow(client, s))
		}
	}
}

func TestP21ClientsAnswersAreNewMemory(t *testing.T) {
	for _, client := range bothClients {
		for _, s := range rightStmts() {
			answers, unit := clientAnswers(client, s), impl.Unit()
			var want [][]int64
			lie := liesAt(unit)
			for i, got := range answers {
				if len(got) != 7 || overlap(lie, liesAt(got)) {
					t.Fatalf("client %d, %v: answer %d shares memory: %v", client, s, i, got)
				}
				lie = append(lie, liesAt(got)...)
				want = append(want, slices.Clone(got))
			}
			for _, got := range answers {
				spoilNumbers(got)
			}
			if again := clientAnswers(client, s); !sameLists(again, want) || !slices.Equal(impl.Unit(), unit) || unit[6] != 64 {
				t.Fatalf("client %d, %v: %v, once written over %v", client, s, want, again)
			}
		}
	}
}

func TestP21ClientsArgumentsStay(t *testing.T) {
	wrong := []impl.Stmt{{}, {Kind: 10}, assign(6, 0), assign(0, -1), mark(6), {Kind: impl.StBack, X: 1}, {Kind: math.MinInt64, X: math.MaxInt64, Y: math.MinInt64}}
	all := append(rightStmts(), wrong...)
	p := program(proc(all...))
	for _, client := range nearAndFar(-1, 4) {
		staysWhile(t, "statements", p, func(p impl.Program) {
			for _, s := range p.Procs[0].Stmts {
				for _, list := range clientAnswers(client, s) {
					spoilNumbers(list)
				}
				impl.Start(client)
			}
		})
	}
	if !reflect.DeepEqual(p, program(proc(append(rightStmts(), wrong...)...))) {
		t.Error("statements were changed")
	}
}
