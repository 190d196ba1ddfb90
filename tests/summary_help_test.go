package tests

import (
	"reflect"
	"slices"
	"testing"

	"loop.example/g00291/impl"
)

// sums is the tests' own word on the relations of a program, [proc][fact][at]: what this fact alone at the procedure's entry
// makes ahead of the statement.
type sums [4][7][12]known

// ends tells what holds at the end of a procedure at whose entry k holds.
type ends func(proc int64, k known) known

// behindIn does what the statement says to what is known ahead of it, a call too.
func (k known) behindIn(client int64, s impl.Stmt, end ends) known {
	if s.Kind == impl.StCall {
		return k.backFrom(end(s.Y, k.inside(client)))
	}
	return k.behind(client, s)
}

// settle does every step of every procedure over and over again, fact by fact, the last statement first, until nothing more comes.
func (s *sums) settle(p impl.Program, client int64, end ends) {
	for i := range p.Procs {
		for fact := range s[i] {
			s[i][fact][0] = knownOf(1 << fact)
		}
	}
	for more := true; more; {
		more = false
		for i, one := range p.Procs {
			for fact := range s[i] {
				more = s.step(i, fact, one, client, end) || more
			}
		}
	}
}

func (s *sums) step(i, fact int, one impl.Proc, client int64, end ends) bool {
	more := false
	ahead := &s[i][fact]
	for from := len(one.Stmts) - 1; from >= 0; from-- {
		behind := ahead[from].behindIn(client, one.Stmts[from], end)
		for to := range one.Stmts {
			if isStep(one, int64(from), int64(to)) && ahead[to].with(behind) != ahead[to] {
				ahead[to] = ahead[to].with(behind)
				more = true
			}
		}
	}
	return more
}

// ahead is what holds ahead of a statement of a procedure at whose entry k holds.
func (s *sums) ahead(proc int64, at int, k known) known {
	var ahead known
	for fact := range int64(7) {
		if k.has(fact) {
			ahead = ahead.with(s[proc][fact][at])
		}
	}
	return ahead
}

func (s *sums) end(p impl.Program, proc int64, k known) known {
	var end known
	for at, stmt := range p.Procs[proc].Stmts {
		if stmt.Kind == impl.StBack {
			end = end.with(s.ahead(proc, at, k))
		}
	}
	return end
}

func (s *sums) tables(p impl.Program) [][]int64 {
	tables := make([][]int64, len(p.Procs))
	for i := range tables {
		for fact := range 7 {
			tables[i] = append(tables[i], s.end(p, int64(i), knownOf(1<<fact)).set())
		}
	}
	return tables
}

func (s *sums) inner(p impl.Program, proc int) [][]int64 {
	inner := make([][]int64, len(p.Procs[proc].Stmts))
	for at := range inner {
		for fact := range 7 {
			inner[at] = append(inner[at], s[proc][fact][at].set())
		}
	}
	return inner
}

// summed is the tests' own word on Tables and Inner: those of all procedures at once.
func summed(p impl.Program, client int64) *sums {
	s := &sums{}
	s.settle(p, client, func(proc int64, k known) known { return s.end(p, proc, k) })
	return s
}

// comeOf are the tables that come where what is called does as these tell.
func comeOf(p impl.Program, client int64, tables [][]int64) [][]int64 {
	var told [4]pairs
	for i, table := range tables {
		told[i] = pairsOf(table)
	}
	s := &sums{}
	s.settle(p, client, func(proc int64, k known) known { return knownOf(told[proc].image(k.set())) })
	return s.tables(p)
}

// isHeld is the tests' own word on Holds; there are as many tables as procedures, all right.
func isHeld(p impl.Program, client int64, tables [][]int64) bool {
	for i, comes := range comeOf(p, client, tables) {
		if !isWithin(pairsOf(comes), pairsOf(tables[i])) {
			return false
		}
	}
	return true
}

// heldFrom is the least that has these tables and Holds.
func heldFrom(p impl.Program, client int64, tables [][]int64) [][]int64 {
	for !isHeld(p, client, tables) {
		come := comeOf(p, client, tables)
		more := make([][]int64, len(tables))
		for i := range tables {
			more[i] = joined(pairsOf(tables[i]), pairsOf(come[i])).sets()
		}
		tables = more
	}
	return tables
}

// checkSums asks for Tables, and for Inner of every procedure and of those one beyond.
func checkSums(t *testing.T, p impl.Program, client int64) {
	t.Helper()
	own := summed(p, client)
	if got, want := impl.Tables(p, client), own.tables(p); !sameLists(got, want) {
		t.Fatalf("%v, client %d: Tables %v, want %v", p, client, got, want)
	}
	for i := range p.Procs {
		if got, want := impl.Inner(p, client, int64(i)), own.inner(p, i); !sameLists(got, want) {
			t.Fatalf("%v, client %d: Inner of %d: %v, want %v", p, client, i, got, want)
		}
	}
	for _, i := range []int64{-1, int64(len(p.Procs))} {
		if got := impl.Inner(p, client, i); len(got) != 0 {
			t.Fatalf("%v, client %d: Inner of %d: %v", p, client, i, got)
		}
	}
}

// checkRules asks what the chapter tells of relations, of what the program tells alone.
func checkRules(t *testing.T, p impl.Program, client int64) {
	t.Helper()
	tables := impl.Tables(p, client)
	for i, one := range p.Procs {
		inner := impl.Inner(p, client, int64(i))
		if len(inner) != len(one.Stmts) || !impl.Within(impl.Unit(), inner[0]) {
			t.Fatalf("%v, client %d: Inner of %d: %v", p, client, i, inner)
		}
		table := allOf(0)
		for at, s := range one.Stmts {
			behind := impl.Compose(inner[at], impl.Effect(p, client, s))
			for _, next := range impl.Next(one, int64(at)) {
				if !impl.Within(behind, inner[next]) {
					t.Fatalf("%v, client %d: Inner of %d: %v, but from %d to %d goes %v", p, client, i, inner, at, next, behind)
				}
			}
			if s.Kind == impl.StBack {
				table = impl.Join(table, inner[at])
			}
		}
		if !slices.Equal(tables[i], table) {
			t.Fatalf("%v, client %d: Tables %v, but of the StBacks of %d together %v", p, client, tables, i, table)
		}
	}
}

// checkEffects asks for Effect of every right statement, of calls by Tables.
func checkEffects(t *testing.T, p impl.Program, client int64) {
	t.Helper()
	tables := impl.Tables(p, client)
	for _, s := range rightStmts() {
		want := impl.Flow(client, s)
		if s.Kind == impl.StCall && s.Y < int64(len(p.Procs)) {
			want = callBy(client, tables[s.Y])
		} else if s.Kind == impl.StCall {
			want = nil
		}
		if got := impl.Effect(p, client, s); !slices.Equal(got, want) {
			t.Fatalf("%v, client %d: Effect of %v: %v, want %v", p, client, s, got, want)
		}
	}
}

func checkHolds(t *testing.T, p impl.Program, client int64, tables [][]int64, want bool) {
	t.Helper()
	if got := impl.Holds(p, client, tables); got != want {
		t.Fatalf("%.200v, client %d: Holds %.200v: %v", p, client, tables, got)
	}
}

// replaced is these tables with another one at one place.
func replaced(tables [][]int64, at int, table []int64) [][]int64 {
	tables = slices.Clone(tables)
	tables[at] = table
	return tables
}

// everyFact calls f with each place of these tables: which one, which fact of it, and which one it makes or does not.
func everyFact(tables [][]int64, f func(i, fact int, made int64)) {
	for i := range tables {
		for fact := range 7 {
			for made := range int64(7) {
				f(i, fact, made)
			}
		}
	}
}

// checkNothingLess asks that Tables Hold, and that nothing does that lacks one fact of them.
func checkNothingLess(t *testing.T, p impl.Program, client int64) {
	t.Helper()
	tables := impl.Tables(p, client)
	checkHolds(t, p, client, tables, true)
	everyFact(tables, func(i, fact int, made int64) {
		if set := tables[i][fact]; hasFact(set, made) {
			checkHolds(t, p, client, replaced(tables, i, changed(tables[i], fact, without(set, made))), false)
		}
	})
}

// checkOneMore asks of Tables with one fact more, each in turn, whether they Hold, and of the whole ones, which always do.
func checkOneMore(t *testing.T, p impl.Program, client int64) {
	t.Helper()
	tables := impl.Tables(p, client)
	everyFact(tables, func(i, fact int, made int64) {
		if set := tables[i][fact]; !hasFact(set, made) {
			more := replaced(tables, i, changed(tables[i], fact, set+1<<made))
			checkHolds(t, p, client, more, isHeld(p, client, more))
		}
	})
	checkHolds(t, p, client, slices.Repeat([][]int64{allOf(127)}, len(tables)), true)
}

// checkSummary asks all of it, of both clients.
func checkSummary(t *testing.T, p impl.Program) {
	t.Helper()
	for _, client := range bothClients {
		checkSums(t, p, client)
		checkRules(t, p, client)
		checkEffects(t, p, client)
		checkNothingLess(t, p, client)
		checkOneMore(t, p, client)
	}
}

// checkNoSums asks for the fixed answers where p or client is not as told.
func checkNoSums(t *testing.T, name string, p impl.Program, client int64) {
	t.Helper()
	if got := impl.Tables(p, client); len(got) != 0 {
		t.Fatalf("%s: %.200v, client %d: Tables %v", name, p, client, got)
	}
	for _, i := range nearAndFar(-1, 4) {
		if got := impl.Inner(p, client, i); len(got) != 0 {
			t.Fatalf("%s: %.200v, client %d: Inner of %d: %v", name, p, client, i, got)
		}
	}
	for _, s := range []impl.Stmt{skip(), mark(0), assign(1, 0), jump(0), call(0), call(1), call(3), back(), {}} {
		if got := impl.Effect(p, client, s); len(got) != 0 {
			t.Fatalf("%s: %.200v, client %d: Effect of %v: %v", name, p, client, s, got)
		}
	}
	for _, table := range [][]int64{allOf(0), allOf(127), impl.Unit(), nil} {
		for _, n := range []int{0, 1, min(len(p.Procs), 1000)} {
			checkHolds(t, p, client, slices.Repeat([][]int64{table}, n), false)
		}
	}
}

// checkNoSumsOfBoth asks for them of both clients.
func checkNoSumsOfBoth(t *testing.T, name string, p impl.Program) {
	t.Helper()
	for _, client := range bothClients {
		checkNoSums(t, name, p, client)
	}
}

// runs calls f with what holds at the end of each run of a procedure from this statement on, and see with what holds ahead of each
// place on the way there, those in what is called too. It ends where no procedure calls one that comes back to it, and no jump goes
// back.
func runs(p impl.Program, client int64, here impl.Place, k known, see func(here impl.Place, k known), f func(end known)) {
	see(here, k)
	one := p.Procs[here.Proc]
	goOn := func(k known) {
		for to := range int64(len(one.Stmts)) {
			if isStep(one, here.At, to) {
				runs(p, client, impl.Place{Proc: here.Proc, At: to}, k, see, f)
			}
		}
	}
	switch s := one.Stmts[here.At]; s.Kind {
	case impl.StBack:
		f(k)
	case impl.StCall:
		runs(p, client, impl.Place{Proc: s.Y}, k.inside(client), see, func(end known) { goOn(k.backFrom(end)) })
	default:
		goOn(k.behind(client, s))
	}
}

// run draws one run of a procedure, and calls f with what holds ahead of each of its own statements. It is false where the run did
// not end within as many statements as are left.
func (d *draws) run(p impl.Program, client, proc int64, k known, left *int, f func(at int64, k known)) (known, bool) {
	one := p.Procs[proc]
	for at := int64(0); *left > 0; {
		*left--
		f(at, k)
		s, back := one.Stmts[at], true
		switch s.Kind {
		case impl.StBack:
			return k, true
		case impl.StCall:
			var end known
			end, back = d.run(p, client, s.Y, k.inside(client), left, func(int64, known) {})
			k = k.backFrom(end)
		default:
			k = k.behind(client, s)
		}
		if !back {
			break
		}
		nexts := stmtsWhere(one, func(to int64) bool { return isStep(one, at, to) })
		at = nexts[d.below(len(nexts))]
	}
	return known{}, false
}

// onward draws a Program in which calls go to procedures behind and jumps to statements behind alone: every run of it ends.
func (d *draws) onward() impl.Program {
	procs := make([]impl.Proc, 1+d.below(3))
	for i := range procs {
		procs[i] = long(2 + d.below(6))
		last := len(procs[i].Stmts) - 1
		for at := range last {
			s := d.stmt(12, 4)
			switch {
			case s.Kind == impl.StJump:
				s = jump(int64(at + 1 + d.below(last-at)))
			case (s.Kind == impl.StCall || s.Kind == impl.StTest) && i < len(procs)-1:
				s = call(int64(i + 1 + d.below(len(procs)-1-i)))
			case s.Kind == impl.StCall:
				s = skip()
			}
			procs[i].Stmts[at] = s
		}
	}
	return program(procs...)
}

// spinning draws a Program that calls much, itself among others, and mostly has a way beside.
func (d *draws) spinning() impl.Program {
	procs := make([]impl.Proc, 1+d.below(4))
	for i := range procs {
		procs[i] = d.stirring()
		for at := range len(procs[i].Stmts) - 1 {
			switch s := &procs[i].Stmts[at]; {
			case d.below(3) == 0:
				*s = call(int64(d.below(len(procs))))
			case s.Kind == impl.StCall:
				*s = skip()
			}
		}
	}
	return program(procs...)
}

// twoProcs calls f with every Program of two procedures of three statements of these, the last one StBack.
func twoProcs(stmts []impl.Stmt, f func(p impl.Program)) {
	for _, a := range stmts {
		for _, b := range stmts {
			for _, c := range stmts {
				for _, d := range stmts {
					f(program(proc(a, b, back()), proc(c, d, back())))
				}
			}
		}
	}
}

// roomyTables is a copy with strangers in the spare room behind each list.
func roomyTables(tables [][]int64) [][]int64 {
	room := make([][]int64, 0, len(tables)+2)
	for _, table := range tables {
		room = append(room, roomyNumbers(table))
	}
	room[:cap(room)][len(room)] = []int64{4711}
	return room
}

// openedTables is a copy with the spare room behind the lists shown as part of them.
func openedTables(tables [][]int64) [][]int64 {
	tables = slices.Clone(tables[:cap(tables)])
	for i := range tables {
		tables[i] = slices.Clone(tables[i][:cap(tables[i])])
	}
	return tables
}

// tablesStayWhile asks that nothing of these tables is written, spare room included, while f runs.
func tablesStayWhile(t *testing.T, tables [][]int64, f func(tables [][]int64)) {
	t.Helper()
	room := roomyTables(tables)
	before := openedTables(room)
	f(room)
	if !reflect.DeepEqual(before, openedTables(room)) {
		t.Errorf("%v was changed to %v", before, openedTables(room))
	}
}
