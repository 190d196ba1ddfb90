package tests

import (
	"fmt"
	"math"
	"slices"
	"testing"

	"loop.example/g00291/impl"
)

// held is what is told of a program and a client.
type held struct {
	entries []int64
	facts   [][]int64
	tests   []impl.Place
}

type placesCase struct {
	name        string
	p           impl.Program
	mark, unset held
	nowhere     []impl.Place
}

func checkPlacesCases(t *testing.T, cases []placesCase) {
	t.Helper()
	for _, c := range cases {
		for client, want := range map[int64]held{impl.ClMark: c.mark, impl.ClUnset: c.unset} {
			if got := impl.Entries(c.p, client); !slices.Equal(got, want.entries) {
				t.Errorf("%s: client %d: Entries %v, want %v", c.name, client, got, want.entries)
			}
			if got := impl.Facts(c.p, client); !sameLists(got, want.facts) {
				t.Errorf("%s: client %d: Facts %v, want %v", c.name, client, got, want.facts)
			}
			if got := impl.Tests(c.p, client); !slices.Equal(got, want.tests) {
				t.Errorf("%s: client %d: Tests %v, want %v", c.name, client, got, want.tests)
			}
		}
		if got := impl.Nowhere(c.p); !slices.Equal(got, c.nowhere) {
			t.Errorf("%s: Nowhere %v, want %v", c.name, got, c.nowhere)
		}
		checkAllPlaces(t, c.p)
	}
}

// fromTwo is called from two places: variable 0 is marked ahead of the one, 1 and 2 ahead of the other.
func fromTwo() impl.Program {
	return program(proc(mark(0), call(1), wipe(0), mark(2), call(1), ask(1), back()), proc(assign(1, 0), ask(1), back()))
}

// chain hands on by one variable from each to the next one, and each has variables of its own.
func chain() impl.Program {
	return program(
		proc(mark(0), mark(3), call(1), ask(2), ask(3), back()),
		proc(assign(1, 0), mark(4), call(2), ask(4), ask(3), back()),
		proc(assign(2, 1), ask(3), ask(4), back()),
	)
}

func TestP11Calls(t *testing.T) {
	checkPlacesCases(t, []placesCase{
		{"nobody calls", program(proc(mark(0), ask(0), ask(1), back()), proc(ask(0), back())),
			held{[]int64{1, 0}, [][]int64{{1, 3, 3, 3}, {0, 0}}, []impl.Place{{Proc: 0, At: 1}}},
			held{[]int64{127, 0}, [][]int64{{127, 125, 125, 125}, {0, 0}}, []impl.Place{{Proc: 0, At: 2}}},
			[]impl.Place{{Proc: 1, At: 0}, {Proc: 1, At: 1}}},
		{"a call that nobody comes to", program(proc(mark(0), back(), call(1), back()), proc(ask(0), back())),
			held{[]int64{1, 0}, [][]int64{{1, 3, 0, 0}, {0, 0}}, nil},
			held{[]int64{127, 0}, [][]int64{{127, 125, 0, 0}, {0, 0}}, nil},
			[]impl.Place{{Proc: 0, At: 2}, {Proc: 0, At: 3}, {Proc: 1, At: 0}, {Proc: 1, At: 1}}},
		{"from two places", fromTwo(),
			held{[]int64{1, 15}, [][]int64{{1, 3, 7, 5, 13, 9, 9}, {15, 15, 15}}, []impl.Place{{Proc: 1, At: 1}}},
			held{[]int64{127, 125}, [][]int64{{127, 125, 121, 121, 113, 113, 113}, {125, 121, 121}}, nil}, nil},
		{"a chain", chain(),
			held{[]int64{1, 3, 7}, [][]int64{{1, 3, 19, 31, 31, 31}, {3, 7, 39, 47, 47, 47}, {7, 15, 15, 15}}, []impl.Place{{Proc: 0, At: 3}, {Proc: 0, At: 4}, {Proc: 1, At: 3}}},
			held{[]int64{127, 125, 121}, [][]int64{{127, 125, 109, 97, 97, 97}, {125, 121, 89, 81, 81, 81}, {121, 113, 113, 113}}, []impl.Place{{Proc: 1, At: 4}, {Proc: 2, At: 1}, {Proc: 2, At: 2}}}, nil},
		{"from one that nobody calls", program(proc(mark(0), call(2), back()), proc(mark(1), call(2), ask(1), back()), proc(ask(0), ask(1), back())),
			held{[]int64{1, 0, 3}, [][]int64{{1, 3, 3}, {0, 0, 0, 0}, {3, 3, 3}}, []impl.Place{{Proc: 2, At: 0}}},
			held{[]int64{127, 0, 125}, [][]int64{{127, 125, 125}, {0, 0, 0, 0}, {125, 125, 125}}, []impl.Place{{Proc: 2, At: 1}}},
			[]impl.Place{{Proc: 1, At: 0}, {Proc: 1, At: 1}, {Proc: 1, At: 2}, {Proc: 1, At: 3}}},
		{"behind one that never comes back", program(proc(call(1), mark(0), call(2), back()), calling(1), proc(ask(0), back())),
			held{[]int64{1, 1, 3}, [][]int64{{1, 1, 3, 3}, {1, 1}, {3, 3}}, []impl.Place{{Proc: 2, At: 0}}},
			held{[]int64{127, 127, 113}, [][]int64{{127, 113, 113, 113}, {127, 113}, {113, 113}}, nil}, nil},
		{"one that goes back to its beginning", program(calling(1), fromTheTop()),
			held{[]int64{1, 1}, [][]int64{{1, 7}, {7, 7, 7, 7}}, nil},
			held{[]int64{127, 127}, [][]int64{{127, 125}, {127, 127, 125, 125}}, nil}, nil},
	})
}

func TestP11RoundAndRound(t *testing.T) {
	checkPlacesCases(t, []placesCase{
		{"itself, with a way that ends", program(proc(mark(0), call(1), ask(2), back()), proc(jump(4), assign(2, 1), assign(1, 0), call(1), ask(2), back())),
			held{[]int64{1, 15}, [][]int64{{1, 3, 15, 15}, {15, 15, 15, 15, 15, 15}}, []impl.Place{{Proc: 0, At: 2}, {Proc: 1, At: 4}}},
			held{[]int64{127, 125}, [][]int64{{127, 125, 125, 125}, {125, 125, 125, 121, 125, 125}}, []impl.Place{{Proc: 0, At: 2}, {Proc: 1, At: 4}}}, nil},
		{"itself, without a way that ends", alone(mark(0), mark(3), call(0), ask(3), ask(0), back()),
			held{[]int64{3}, [][]int64{{3, 3, 19, 17, 17, 17}}, []impl.Place{{Proc: 0, At: 3}}},
			held{[]int64{127}, [][]int64{{127, 125, 109, 97, 97, 97}}, nil}, nil},
		{"two, with a way that ends", program(proc(ask(1), jump(4), mark(1), call(1), back()), proc(assign(2, 1), call(0), ask(2), back())),
			held{[]int64{13, 13}, [][]int64{{13, 13, 13, 13, 13}, {13, 13, 13, 13}}, []impl.Place{{Proc: 0, At: 0}, {Proc: 1, At: 2}}},
			held{[]int64{127, 123}, [][]int64{{127, 127, 127, 123, 127}, {123, 115, 115, 115}}, []impl.Place{{Proc: 0, At: 0}}}, nil},
		{"three, with a way that ends", program(proc(call(1), ask(2), back()), proc(jump(2), call(2), ask(1), back()), proc(assign(1, 0), mark(0), call(0), back())),
			held{[]int64{7, 7, 7}, [][]int64{{7, 7, 7}, {7, 7, 7, 7}, {7, 7, 7, 7}}, []impl.Place{{Proc: 1, At: 2}}},
			held{[]int64{127, 127, 127}, [][]int64{{127, 127, 127}, {127, 127, 127, 127}, {127, 127, 125, 125}}, []impl.Place{{Proc: 0, At: 1}, {Proc: 1, At: 2}}}, nil},
		{"three, without a way that ends", program(proc(mark(0), call(1), ask(0), back()), proc(mark(3), call(2), ask(3), back()), proc(mark(1), call(0), ask(1), back())),
			held{[]int64{7, 7, 7}, [][]int64{{7, 7, 1, 1}, {7, 23, 17, 17}, {7, 7, 1, 1}}, []impl.Place{{Proc: 1, At: 2}}},
			held{[]int64{127, 125, 125}, [][]int64{{127, 125, 113, 113}, {125, 109, 97, 97}, {125, 121, 113, 113}}, nil}, nil},
	})
	for _, p := range append(allSorts(), callers()) {
		checkAllPlaces(t, p)
	}
}

// checkIsSolved asks of a program without calls that Facts of procedure 0 are Solved from Start, and those of the others 0.
func checkIsSolved(t *testing.T, p impl.Program) {
	t.Helper()
	for _, client := range bothClients {
		start := impl.Start(client)
		entries, sets := impl.Entries(p, client), impl.Facts(p, client)
		if want := impl.Solved(p.Procs[0], client, start); entries[0] != start || !slices.Equal(sets[0], want) {
			t.Fatalf("%v, client %d: Entries %v, Facts %v, Solved %v", p, client, entries, sets, want)
		}
		for i, one := range p.Procs[1:] {
			if entries[i+1] != 0 || !slices.Equal(sets[i+1], make([]int64, len(one.Stmts))) {
				t.Fatalf("%v, client %d: Entries %v, Facts %v", p, client, entries, sets)
			}
		}
	}
	reached := impl.Reached(p.Procs[0])
	want := where(p, func(i, at int64, _ impl.Stmt) bool { return i > 0 || !slices.Contains(reached, at) })
	if got := impl.Nowhere(p); !slices.Equal(got, want) {
		t.Fatalf("%v: Nowhere %v, want %v", p, got, want)
	}
}

func TestP11WithoutACallIsSolved(t *testing.T) {
	for _, c := range ordinary {
		for n := range 4 {
			p := withoutCalls(program(append([]impl.Proc{c.p}, slices.Repeat([]impl.Proc{carrying()}, n)...)...))
			checkIsSolved(t, p)
			checkAllPlaces(t, p)
			if c.name == "calls" {
				continue
			}
			if mark, unset := impl.Facts(p, impl.ClMark)[0], impl.Facts(p, impl.ClUnset)[0]; !slices.Equal(mark, c.mark) || !slices.Equal(unset, c.unset) {
				t.Errorf("%s: %v, %v, want %v, %v", c.name, mark, unset, c.mark, c.unset)
			}
		}
	}
	for n := 1; n <= 4; n++ {
		writingProcs(n, func(p impl.Proc) { checkIsSolved(t, program(p, long(2))) })
	}
	d := draws(110)
	for range 1500 {
		checkIsSolved(t, withoutCalls(d.program()))
		checkIsSolved(t, withoutCalls(d.spinning()))
	}
}

// Nowhere and Tests are by number, however the calls go.
func TestP11PlacesInOrder(t *testing.T) {
	tests := []impl.Stmt{ask(0), ask(1), ask(2), ask(0), back(), ask(0), back()}
	p := program(proc(mark(0), call(3), back(), ask(0), back()), proc(tests...), proc(append([]impl.Stmt{call(1)}, tests...)...), proc(append([]impl.Stmt{ask(0), call(2)}, tests...)...))
	held := []impl.Place{{Proc: 1, At: 0}, {Proc: 1, At: 3}, {Proc: 2, At: 1}, {Proc: 2, At: 4}, {Proc: 3, At: 0}, {Proc: 3, At: 2}, {Proc: 3, At: 5}}
	unset := []impl.Place{{Proc: 1, At: 1}, {Proc: 1, At: 2}, {Proc: 2, At: 2}, {Proc: 2, At: 3}, {Proc: 3, At: 3}, {Proc: 3, At: 4}}
	nowhere := []impl.Place{{Proc: 0, At: 3}, {Proc: 0, At: 4}, {Proc: 1, At: 5}, {Proc: 1, At: 6}, {Proc: 2, At: 6}, {Proc: 2, At: 7}, {Proc: 3, At: 7}, {Proc: 3, At: 8}}
	for range 50 {
		if m, u, n := impl.Tests(p, impl.ClMark), impl.Tests(p, impl.ClUnset), impl.Nowhere(p); !slices.Equal(m, held) || !slices.Equal(u, unset) || !slices.Equal(n, nowhere) {
			t.Fatalf("Tests %v, %v, Nowhere %v", m, u, n)
		}
	}
	checkAllPlaces(t, p)
}

// Every variable, tested by itself where it alone is marked, and where it alone is set.
func TestP11TestsOfEachVariable(t *testing.T) {
	for marked := range int64(6) {
		for tested := range int64(6) {
			one := proc(mark(marked), ask(tested), back())
			for i, p := range []impl.Program{program(one), program(calling(1), one)} {
				here := []impl.Place{{Proc: int64(i), At: 1}}
				if got := impl.Tests(p, impl.ClMark); slices.Equal(got, here) != (marked == tested) || marked != tested && len(got) != 0 {
					t.Errorf("%v: %v", p, got)
				}
				if got := impl.Tests(p, impl.ClUnset); slices.Equal(got, here) != (marked != tested) || marked == tested && len(got) != 0 {
					t.Errorf("%v: %v", p, got)
				}
			}
		}
	}
}

func TestP11AskedTold(t *testing.T) {
	for _, c := range []struct {
		p                      impl.Program
		client, proc, at, fact int64
		want                   bool
	}{
		{chain(), 1, 0, 1, 1, true}, {chain(), 1, 0, 0, 1, false}, {chain(), 1, 0, 3, 3, true}, {chain(), 1, 0, 3, 4, true}, {chain(), 1, 0, 2, 3, false},
		{chain(), 1, 1, 3, 5, true}, {chain(), 1, 1, 3, 4, false}, {chain(), 1, 2, 0, 3, false}, {chain(), 1, 2, 3, 3, true}, {chain(), 1, 2, 3, 5, false},
		{chain(), 2, 0, 0, 1, true}, {chain(), 2, 0, 0, 6, true}, {chain(), 2, 0, 1, 1, false}, {chain(), 2, 1, 0, 4, true}, {chain(), 2, 0, 2, 4, false}, {chain(), 2, 2, 3, 6, true},
		{chain(), 1, 0, 0, 0, false}, {chain(), 2, 0, 0, 0, false}, {chain(), 2, 0, 0, 7, false}, {chain(), 2, 3, 0, 1, false}, {chain(), 2, 2, 4, 5, false}, {chain(), 2, 0, 6, 6, false},
		{fromTwo(), 1, 1, 0, 2, true}, {fromTwo(), 1, 0, 5, 2, false}, {fromTwo(), 1, 0, 2, 2, true}, {fromTwo(), 0, 0, 2, 2, false}, {fromTwo(), 3, 0, 2, 2, false},
	} {
		if got := impl.Asked(c.p, c.client, c.proc, c.at, c.fact); got != c.want {
			t.Errorf("%v, client %d: Asked of %d at %d, %d: %v", c.p, c.client, c.fact, c.proc, c.at, got)
		}
	}
}

// Of all sets at two entries, those that are entered have all that Entries have.
func TestP11NothingLessIsEntered(t *testing.T) {
	for _, p := range []impl.Program{
		fromTwo(), roundTwo(), program(calling(1), calling(1, 0)), program(calling(1), fromTheTop()), program(proc(back(), call(1), back()), calling(1, 0)),
		program(proc(jump(3), assign(0, 3), call(1), back()), proc(jump(2), assign(1, 0), call(0), mark(2), call(1), back())),
	} {
		for _, client := range bothClients {
			inner, least, entered := inners(p, client), impl.Entries(p, client), 0
			for one := range int64(allSets) {
				for other := range int64(allSets) {
					if !isEntered(p, client, inner, []int64{one, other}) {
						continue
					}
					entered++
					if !isSubset(least[0], one) || !isSubset(least[1], other) {
						t.Fatalf("%v, client %d: Entries %v, but %d, %d is entered, too", p, client, least, one, other)
					}
				}
			}
			if entered == 0 {
				t.Errorf("%v, client %d: nothing is entered", p, client)
			}
		}
	}
}

func TestP11EverySmallProgram(t *testing.T) {
	stmts := []impl.Stmt{mark(0), assign(1, 0), assign(0, 3), ask(0), jump(0), jump(2), call(0), call(1), back()}
	twoProcs(stmts, func(p impl.Program) {
		for _, client := range bothClients {
			checkPlaces(t, p, client)
			checkPlacesRules(t, p, client)
		}
	})
}

// Every way in which up to three procedures call one another, each marking and testing one variable ahead of a way beside its calls.
func TestP11EveryoneCallsWhomever(t *testing.T) {
	for n := 1; n <= 3; n++ {
		callingPrograms(n, func(p impl.Program) {
			if n <= 2 {
				checkAllPlaces(t, p)
			}
			for i := range p.Procs {
				last := int64(len(p.Procs[i].Stmts)) + 2
				p.Procs[i].Stmts = append([]impl.Stmt{ask(int64(i+1) % 3), mark(int64(i)), jump(last)}, p.Procs[i].Stmts...)
			}
			for _, client := range bothClients {
				checkPlaces(t, p, client)
				checkPlacesRules(t, p, client)
			}
		})
	}
}

func TestP11ManyPrograms(t *testing.T) {
	d := draws(11)
	for range 1000 {
		for _, p := range []impl.Program{d.program(), d.testing(d.spinning()), d.testing(d.onward())} {
			for _, client := range bothClients {
				checkPlaces(t, p, client)
				checkPlacesRules(t, p, client)
			}
		}
	}
	for range 60 {
		checkAllPlaces(t, d.testing(d.spinning()))
	}
}

// Where every run ends, what holds at a place is what all runs together bring there, and no more.
func TestP11AllRunsTogether(t *testing.T) {
	d := draws(111)
	for range 3000 {
		p, client := d.onward(), int64(1+d.below(2))
		all := &places{}
		runs(p, client, impl.Place{}, startOf(client), func(here impl.Place, k known) {
			all.ahead[here.Proc][here.At] = all.ahead[here.Proc][here.At].with(k)
		}, func(known) {})
		if got, want := impl.Facts(p, client), all.facts(p); !sameLists(got, want) {
			t.Fatalf("%v, client %d: Facts %v, all runs %v", p, client, got, want)
		}
	}
}

// Whatever holds along a walk is told, however deep it calls.
func TestP11WhatHoldsAlongAWalkIsTold(t *testing.T) {
	d := draws(112)
	longest := 0
	for range 3000 {
		p, client, count := d.spinning(), int64(1+d.below(2)), 0
		sets := impl.Facts(p, client)
		d.walk(p, client, 200, func(here impl.Place, k known) {
			count++
			if told := sets[here.Proc][here.At]; !isSubset(k.set(), told) {
				t.Fatalf("%v, client %d: at %v holds %d, Facts %v", p, client, here, k.set(), sets)
			}
		})
		longest += count / 200
	}
	if longest < 300 {
		t.Error("only", longest, "long walks")
	}
}

func TestP11EdgesOfHowMany(t *testing.T) {
	asked := func(p impl.Program, is bool) {
		if is {
			checkAllPlaces(t, p)
		} else {
			checkWrongPlaces(t, "too few or too many", p)
		}
	}
	howManyProcs(asked)
	howManyStmts(asked)
}

func TestP11EdgesOfTheClient(t *testing.T) {
	for _, client := range nearAndFar(-3, 12) {
		for _, p := range append(allSorts(), fromTwo(), chain()) {
			if client != 1 && client != 2 {
				checkNoPlaces(t, "no client", p, client)
				continue
			}
			checkPlaces(t, p, client)
			checkAsked(t, p, client)
		}
	}
}

// All facts of ClUnset hold everywhere, the first procedure calling all others, which do nothing: what is Asked is false beyond the
// edges alone.
func TestP11EdgesOfAsked(t *testing.T) {
	for n := 1; n <= 4; n++ {
		for _, size := range []int{1, 12} {
			p := program(slices.Repeat([]impl.Proc{long(size)}, n)...)
			if n > 1 {
				p.Procs[0] = calling([]int64{1, 2, 3}[:n-1]...)
			}
			for _, i := range nearAndFar(-2, 6) {
				for _, at := range nearAndFar(-2, 14) {
					for _, fact := range nearAndFar(-2, 9) {
						is := i >= 0 && i < int64(n) && at >= 0 && at < int64(len(p.Procs[i].Stmts)) && fact >= 1 && fact <= 6
						if got := impl.Asked(p, impl.ClUnset, i, at, fact); got != is {
							t.Fatalf("%v: Asked of %d at %d, %d: %v", p, fact, i, at, got)
						}
					}
				}
			}
		}
	}
}

func TestP11EdgesOfTheCalled(t *testing.T) {
	for n := 1; n <= 4; n++ {
		for _, y := range nearAndFar(-2, 6) {
			for at := range n {
				p := program(slices.Repeat([]impl.Proc{proc(mark(0), back())}, n)...)
				p.Procs[at] = calling(y)
				if y >= 0 && y < int64(n) {
					checkAllPlaces(t, p)
				} else {
					checkWrongPlaces(t, "no such procedure", p)
				}
			}
		}
	}
}

func TestP11OneWrongProc(t *testing.T) {
	oneWrongProc(func(p impl.Program) { checkWrongPlaces(t, "one wrong procedure", p) })
}

func TestP11WrongInOneField(t *testing.T) {
	checkAllPlaces(t, callers())
	inOneField(t, func(p impl.Program, is bool) {
		if !is {
			checkWrongPlaces(t, "one wrong field", p)
			return
		}
		for _, client := range bothClients {
			checkPlaces(t, p, client)
		}
	})
}

// The spare room behind procedures and statements is no part of them.
func TestP11TheRoomBehindIsNoPart(t *testing.T) {
	for _, p := range append(allSorts(), fromTwo(), chain()) {
		checkAllPlaces(t, roomy(p))
	}
}

func TestP21FactsAnswersAreNewMemory(t *testing.T) {
	for _, p := range append(allSorts(), fromTwo(), chain()) {
		for _, client := range bothClients {
			checkNewMemory(t, fmt.Sprint(p, client), func() (lists [][]int64, holders [][][]int64) {
				for range 2 {
					lists = append(lists, impl.Entries(p, client))
					holders = append(holders, impl.Facts(p, client))
				}
				return append(lists, slices.Concat(holders...)...), holders
			})
		}
	}
}

func TestP21PlacesAreNewMemory(t *testing.T) {
	for _, p := range append(allSorts(), fromTwo(), chain(), program(cutOff(), proc(ask(0), ask(1), back()))) {
		ask := func() [][]impl.Place {
			return [][]impl.Place{impl.Nowhere(p), impl.Tests(p, 1), impl.Tests(p, 2), impl.Nowhere(p), impl.Tests(p, 1), impl.Tests(p, 2)}
		}
		answers := ask()
		checkListsApart(t, fmt.Sprint(p), answers)
		var want [][]impl.Place
		for _, got := range answers {
			want = append(want, slices.Clone(got))
		}
		for _, got := range answers {
			spoilPlaces(got)
		}
		for i, again := range ask() {
			if !slices.Equal(again, want[i]) {
				t.Fatalf("%v: answer %d: %v, once written over %v", p, i, want[i], again)
			}
		}
	}
}

// askFacts calls each function of the chapter twice, and writes over what it answers.
func askFacts(p impl.Program, client, n int64) {
	for range 2 {
		spoilNumbers(impl.Entries(p, client))
		spoilLists(impl.Facts(p, client))
		spoilPlaces(impl.Nowhere(p))
		spoilPlaces(impl.Tests(p, client))
		impl.Asked(p, client, n, n, n)
		impl.Asked(p, client, 0, n, 1)
		impl.Asked(p, client, n, 0, 6)
	}
}

func TestP21FactsArgumentsStay(t *testing.T) {
	programs := append(allSorts(), fromTwo(), chain(), impl.Program{}, program(slices.Repeat([]impl.Proc{calling(0)}, 5)...), program(calling(1), long(1), calling(3)))
	for _, wrong := range wrongProcs() {
		programs = append(programs, program(calling(1), wrong), program(wrong, calling(0)))
	}
	for _, p := range programs {
		for _, client := range []int64{-1, 0, 1, 2, 3, math.MinInt64, math.MaxInt64} {
			for _, n := range []int64{-1, 0, 1, 3, 4, math.MinInt64, math.MaxInt64} {
				staysWhile(t, "facts", p, func(p impl.Program) { askFacts(p, client, n) })
			}
		}
	}
}

func TestP21EndsOfInt64Facts(t *testing.T) {
	for _, end := range []int64{math.MinInt64, math.MaxInt64} {
		for _, p := range append(allSorts(), fromTwo(), chain()) {
			checkNoPlaces(t, "an end", p, end)
			for _, client := range append([]int64{end}, bothClients...) {
				for _, one := range [][3]int64{{end, 0, 1}, {0, end, 1}, {0, 0, end}, {end, end, 1}, {end, 0, end}, {0, end, end}, {end, end, end}} {
					checkNotAsked(t, "an end", p, client, one[0], one[1], one[2])
				}
			}
		}
		for _, s := range []impl.Stmt{call(end), jump(end), mark(end), ask(end), assign(0, end), {Kind: end}, {Kind: end, X: end, Y: end}, {Kind: impl.StCall, X: end}, {Kind: impl.StTest, Y: end}} {
			checkWrongPlaces(t, "an end", program(proc(s, back())))
			checkWrongPlaces(t, "an end", program(calling(1), calling(2), calling(3), proc(call(0), s, back())))
		}
	}
}

func TestP21GreatFacts(t *testing.T) {
	checkWrongPlaces(t, "a great procedure", program(calling(1), long(1<<20)))
	checkWrongPlaces(t, "many procedures", program(slices.Repeat([]impl.Proc{calling(0)}, 1<<20)...))
}
