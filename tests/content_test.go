package tests

import (
	"math"
	"runtime"
	"slices"
	"strings"
	"testing"

	"loop.example/g00291/impl"
)

// closureCase tells a program, a procedure of it, and what its Closure is shown as.
type closureCase struct {
	p    string
	proc int64
	want string
}

func checkClosureCases(t *testing.T, cases []closureCase) {
	t.Helper()
	for _, c := range cases {
		p := written(t, c.p)
		if got := impl.Closure(p, c.proc); !sameProgram(got, written(t, c.want)) {
			t.Errorf("%q: Closure of %d: %v, want %q", c.p, c.proc, got, c.want)
		}
		if got := impl.Content(p, c.proc); got != c.want {
			t.Errorf("%q: Content of %d: %q, want %q", c.p, c.proc, got, c.want)
		}
		checkAllOfContents(t, p)
		checkRenamed(t, p)
	}
}

func TestP14CallsNobodyOrFew(t *testing.T) {
	checkClosureCases(t, []closureCase{
		{"r", 0, "r"}, {"m0 r;r", 0, "m0 r"}, {"m0 r;r", 1, "r"}, {"m0 r;m1 r;m2 r;m3 r", 3, "m3 r"}, {"m0 r;m1 r;m2 r;m3 r", 0, "m0 r"}, {"k1 r;m0 r", 1, "m0 r"},
		{"k1 r;r", 0, "k1 r;r"}, {"r;k0 r", 1, "k1 r;r"}, {"k3 r;r;r;m1 r", 0, "k1 r;m1 r"}, {"m0 r;m1 r;k1 r", 2, "k1 r;m1 r"}, {"k2 r;m1 r;m2 r", 0, "k1 r;m2 r"},
		{"k1 k2 k3 r;m1 r;m2 r;m3 r", 0, "k1 k2 k3 r;m1 r;m2 r;m3 r"}, {"k3 k2 k1 r;m1 r;m2 r;m3 r", 0, "k1 k2 k3 r;m3 r;m2 r;m1 r"}, {"k2 k1 k3 r;m1 r;m2 r;m3 r", 0, "k1 k2 k3 r;m2 r;m1 r;m3 r"},
		{"m0 r;m1 r;m2 r;k1 k0 r", 3, "k1 k2 r;m1 r;m0 r"}, {"k2 k1 r;r;m3 k2 r", 0, "k1 k2 r;m3 k1 r;r"}, {"k2 k1 r;r;m3 k2 r", 2, "m3 k0 r"}, {"k2 k1 r;r;m3 k2 r", 1, "r"},
		{"k1 k1 r;r", 0, "k1 k1 r;r"}, {"k2 s k2 r;r;t0 r", 0, "k1 s k1 r;t0 r"}, {"k2 k1 k2 k1 r;m1 r;m2 r", 0, "k1 k2 k1 k2 r;m2 r;m1 r"},
		{"k0 r", 0, "k0 r"}, {"r;k1 r", 1, "k0 r"}, {"r;r;r;k3 k3 r", 3, "k0 k0 r"}, {"m0 r;k1 k0 k1 r", 1, "k0 k1 k0 r;m0 r"}, {"m0 r;k0 k1 k0 r", 1, "k1 k0 k1 r;m0 r"},
	})
}

func TestP14ChainsAndCircles(t *testing.T) {
	checkClosureCases(t, []closureCase{
		{"m0 k1 r;m1 k2 r;m2 k3 r;m3 r", 0, "m0 k1 r;m1 k2 r;m2 k3 r;m3 r"}, {"m0 k1 r;m1 k2 r;m2 k3 r;m3 r", 1, "m1 k1 r;m2 k2 r;m3 r"}, {"m0 k1 r;m1 k2 r;m2 k3 r;m3 r", 2, "m2 k1 r;m3 r"},
		{"m0 r;m1 k0 r;m2 k1 r;m3 k2 r", 3, "m3 k1 r;m2 k2 r;m1 k3 r;m0 r"}, {"m0 r;m1 k0 r;m2 k1 r;m3 k2 r", 2, "m2 k1 r;m1 k2 r;m0 r"}, {"m0 k2 r;m1 r;m2 k3 r;m3 k1 r", 0, "m0 k1 r;m2 k2 r;m3 k3 r;m1 r"},
		{"m0 k1 r;m1 k0 r", 0, "m0 k1 r;m1 k0 r"}, {"m0 k1 r;m1 k0 r", 1, "m1 k1 r;m0 k0 r"}, {"m0 k3 r;r;r;m3 k0 r", 3, "m3 k1 r;m0 k0 r"}, {"k2 r;r;m2 k2 k0 r", 2, "m2 k0 k1 r;k0 r"},
		{"m0 k1 r;m1 k2 r;m2 k0 r", 0, "m0 k1 r;m1 k2 r;m2 k0 r"}, {"m0 k1 r;m1 k2 r;m2 k0 r", 1, "m1 k1 r;m2 k2 r;m0 k0 r"}, {"m0 k1 r;m1 k2 r;m2 k0 r", 2, "m2 k1 r;m0 k2 r;m1 k0 r"}, {"m0 k2 r;m1 k0 r;m2 k1 r", 0, "m0 k1 r;m2 k2 r;m1 k0 r"},
		{"m0 k1 r;m1 k2 r;m2 k3 r;m3 k0 r", 0, "m0 k1 r;m1 k2 r;m2 k3 r;m3 k0 r"}, {"m0 k1 r;m1 k2 r;m2 k3 r;m3 k0 r", 2, "m2 k1 r;m3 k2 r;m0 k3 r;m1 k0 r"}, {"m0 k2 r;m1 k0 r;m2 k3 r;m3 k1 r", 3, "m3 k1 r;m1 k2 r;m0 k3 r;m2 k0 r"},
		{"m0 k1 r;m1 k2 r;m2 k1 k3 r;m3 r", 0, "m0 k1 r;m1 k2 r;m2 k1 k3 r;m3 r"}, {"m0 k1 r;m1 k2 r;m2 k1 k3 r;m3 r", 2, "m2 k1 k2 r;m1 k0 r;m3 r"},
		{"k1 r;k0 r;k3 r;k2 r", 2, "k1 r;k0 r"}, {"k1 r;k1 r", 0, "k1 r;k1 r"}, {"k1 r;k1 r", 1, "k0 r"},
	})
}

// Who is called by the one who was come to first comes ahead of whom the next one calls; who calls deeper does not come first.
func TestP14TheOrderInWhichOneComes(t *testing.T) {
	checkClosureCases(t, []closureCase{
		{"k1 k2 r;k3 r;m2 r;m3 r", 0, "k1 k2 r;k3 r;m2 r;m3 r"}, {"k3 k1 r;m1 r;m2 r;k2 r", 0, "k1 k2 r;k3 r;m1 r;m2 r"}, {"k2 k1 r;k3 r;k0 k1 r;m3 r", 0, "k1 k2 r;k0 k2 r;k3 r;m3 r"},
		{"k1 k2 r;m1 k3 r;m2 k3 r;m3 r", 0, "k1 k2 r;m1 k3 r;m2 k3 r;m3 r"}, {"k2 k1 r;m1 k3 r;m2 k3 r;m3 r", 0, "k1 k2 r;m2 k3 r;m1 k3 r;m3 r"}, {"m0 r;k3 k2 r;m2 k0 r;m3 r", 1, "k1 k2 r;m3 r;m2 k3 r;m0 r"},
		{"k1 r;k3 k2 r;m2 r;m3 r", 0, "k1 r;k2 k3 r;m3 r;m2 r"}, {"k1 r;k0 k3 k2 r;m2 k3 r;m3 r", 0, "k1 r;k0 k2 k3 r;m3 r;m2 k2 r"}, {"k0 k1 r;k0 k1 k3 k2 r;m2 k1 r;m3 k0 k2 r", 0, "k0 k1 r;k0 k1 k2 k3 r;m3 k0 k3 r;m2 k1 r"},
		{"k3 k0 r;k2 r;k1 k0 r;k2 k1 r", 0, "k1 k0 r;k2 k3 r;k3 k0 r;k2 r"}, {"k3 k0 r;k2 r;k1 k0 r;k2 k1 r", 2, "k1 k2 r;k0 r;k3 k2 r;k0 k1 r"}, {"k3 k2 r;m1 r;k1 r;k0 k1 r", 3, "k1 k2 r;k0 k3 r;m1 r;k2 r"},
	})
}

// Calls count where they stand: also where no way comes, and whatever way goes round them.
func TestP14CallsWhereNoWayComes(t *testing.T) {
	checkClosureCases(t, []closureCase{
		{"r k1 r;m1 r", 0, "r k1 r;m1 r"}, {"r;m1 r;r k1 r k0 r", 2, "r k1 r k2 r;m1 r;r"}, {"j2 k2 k1 r;m1 r;m2 r", 0, "j2 k1 k2 r;m2 r;m1 r"}, {"j3 r k2 k1 r;m1 r;m2 r", 0, "j3 r k1 k2 r;m2 r;m1 r"}, {"j0 k1 r;j0 k0 r", 1, "j0 k1 r;j0 k0 r"},
	})
}

// Jumps and variables have numbers, too, and keep them.
func TestP14AllElseAsItWas(t *testing.T) {
	checkClosureCases(t, []closureCase{
		{"j2 c2,1 b1,2 k2 l2 m1 t2 r;r;m0 r", 0, "j2 c2,1 b1,2 k1 l2 m1 t2 r;m0 r"}, {"c3,3 r;b3,1 j3 k3 r;k1 t3 r;l3 k0 j3 r", 3, "l3 k1 j3 r;c3,3 r"}, {"c3,3 r;b3,1 j3 k3 r;k1 t3 r;l3 k0 j3 r", 2, "k1 t3 r;b3,1 j3 k2 r;l3 k3 j3 r;c3,3 r"},
		{"s c1,0 b2,5 l3 m4 t5 j7 k0 r", 0, "s c1,0 b2,5 l3 m4 t5 j7 k0 r"}, {"r;s c1,0 b2,5 l3 m4 t5 j7 k1 r", 1, "s c1,0 b2,5 l3 m4 t5 j7 k0 r"}, {"k3 r;r;r;s s s s s s s s s j11 j10 r", 0, "k1 r;s s s s s s s s s j11 j10 r"},
	})
	for _, s := range rightStmts() {
		one := long(12)
		one.Stmts[5], one.Stmts[6] = s, call(2)
		p := program(long(1), one, calling(3), proc(mark(5), back()))
		checkContents(t, p)
		if got := impl.Closure(p, 1); s.Kind != impl.StCall && (got.Procs[0].Stmts[5] != s || got.Procs[0].Stmts[6] != call(1) || len(got.Procs) != 3) {
			t.Errorf("%v: %v", p, got)
		}
	}
}

// alikeCase tells two programs, and Alike of them.
type alikeCase struct {
	a, b string
	want []impl.Place
}

func TestP14Alike(t *testing.T) {
	all := func(n, m int64) []impl.Place {
		var list []impl.Place
		for i := range n * m {
			list = append(list, impl.Place{Proc: i / m, At: i % m})
		}
		return list
	}
	for _, c := range []alikeCase{
		{"r", "r", all(1, 1)}, {"m0 r", "m1 r", nil}, {"m0 r", "r", nil}, {"m0 r;m1 r;m2 r", "m3 r;l0 r;t0 r;s r", nil}, {"k0 r", "r", nil}, {"k1 r;r", "k0 r", nil},
		{"k2 k1 r;r;m3 k2 r", "r", []impl.Place{{Proc: 1}}}, {"r", "k2 k1 r;r;m3 k2 r", []impl.Place{{At: 1}}}, {"m0 r;m1 r;m2 r;m3 r", "s r;s s r;s s s r;m2 r", []impl.Place{{Proc: 2, At: 3}}},
		{"r;m0 r;r", "m0 r;r;m0 r", []impl.Place{{Proc: 0, At: 1}, {Proc: 1, At: 0}, {Proc: 1, At: 2}, {Proc: 2, At: 1}}},
		{"m0 r;m1 r;m2 r;m3 r", "m3 r;m2 r;m1 r;m0 r", []impl.Place{{Proc: 0, At: 3}, {Proc: 1, At: 2}, {Proc: 2, At: 1}, {Proc: 3, At: 0}}},
		{"r;r;r;r", "r;r;r;r", all(4, 4)}, {"r;r", "r;r;r", all(2, 3)}, {"m0 r;m1 r", "m0 r;m1 r", []impl.Place{{}, {Proc: 1, At: 1}}},
		{"k1 r;k0 r", "k1 r;k0 r", all(2, 2)}, {"k0 r;k1 r", "k0 r;k1 r", all(2, 2)}, {"k1 r;k1 r", "k1 r;k1 r", []impl.Place{{}, {Proc: 1, At: 1}}}, {"k1 r;k1 r", "k0 r", []impl.Place{{Proc: 1}}}, {"k1 r;k0 r", "k0 r", nil},
		{"k1 r;k2 r;k0 r", "k2 r;k0 r;k1 r", all(3, 3)}, {"k1 r;k2 r;k0 r", "k1 r;k0 r", nil}, {"k1 r;k2 r;k3 r;k0 r", "k1 r;k0 r;k3 r;k2 r", nil}, {"k1 r;k0 r", "k1 r;k0 r;k3 r;k2 r", all(2, 4)},
		{"k1 k2 r;m0 r;m1 r", "k2 k1 r;m0 r;m1 r", []impl.Place{{Proc: 1, At: 1}, {Proc: 2, At: 2}}}, {"k1 k2 r;m0 r;m1 r", "k2 k1 r;m1 r;m0 r", []impl.Place{{}, {Proc: 1, At: 2}, {Proc: 2, At: 1}}},
		{"k1 k1 r;m0 r", "k1 k2 r;m0 r;m0 r", []impl.Place{{Proc: 1, At: 1}, {Proc: 1, At: 2}}}, {"k1 k2 r;m0 r;m0 r", "k2 k1 r;m0 r;m0 r", []impl.Place{{}, {Proc: 1, At: 1}, {Proc: 1, At: 2}, {Proc: 2, At: 1}, {Proc: 2, At: 2}}},
		{"k1 r;k2 r;m0 r", "k1 r;k2 r;m1 r", nil}, {"k1 r;k2 r;m0 r", "m0 r;k2 r;k0 r", []impl.Place{{Proc: 0, At: 1}, {Proc: 1, At: 2}, {Proc: 2, At: 0}}},
	} {
		a, b := written(t, c.a), written(t, c.b)
		if got := impl.Alike(a, b); !slices.Equal(got, c.want) {
			t.Errorf("%q, %q: %v, want %v", c.a, c.b, got, c.want)
		}
		if n := checkAlike(t, a, b); n != len(c.want) || checkPromise14(t, a, b) != n {
			t.Errorf("%q, %q: %d pairs", c.a, c.b, n)
		}
	}
}

// What is one number away, in one statement of one that is come to, is another Content; those who do not come there keep theirs.
func TestP14OneNumberElse(t *testing.T) {
	programs := append(changing(), written(t, "m0 k1 r;k2 s r;c1,0 j1 r;k3 r"), written(t, "k1 k2 r;m0 r;m0 r"), written(t, "k1 k2 r;m0 r;m1 r"), written(t, "k1 k1 k2 k3 r;t5 r;t5 r;l3 k1 k2 r"))
	calls, others := 0, 0
	for _, p := range programs {
		s := anyCalls(p)
		everyOther(p, func(q impl.Program, place impl.Place) {
			callChanged := stmtOf(p, place).Kind == impl.StCall && stmtOf(q, place).Kind == impl.StCall
			for i := range int64(len(p.Procs)) {
				same := impl.Content(p, i) == impl.Content(q, i)
				comes := i == place.Proc || s[i][place.Proc]
				if want := !comes || callChanged && madeAlike(p, i, q, i); same != want {
					t.Fatalf("%v and %v differ in %v: Content of %d: %q, %q", p, q, place, i, impl.Content(p, i), impl.Content(q, i))
				}
			}
			checkAlike(t, p, q)
			if callChanged {
				calls++
			} else {
				others++
			}
		})
	}
	if calls < 50 || others < 1000 {
		t.Error("only", calls, "calls and", others, "others")
	}
}

func TestP14TheOrderOfTwoCalls(t *testing.T) {
	for _, c := range []struct {
		a, b string
		same bool
	}{
		{"k1 k2 r;m0 r;m1 r", "k2 k1 r;m0 r;m1 r", false}, {"k1 k2 r;m0 r;m1 r", "k2 k1 r;m1 r;m0 r", true}, {"k1 k2 r;m0 r;m0 r", "k2 k1 r;m0 r;m0 r", true}, {"k1 k2 k1 r;m0 r;m0 r", "k2 k1 k1 r;m0 r;m0 r", false},
		{"k0 k1 r;m0 r", "k1 k0 r;m0 r", false}, {"k0 k1 r;k0 r", "k1 k0 r;k0 r", false}, {"k1 k2 r;k2 r;k1 r", "k2 k1 r;k2 r;k1 r", true}, {"k1 k2 r;k1 r;k1 r", "k2 k1 r;k1 r;k1 r", false}, {"k1 k2 r;k1 r;k2 r", "k2 k1 r;k1 r;k2 r", true},
		{"k1 s k2 r;m0 r;m1 r", "k2 s k1 r;m0 r;m1 r", false}, {"k1 r;k2 k3 r;m0 r;m1 r", "k1 r;k3 k2 r;m0 r;m1 r", false}, {"k1 r;k2 k3 r;m0 r;m1 r", "k1 r;k3 k2 r;m1 r;m0 r", true},
	} {
		a, b := written(t, c.a), written(t, c.b)
		if one, other := impl.Content(a, 0), impl.Content(b, 0); (one == other) != c.same {
			t.Errorf("%q, %q: Content %q, %q", c.a, c.b, one, other)
		}
		checkAlike(t, a, b)
		checkPromise14(t, a, b)
	}
}

// Every way in which few procedures call a few, in any order.
func TestP14EveryoneCallsAnyone(t *testing.T) {
	for n := 1; n <= 4; n++ {
		everyCalling(n, 5-n, func(p impl.Program) {
			checkContents(t, p)
			checkAlike(t, p, p)
		})
	}
	// Of four that call whomever they may there are too many to ask all.
	at := 0
	callingPrograms(4, func(p impl.Program) {
		if at++; at%11 == 0 {
			checkContents(t, p)
			checkAlike(t, p, p)
		}
	})
}

// Of every two small programs: who is alike, and that these have one table.
func TestP14EveryTwoSmallPrograms(t *testing.T) {
	var programs []impl.Program
	everyCalling(2, 1, func(p impl.Program) { programs = append(programs, p) })
	everyCalling(1, 3, func(p impl.Program) { programs = append(programs, p) })
	some := []impl.Stmt{mark(0), call(0), call(1)}
	twoProcs(some, func(p impl.Program) { programs = append(programs, p) })
	pairs, none := 0, 0
	for _, a := range programs {
		for _, b := range programs {
			n := checkAlike(t, a, b)
			if n == 0 {
				none++
			}
			pairs += n
			if n != checkPromise14(t, a, b) {
				t.Fatalf("%v, %v: not %d pairs", a, b, n)
			}
		}
	}
	if pairs < 1000 || none < 1000 {
		t.Error(pairs, "pairs, and", none, "programs without one")
	}
}

func TestP14ManyPrograms(t *testing.T) {
	d := draws(14)
	for range 500 {
		for _, p := range []impl.Program{d.program(), d.spinning(), d.onward(), d.simple()} {
			checkAllOfContents(t, p)
		}
	}
	for range 60 {
		checkRenamed(t, d.program())
		checkRenamed(t, d.spinning())
		checkRenamed(t, d.simple())
	}
}

// Procedures with one Content have one table, in one program and in two.
func TestP14OneTable(t *testing.T) {
	d := draws(141)
	within, between := 0, 0
	for range 3000 {
		a, b := d.simple(), d.simple()
		within += checkPromise14(t, a, a) - len(a.Procs)
		between += checkPromise14(t, a, b)
		checkAlike(t, a, b)
	}
	if within < 500 || between < 1000 {
		t.Error("only", within, "pairs within, and", between, "between")
	}
}

// What a table is, though procedures have other numbers, and there are others.
func TestP14TablesTold(t *testing.T) {
	for _, c := range []struct {
		a, b string
		i, j int64
		mark []int64
	}{
		{"k1 r;m0 r", "m0 r;l5 r;k0 r", 0, 2, []int64{3, 0, 4, 8, 16, 32, 64}}, {"m3 k1 r;c1,0 r", "k1 r;k2 r;c1,0 r;m3 k2 r", 0, 3, []int64{17, 6, 0, 8, 0, 32, 64}},
		{"j4 c2,1 c1,0 k0 r", "s r;j4 c2,1 c1,0 k1 r;k1 r", 0, 1, []int64{1, 14, 12, 8, 16, 32, 64}}, {"k0 r", "k1 k2 r;r;k2 r", 0, 2, keptAlone()},
	} {
		a, b := written(t, c.a), written(t, c.b)
		if impl.Content(a, c.i) != impl.Content(b, c.j) || !slices.Contains(impl.Alike(a, b), impl.Place{Proc: c.i, At: c.j}) {
			t.Errorf("%q, %q: %q, %q", c.a, c.b, impl.Content(a, c.i), impl.Content(b, c.j))
		}
		if one, other := impl.Tables(a, impl.ClMark)[c.i], impl.Tables(b, impl.ClMark)[c.j]; !slices.Equal(one, c.mark) || !slices.Equal(other, c.mark) {
			t.Errorf("%q, %q: %v, %v, want %v", c.a, c.b, one, other, c.mark)
		}
		checkPromise14(t, a, b)
	}
}

func TestP14MoreThatNobodyCalls(t *testing.T) {
	d := draws(142)
	programs := changing()
	for range 100 {
		programs = append(programs, d.program(), d.simple())
	}
	for _, p := range programs {
		for n := 1; len(p.Procs)+n <= 4; n++ {
			last := int64(len(p.Procs)+n) - 1
			for _, more := range []impl.Proc{long(1), long(12), calling(0), calling(last), calling(last, 0, last), p.Procs[0], carrying()} {
				checkMore(t, p, slices.Repeat([]impl.Proc{more}, n)...)
			}
		}
	}
}

func TestP14EdgesOfTheProc(t *testing.T) {
	for n := 1; n <= 4; n++ {
		procs := make([]impl.Proc, n)
		for i := range procs {
			procs[i] = proc(mark(int64(i)), back())
		}
		for _, i := range nearAndFar(-3, 7) {
			p := program(procs...)
			if i < 0 || i >= int64(n) {
				checkNoContent(t, "no such procedure", p, i)
				continue
			}
			if got := impl.Closure(p, i); !sameProgram(got, program(procs[i])) {
				t.Errorf("%v: Closure of %d: %v", p, i, got)
			}
			if got := impl.Content(p, i); got != "m"+string(rune('0'+i))+" r" {
				t.Errorf("%v: Content of %d: %q", p, i, got)
			}
		}
		checkAllOfContents(t, program(procs...))
	}
}

// The one reaches all, the others only themselves.
func TestP14ReachesAllOrItselfAlone(t *testing.T) {
	for n := 1; n <= 4; n++ {
		for all := range n {
			procs := slices.Repeat([]impl.Proc{long(1)}, n)
			var each []int64
			for i := range int64(n) {
				each = append(each, i)
			}
			procs[all] = calling(each...)
			p := program(procs...)
			for i := range n {
				want := 1
				if i == all {
					want = n
				}
				if got := impl.Closure(p, int64(i)); len(got.Procs) != want {
					t.Errorf("%v: Closure of %d: %v", p, i, got)
				}
			}
			checkAllOfContents(t, p)
		}
	}
	for _, p := range []impl.Program{callAll(), roundFour(), chain()} {
		if got := impl.Closure(p, 0); len(got.Procs) != len(p.Procs) {
			t.Errorf("%v: Closure of 0: %v", p, got)
		}
	}
}

func TestP14EdgesOfHowMany(t *testing.T) {
	ask := func(p impl.Program, is bool) {
		if is {
			checkAllOfContents(t, p)
		} else {
			checkContentsWrong(t, "too few or too many", p)
		}
	}
	howManyProcs(ask)
	howManyStmts(ask)
	// Eleven calls, and one that goes back.
	full := proc(call(3), call(2), call(1), call(0), call(3), call(2), call(1), call(0), call(3), call(2), call(1), back())
	checkAllOfContents(t, program(full, full, full, full))
	checkRenamed(t, program(full, long(12), full, long(1)))
	if got, want := impl.Content(program(long(1), full, long(12), full), 1), "k1 k2 k0 k3 k1 k2 k0 k3 k1 k2 k0 r;k1 k2 k0 k3 k1 k2 k0 k3 k1 k2 k0 r;s s s s s s s s s s s r;r"; got != want {
		t.Errorf("%q, want %q", got, want)
	}
}

func TestP14EdgesOfTheCalled(t *testing.T) {
	for n := 1; n <= 4; n++ {
		for _, y := range nearAndFar(-2, 6) {
			for at := range n {
				p := program(slices.Repeat([]impl.Proc{proc(mark(0), back())}, n)...)
				p.Procs[at] = calling(y)
				if y >= 0 && y < int64(n) {
					checkAllOfContents(t, p)
				} else {
					checkContentsWrong(t, "no such procedure", p)
				}
			}
		}
	}
}

// One that is wrong makes the whole Program wrong, though nobody calls it.
func TestP14OneWrongProc(t *testing.T) {
	oneWrongProc(func(p impl.Program) { checkContentsWrong(t, "one wrong procedure", p) })
	for _, wrong := range wrongProcs() {
		checkContentsWrong(t, "one wrong procedure that nobody calls", program(long(1), calling(0), wrong))
		checkContentsWrong(t, "one wrong procedure that nobody calls", program(wrong, long(1)))
	}
}

func TestP14WrongInOneField(t *testing.T) {
	inOneField(t, func(p impl.Program, is bool) {
		if is {
			checkAllOfContents(t, p)
		} else {
			checkContentsWrong(t, "one wrong field", p)
		}
	})
}

func TestP14WrongOnEitherSide(t *testing.T) {
	right := []impl.Program{alone(back()), program(long(1), long(1)), callAll(), callers()}
	wrong := []impl.Program{{}, {Procs: []impl.Proc{}}, {Procs: []impl.Proc{{}}}, alone(skip()), alone(back(), skip()), program(slices.Repeat([]impl.Proc{long(1)}, 5)...), program(long(1), long(13)), program(calling(1)), program(long(1), long(0))}
	for _, one := range right {
		if len(impl.Alike(one, one)) == 0 {
			t.Errorf("%v: not alike to itself", one)
		}
		for _, other := range wrong {
			if l, r := impl.Alike(one, other), impl.Alike(other, one); len(l) != 0 || len(r) != 0 {
				t.Errorf("%v, %v: %v, %v", one, other, l, r)
			}
		}
	}
	for _, one := range wrong {
		for _, other := range wrong {
			if got := impl.Alike(one, other); len(got) != 0 {
				t.Errorf("%v, %v: %v", one, other, got)
			}
		}
		checkContentsWrong(t, "not right", one)
	}
}

// The spare room behind procedures and statements is no part of them.
func TestP14TheRoomBehindIsNoPart(t *testing.T) {
	for _, p := range changing() {
		checkAllOfContents(t, roomy(p))
		if checkAlike(t, p, roomy(p)) < len(p.Procs) {
			t.Errorf("%v: not alike", p)
		}
	}
}

// What is given up inside is caught there; what somebody else gives up goes on, and the answers are the same meanwhile.
func TestP21ContentsWhileAnotherGivesUp(t *testing.T) {
	p := written(t, "k2 k1 r;r;m3 k2 r")
	var contents []string
	var pairs, none []impl.Place
	caught := func() (told any) {
		defer func() { told = recover() }()
		defer func() {
			contents = append(contents, impl.Content(p, 0), impl.Content(p, 3), impl.Content(p, 2))
			pairs, none = impl.Alike(p, alone(back())), impl.Alike(p, impl.Program{})
		}()
		panic("somebody else")
	}()
	if caught != "somebody else" || !slices.Equal(contents, []string{"k1 k2 r;m3 k1 r;r", "", "m3 k0 r"}) || len(pairs) != 1 || len(none) != 0 {
		t.Error(caught, contents, pairs, none)
	}
}

// contentAnswers are what the chapter tells of two programs, each asked for twice.
func contentAnswers(a, b impl.Program) (closures []impl.Program, contents []string, pairs [][]impl.Place) {
	for range 2 {
		for _, p := range []impl.Program{a, b} {
			for i := range int64(len(p.Procs)) {
				closures, contents = append(closures, impl.Closure(p, i)), append(contents, impl.Content(p, i))
			}
		}
		pairs = append(pairs, impl.Alike(a, b), impl.Alike(b, a), impl.Alike(a, a))
	}
	return closures, contents, pairs
}

func TestP21ContentsAnswersAreNewMemory(t *testing.T) {
	for _, a := range changing() {
		for _, b := range []impl.Program{roomy(a), callers(), alone(back())} {
			closures, contents, pairs := contentAnswers(a, b)
			lie := append(programLies(a), programLies(b)...)
			var want []string
			var told [][]impl.Place
			for _, got := range closures {
				lie, want = append(lie, programLies(got)...), append(want, shownOf(got))
			}
			for _, got := range contents {
				lie, want = append(lie, textLies(got)...), append(want, strings.Clone(got))
			}
			for _, got := range pairs {
				lie, told = append(lie, liesAt(got)...), append(told, slices.Clone(got))
			}
			checkMemoryApart(t, shownOf(a), lie)
			runtime.KeepAlive(contents)
			for _, got := range closures {
				spoilProgram(got)
			}
			for _, got := range pairs {
				spoilPlaces(got)
			}
			closures, contents, pairs = contentAnswers(a, b)
			for i, got := range closures {
				contents = slices.Insert(contents, i, shownOf(got))
			}
			if !slices.Equal(contents, want) || !slices.EqualFunc(pairs, told, slices.Equal[[]impl.Place]) {
				t.Fatalf("%v, %v: %q, %v, once written over %q, %v", a, b, want, told, contents, pairs)
			}
		}
	}
}

// askContents calls each function of the chapter twice, and writes over what it answers.
func askContents(a, b impl.Program, n int64) {
	for range 2 {
		for _, p := range []impl.Program{a, b} {
			spoilProgram(impl.Closure(p, n))
			impl.Content(p, n)
		}
		for _, pairs := range [][]impl.Place{impl.Alike(a, b), impl.Alike(b, a), impl.Alike(a, a)} {
			spoilPlaces(pairs)
		}
	}
}

func TestP21ContentsArgumentsStay(t *testing.T) {
	programs := append(changing(), impl.Program{}, program(slices.Repeat([]impl.Proc{calling(0)}, 5)...), program(calling(1), long(1), calling(3)))
	for _, wrong := range wrongProcs() {
		programs = append(programs, program(calling(1), wrong), program(wrong, calling(0)))
	}
	for _, a := range programs {
		for _, b := range programs {
			for _, n := range []int64{-1, 0, 1, 3, 4, math.MinInt64, math.MaxInt64} {
				staysWhile(t, "contents", a, func(a impl.Program) {
					staysWhile(t, "contents", b, func(b impl.Program) { askContents(a, b, n) })
				})
			}
		}
	}
}

func TestP21EndsOfInt64Contents(t *testing.T) {
	for _, end := range []int64{math.MinInt64, math.MaxInt64} {
		for _, p := range changing() {
			checkNoContent(t, "an end", p, end)
		}
		for _, s := range []impl.Stmt{call(end), jump(end), mark(end), ask(end), wipe(end), assign(end, 0), assign(0, end), both(end, 0), both(0, end), {Kind: end}, {Kind: end, X: end, Y: end}, {Kind: impl.StCall, X: end}, {Kind: impl.StJump, X: end}, {Kind: impl.StBack, Y: end}, {Kind: impl.StSkip, X: end}} {
			checkContentsWrong(t, "an end", alone(s, back()))
			checkContentsWrong(t, "an end", program(calling(1), calling(2), calling(3), proc(call(0), s, back())))
			checkContentsWrong(t, "an end", program(long(1), proc(s, back())))
		}
	}
}

func TestP21GreatContents(t *testing.T) {
	checkContentsWrong(t, "a great procedure", program(calling(1), long(1<<20)))
	checkContentsWrong(t, "many procedures", program(slices.Repeat([]impl.Proc{calling(0)}, 1<<20)...))
}
