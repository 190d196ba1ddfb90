package tests

import (
	"fmt"
	"math"
	"runtime"
	"slices"
	"strings"
	"testing"

	"loop.example/g00291/impl"
)

// keptCase tells a Cache, an Item that is kept there, and what is there then.
type keptCase struct {
	c    impl.Cache
	one  impl.Item
	want impl.Cache
}

func TestP16Kept(t *testing.T) {
	a, b, c, d := item(1, "r", allOf(1)), item(1, "s r", allOf(2)), item(2, "r", allOf(3)), item(2, "k1 r;r", allOf(4))
	newA, newB, newD := item(1, "r", allOf(64)), item(1, "s r", allOf(0)), item(2, "k1 r;r", allOf(127))
	for _, k := range []keptCase{
		{cache(1), a, cache(1, a)}, {cache(20), d, cache(20, d)}, {cache(2, b), a, cache(2, a, b)}, {cache(2, a), b, cache(2, b, a)}, {cache(4, b, c), a, cache(4, a, b, c)}, {cache(4, b, c, d), a, cache(4, a, b, c, d)}, {cache(20, d, c, b), a, cache(20, a, d, c, b)},
		// One that is there, with the same Table.
		{cache(1, a), a, cache(1, a)}, {cache(3, a, b, c), a, cache(3, a, b, c)}, {cache(3, a, b, c), b, cache(3, b, a, c)}, {cache(3, a, b, c), c, cache(3, c, a, b)}, {cache(9, a, b, c, d), c, cache(9, c, a, b, d)}, {cache(9, a, b, c, d), d, cache(9, d, a, b, c)},
		// One that is there, with another one.
		{cache(1, a), newA, cache(1, newA)}, {cache(3, a, b, c), newA, cache(3, newA, b, c)}, {cache(3, a, b, c), newB, cache(3, newB, a, c)}, {cache(4, a, b, c, d), newD, cache(4, newD, a, b, c)}, {cache(20, a, b, c, d), newB, cache(20, newB, a, c, d)}, {cache(2, newA, newB), a, cache(2, a, newB)},
		// Full: the last one goes.
		{cache(1, b), a, cache(1, a)}, {cache(1, a), c, cache(1, c)}, {cache(2, b, c), a, cache(2, a, b)}, {cache(3, b, c, d), a, cache(3, a, b, c)}, {cache(3, d, c, b), a, cache(3, a, d, c)}, {cache(3, a, b, d), c, cache(3, c, a, b)},
		// The Client or the Content alone is there.
		{cache(4, a), c, cache(4, c, a)}, {cache(4, a), b, cache(4, b, a)}, {cache(1, c), a, cache(1, a)}, {cache(2, c, b), a, cache(2, a, c)},
	} {
		got, is := impl.Kept(k.c, k.one)
		if !is || !sameCache(got, k.want) {
			t.Errorf("%v: Kept %v: %v, %v; want %v", k.c, k.one, got, is, k.want)
		}
		usageOf(k.c).checkKept(t, k.c, k.one)
		usageOf(k.c).checkKept(t, roomyCache(k.c), k.one)
		checkRightCache(t, got)
	}
}

func TestP16Found(t *testing.T) {
	a, b, c, d := item(1, "r", allOf(1)), item(1, "s r", allOf(2)), item(2, "r", allOf(3)), item(2, "k1 r;r", []int64{1, 2, 3, 4, 5, 6, 7})
	for _, f := range []struct {
		c       impl.Cache
		client  int64
		content string
		want    impl.Cache
		table   []int64
	}{
		{cache(1, a), 1, "r", cache(1, a), allOf(1)}, {cache(4, a, b, c, d), 1, "r", cache(4, a, b, c, d), allOf(1)}, {cache(4, a, b, c, d), 1, "s r", cache(4, b, a, c, d), allOf(2)}, {cache(4, a, b, c, d), 2, "r", cache(4, c, a, b, d), allOf(3)},
		{cache(4, a, b, c, d), 2, "k1 r;r", cache(4, d, a, b, c), []int64{1, 2, 3, 4, 5, 6, 7}}, {cache(9, d, c, b), 1, "s r", cache(9, b, d, c), allOf(2)}, {cache(20, d, c), 2, "r", cache(20, c, d), allOf(3)}, {cache(20, c, d), 2, "r", cache(20, c, d), allOf(3)},
		// None, or the Client or the Content alone is there.
		{cache(1), 1, "r", cache(1), nil}, {cache(20), 2, "", cache(20), nil}, {cache(4, b, c, d), 1, "r", cache(4, b, c, d), nil}, {cache(3, a, b), 2, "r", cache(3, a, b), nil}, {cache(3, a, b), 2, "s r", cache(3, a, b), nil}, {cache(3, c, d), 1, "r", cache(3, c, d), nil}, {cache(3, a, d), 1, "k1 r;r", cache(3, a, d), nil}, {cache(3, a, d), 1, "s r", cache(3, a, d), nil},
		{cache(4, a, b, c, d), 1, "", cache(4, a, b, c, d), nil}, {cache(4, a, b, c, d), 1, "r ", cache(4, a, b, c, d), nil}, {cache(4, a, b, c, d), 2, "s r", cache(4, a, b, c, d), nil}, {cache(4, a, b, c, d), 0, "r", cache(4, a, b, c, d), nil}, {cache(4, a, b, c, d), 3, "r", cache(4, a, b, c, d), nil}, {cache(4, a, b, c, d), -1, "r", cache(4, a, b, c, d), nil}, {cache(4, a, b, c, d), 2, "k1 r", cache(4, a, b, c, d), nil},
	} {
		got, table, is := impl.Found(f.c, f.client, f.content)
		if is != (f.table != nil) || !slices.Equal(table, f.table) || !sameCache(got, f.want) {
			t.Errorf("%v: Found %d, %q: %v, %v, %v; want %v, %v", f.c, f.client, f.content, got, table, is, f.want, f.table)
		}
		usageOf(f.c).checkFound(t, f.c, f.client, f.content)
		usageOf(f.c).checkFound(t, roomyCache(f.c), f.client, f.content)
	}
}

// What is Found stays longer than what is not.
func TestP16TheOneUsedLastStays(t *testing.T) {
	c := cache(2)
	keep := func(one impl.Item) { c, _ = impl.Kept(c, one) }
	find := func(content string) bool {
		var is bool
		c, _, is = impl.Found(c, 1, content)
		return is
	}
	keep(soItem(1, "r"))
	keep(soItem(1, "m0 r"))
	if !find("r") {
		t.Error("the first is gone")
	}
	keep(soItem(1, "m1 r"))
	if find("m0 r") || !find("r") || !find("m1 r") {
		t.Error("not the one used last stayed:", c)
	}
	// Who asks for one that is gone has used nothing.
	find("m0 r")
	keep(soItem(1, "m2 r"))
	if find("r") || !find("m1 r") || !find("m2 r") || !impl.Right(c) {
		t.Error(c)
	}
}

// Every row of up to five uses of three keys, of which two have one Client, and two one Content.
func TestP16EveryRowOfUses(t *testing.T) {
	keys := []itemKey{{1, "r"}, {2, "r"}, {2, "s r"}}
	var goOn func(c impl.Cache, u *usage, left int)
	goOn = func(c impl.Cache, u *usage, left int) {
		if left == 0 {
			return
		}
		for _, key := range keys {
			kept, found := u.copied(), u.copied()
			goOn(kept.checkKept(t, c, item(key.client, key.content, allOf(int64(left)))), kept, left-1)
			goOn(found.checkFound(t, c, key.client, key.content), found, left-1)
		}
	}
	for room := int64(1); room <= 4; room++ {
		goOn(cache(room), usageOf(cache(room)), 5)
	}
}

// byCase tells a program, a client, what is in a Cache ahead of it, and what is there then: Contents of this client, with their tables.
type byCase struct {
	p      string
	client int64
	room   int64
	before []string
	want   []string
}

func TestP16TablesBy(t *testing.T) {
	for client := int64(1); client <= 2; client++ {
		for _, b := range []byCase{
			{"r", client, 1, nil, []string{"r"}}, {"r", client, 20, nil, []string{"r"}}, {"m0 r;c1,0 r", client, 20, nil, []string{"c1,0 r", "m0 r"}}, {"m0 r;m1 r;m2 r;m3 r", client, 20, nil, []string{"m3 r", "m2 r", "m1 r", "m0 r"}}, {"m0 r;m1 r;m2 r;m3 r", client, 2, nil, []string{"m3 r", "m2 r"}}, {"m0 r;m1 r;m2 r;m3 r", client, 1, nil, []string{"m3 r"}},
			// With calls.
			{"m0 k1 r;c1,0 r", client, 20, nil, []string{"c1,0 r", "m0 k1 r;c1,0 r"}}, {"m0 k1 r;c1,0 r", client, 1, nil, []string{"c1,0 r"}}, {"r;k0 r;k1 r", client, 20, nil, []string{"k1 r;k2 r;r", "k1 r;r", "r"}}, {"k2 k1 r;r;m3 k2 r", client, 20, nil, []string{"m3 k0 r", "r", "k1 k2 r;m3 k1 r;r"}},
			// Procedures of one Content: the second one is Found.
			{"r;r", client, 20, nil, []string{"r"}}, {"r;r;r;r", client, 1, nil, []string{"r"}}, {"m0 r;r;m0 r", client, 20, nil, []string{"m0 r", "r"}}, {"m0 r;r;m0 r", client, 1, nil, []string{"m0 r"}}, {"m0 r;r;m0 r;r", client, 2, nil, []string{"r", "m0 r"}}, {"k1 r;k0 r", client, 20, nil, []string{"k1 r;k0 r"}}, {"k1 r;m1 r;k3 r;m1 r", client, 20, nil, []string{"m1 r", "k1 r;m1 r"}},
			// Those that call themselves and one another.
			{"k0 r", client, 20, nil, []string{"k0 r"}}, {"j2 k0 m0 r", client, 1, nil, []string{"j2 k0 m0 r"}}, {"m0 k1 r;m1 k0 r", client, 20, nil, []string{"m1 k1 r;m0 k0 r", "m0 k1 r;m1 k0 r"}}, {"m0 k1 r;m1 k2 r;m2 k0 r", client, 2, nil, []string{"m2 k1 r;m0 k2 r;m1 k0 r", "m1 k1 r;m2 k2 r;m0 k0 r"}}, {"k1 r;k1 r", client, 20, nil, []string{"k0 r", "k1 r;k1 r"}},
			// Some are there: those are used.
			{"m0 r;r", client, 20, []string{"m0 r"}, []string{"r", "m0 r"}}, {"m0 r;r", client, 20, []string{"r"}, []string{"r", "m0 r"}}, {"r;m0 r", client, 20, []string{"m0 r", "l0 r", "r"}, []string{"m0 r", "r", "l0 r"}}, {"r;m0 r", client, 3, []string{"l0 r", "l1 r", "r"}, []string{"m0 r", "r", "l0 r"}}, {"m0 r;r", client, 2, []string{"l0 r", "r"}, []string{"r", "m0 r"}}, {"m0 r;r", client, 1, []string{"r"}, []string{"r"}},
			{"m0 k1 r;c1,0 r", client, 20, []string{"l0 r", "c1,0 r"}, []string{"c1,0 r", "m0 k1 r;c1,0 r", "l0 r"}},
			// All are there.
			{"m0 r;r", client, 2, []string{"m0 r", "r"}, []string{"r", "m0 r"}}, {"m0 r;r", client, 2, []string{"r", "m0 r"}, []string{"r", "m0 r"}}, {"m0 r;r;l0 r", client, 20, []string{"s r", "l0 r", "r", "m0 r", "t0 r"}, []string{"l0 r", "r", "m0 r", "s r", "t0 r"}}, {"m0 k1 r;c1,0 r", client, 2, []string{"c1,0 r", "m0 k1 r;c1,0 r"}, []string{"c1,0 r", "m0 k1 r;c1,0 r"}},
			// One that looks like it is none: it has another order, or one more.
			{"m0 r", client, 20, []string{"m0 m0 r"}, []string{"m0 r", "m0 m0 r"}}, {"k1 r;r", client, 20, []string{"k1 r;s r"}, []string{"r", "k1 r;r", "k1 r;s r"}},
		} {
			p, c := written(t, b.p), cache(b.room, soItems(b.client, b.before...)...)
			want := cache(b.room, soItems(b.client, b.want...)...)
			if got := checkByCache(t, c, p, b.client); !sameCache(got, want) {
				t.Errorf("%v: TablesBy of %q, %d: %v, want %v", c, b.p, b.client, got, want)
			}
			// What is of the other client is as if it were not there, but for its room.
			other := soItems(3-b.client, append(slices.Clone(b.before), b.want...)...)
			slices.SortFunc(other, func(a, b impl.Item) int { return strings.Compare(a.Content, b.Content) })
			other = slices.CompactFunc(other, sameItem)
			both := cache(20, slices.Concat(other, c.Items)...)
			checkByCache(t, both, p, b.client)
			checkByCache(t, both, p, 3-b.client)
		}
	}
}

func TestP16TablesByNumbers(t *testing.T) {
	copies := []int64{1, 6, 0, 8, 16, 32, 64}
	for client, main := range map[int64][]int64{1: {7, 0, 0, 8, 16, 32, 64}, 2: {1, 0, 0, 8, 16, 32, 64}} {
		p := written(t, "m0 k1 r;c1,0 r")
		two := []impl.Item{item(client, "c1,0 r", copies), item(client, "m0 k1 r;c1,0 r", main)}
		for room := int64(1); room <= 20; room++ {
			c, tables := impl.TablesBy(cache(room), p, client)
			if !sameLists(tables, [][]int64{main, copies}) || !sameCache(c, cache(room, two[:min(room, 2)]...)) || !impl.Right(c) {
				t.Errorf("client %d, Room %d: %v, %v", client, room, c, tables)
			}
		}
	}
}

// By a Cache that is CacheOk alone, what is in it is told, be it so or not.
func TestP16TablesByWhatIsNotSo(t *testing.T) {
	wrong, unit := allOf(0), impl.Unit()
	marks := []int64{3, 0, 4, 8, 16, 32, 64}
	for _, b := range []struct {
		c      impl.Cache
		p      string
		want   [][]int64
		behind impl.Cache
		right  bool
	}{
		{cache(2, item(1, "r", wrong)), "r", [][]int64{wrong}, cache(2, item(1, "r", wrong)), false},
		{cache(2, item(1, "r", wrong)), "m0 r;r", [][]int64{marks, wrong}, cache(2, item(1, "r", wrong), item(1, "m0 r", marks)), false},
		{cache(1, item(1, "r", wrong)), "m0 r;r", [][]int64{marks, unit}, cache(1, item(1, "r", unit)), true},
		{cache(1, item(1, "r", wrong)), "r;m0 r;r", [][]int64{wrong, marks, unit}, cache(1, item(1, "r", unit)), true},
		{cache(2, item(2, "r", wrong)), "r", [][]int64{unit}, cache(2, item(1, "r", unit), item(2, "r", wrong)), false},
		// What is in it of one that is called does not matter to the caller.
		{cache(2, item(1, "m0 r", wrong)), "k1 r;m0 r", [][]int64{marks, wrong}, cache(2, item(1, "m0 r", wrong), item(1, "k1 r;m0 r", marks)), false},
		{cache(3, item(1, "r;r", wrong), item(1, "r;m0 r", wrong)), "r;r", [][]int64{unit, unit}, cache(3, item(1, "r", unit), item(1, "r;r", wrong), item(1, "r;m0 r", wrong)), false},
	} {
		p := written(t, b.p)
		got, tables := impl.TablesBy(b.c, p, 1)
		if !sameLists(tables, b.want) || !sameCache(got, b.behind) || impl.Right(got) != b.right || !impl.CacheOk(got) {
			t.Errorf("%v: TablesBy of %q: %v, %v; want %v, %v; Right %v", b.c, b.p, got, tables, b.behind, b.want, impl.Right(got))
		}
		usageOf(b.c).checkTablesBy(t, b.c, p, 1)
	}
	for _, c := range someCaches() {
		for _, p := range changing() {
			for _, client := range bothClients {
				usageOf(c).checkTablesBy(t, c, p, client)
			}
		}
	}
}

// contentsBy are the Contents of a right Program, each once.
func contentsBy(p impl.Program) []string {
	var contents []string
	for i := range p.Procs {
		contents = append(contents, contentBy(p, int64(i)))
	}
	slices.Sort(contents)
	return slices.Compact(contents)
}

// Whatever is in it: each choice of a program's own Contents, with others ahead or behind, of one client or both, with each Room.
func TestP16WhateverIsInIt(t *testing.T) {
	for at, p := range append(changing(), written(t, "m0 r;r;m0 r;r"), written(t, "k1 r;m1 r;k3 r;m1 r"), written(t, "k1 r;k2 r;k3 r;k0 r"), written(t, "k1 k2 r;k3 r;k3 r;t0 r")) {
		contents := contentsBy(p)
		for chosen := range 1 << len(contents) {
			var there []string
			for i, content := range contents {
				if chosen>>i&1 == 1 {
					there = append(there, content)
				}
			}
			client := int64(1 + (at+chosen)%2)
			own, others := soItems(client, there...), append(soItems(client, "l5 t5 r", "l4 t4 r"), soItems(3-client, contents...)...)
			for _, items := range [][]impl.Item{own, slices.Concat(own, others), slices.Concat(others, own), slices.Concat(others[:1], own, others[1:])} {
				for _, room := range []int64{max(1, int64(len(items))), int64(len(items)) + 1, 20} {
					c := cache(room, items...)
					c = checkByCache(t, c, p, client)
					c = checkPromise16(t, c, p, 3-client)
					checkPromise16(t, c, p, client)
				}
			}
		}
	}
}

// One Cache goes through all programs, of one client or of both.
func TestP16ProgramsInTurn(t *testing.T) {
	d := draws(16)
	programs := changing()
	for range 60 {
		programs = append(programs, d.simple(), d.simple(), d.spinning(), d.program())
	}
	for _, room := range []int64{1, 2, 3, 5, 20} {
		c, u := cache(room), usageOf(cache(room))
		for i, p := range programs {
			client := int64(1 + (i/3)%2)
			checkPromise16(t, c, p, client)
			c = u.checkTablesBy(t, c, p, client)
			if i%40 == 0 {
				u = usageOf(c)
			}
		}
		if int64(len(c.Items)) != room || !isRight(c) {
			t.Errorf("%v is not full, or not right", c)
		}
	}
}

// Every program of two procedures of three statements of these, by a Cache that goes from one to the next.
func TestP16EveryTwoProcs(t *testing.T) {
	stmts := []impl.Stmt{skip(), mark(0), assign(1, 0), jump(2), call(0), call(1)}
	for _, client := range bothClients {
		c := cache(6)
		twoProcs(stmts, func(p impl.Program) {
			c = checkPromise16(t, c, p, client)
		})
	}
}

// Each way in which up to three procedures call one another, each called at most once by each.
func TestP16EveryWayOfCalling(t *testing.T) {
	for n := 1; n <= 3; n++ {
		c := cache(9)
		callingPrograms(n, func(p impl.Program) {
			for i := range p.Procs {
				p.Procs[i].Stmts = append([]impl.Stmt{mark(int64(i)), jump(1)}, p.Procs[i].Stmts...)
			}
			c = checkPromise16(t, c, p, 1)
			c = checkPromise16(t, c, p, 2)
		})
	}
}

// item draws one of these Contents: mostly right, and mostly with the Table that is so.
func (d *draws) item(contents []string) impl.Item {
	one := soItem(int64(1+d.below(2)), contents[d.below(len(contents))])
	switch d.below(12) {
	case 0:
		one.Client = []int64{0, 3, -1, math.MinInt64, 4711}[d.below(5)]
	case 1:
		one.Content = unreadTexts[d.below(len(unreadTexts))]
	case 2:
		wrong := wrongRelations()
		one.Table = wrong[d.below(len(wrong))]
	case 3, 4, 5:
		one.Table = d.relation()
	}
	return one
}

// Scripts of many calls of all sorts, from caches of all sorts.
func TestP16Scripts(t *testing.T) {
	d := draws(161)
	refused, notThere, begun := 0, 0, someCaches()
	contents := append(manyContents(14), "r;r", "k1 r;r", "k1 r;k0 r", "m0 k1 r;m1 k0 r", "k2 k1 r;r;m3 k2 r")
	for script := range 120 {
		c := begun[script%len(begun)]
		c.Room = max(int64(len(c.Items)), int64(1+d.below(20)))
		u := usageOf(c)
		few := contents[:3+d.below(len(contents)-3)]
		for range 30 {
			switch d.below(5) {
			case 0, 1:
				one := d.item(few)
				if !isItem(one) {
					refused++
				}
				c = u.checkKept(t, c, one)
			case 2, 3:
				one := d.item(few)
				if _, is := u.copied().find(one.Client, one.Content); !is {
					notThere++
				}
				c = u.checkFound(t, c, one.Client, one.Content)
			default:
				c = u.checkTablesBy(t, c, d.simple(), int64(1+d.below(2)))
			}
		}
		if impl.Right(c) != isRight(c) {
			t.Fatalf("%v: Right %v", c, impl.Right(c))
		}
	}
	if refused < 100 || notThere < 100 {
		t.Error("only", refused, "were refused, and", notThere, "were not there")
	}
}

// Scripts that keep only what is so: it stays Right all along.
func TestP16StaysRight(t *testing.T) {
	d := draws(162)
	for range 60 {
		c := cache(int64(1 + d.below(20)))
		for range 40 {
			p, client := d.simple(), int64(1+d.below(2))
			i := int64(d.below(len(p.Procs)))
			switch d.below(4) {
			case 0:
				c, _ = impl.Kept(c, item(client, impl.Content(p, i), impl.Tables(p, client)[i]))
			case 1:
				var table []int64
				var is bool
				if c, table, is = impl.Found(c, client, impl.Content(p, i)); is && !slices.Equal(table, impl.Tables(p, client)[i]) {
					t.Fatalf("%v: Found %v of %d of %v", c, table, i, p)
				}
			default:
				c = checkPromise16(t, c, p, client)
			}
			if !impl.Right(c) {
				t.Fatalf("%v is not Right", c)
			}
		}
		if !isRight(c) {
			t.Fatalf("%v is not right", c)
		}
	}
}

// What was told before goes on as it was, whatever comes; one Cache may go on in two ways.
func TestP16OlderCachesStay(t *testing.T) {
	d := draws(163)
	contents := manyContents(12)
	for _, c := range someCaches() {
		var caches []impl.Cache
		var usages []*usage
		u := usageOf(c)
		for range 20 {
			caches, usages = append(caches, c), append(usages, u.copied())
			one := d.item(contents)
			u.keep(one)
			c, _ = impl.Kept(c, one)
			// Who brought it may write over it then.
			spoilNumbers(one.Table)
			u.find(1, "r")
			c, _, _ = impl.Found(c, 1, "r")
		}
		for i := range caches {
			usages[i].checkThere(t, "later", caches[i], caches[i])
			usages[i].copied().checkKept(t, caches[i], newItem())
			usages[i].copied().checkFound(t, caches[i], 2, "r")
		}
	}
}

func checkIsRight(t *testing.T, why string, c impl.Cache, want bool) {
	t.Helper()
	if isRight(c) != want {
		t.Fatalf("%s: %v: the test's own word is %v", why, c, !want)
	}
	if got := impl.Right(c); got != want || !impl.CacheOk(c) {
		t.Fatalf("%s: %v: Right %v, CacheOk %v", why, c, got, impl.CacheOk(c))
	}
}

func TestP16Right(t *testing.T) {
	for _, one := range []impl.Item{
		item(1, "r", impl.Unit()), item(2, "r", impl.Unit()), item(1, "c1,0 r", []int64{1, 6, 0, 8, 16, 32, 64}), item(1, "m0 k1 r;c1,0 r", []int64{7, 0, 0, 8, 16, 32, 64}), item(2, "m0 k1 r;c1,0 r", []int64{1, 0, 0, 8, 16, 32, 64}),
		// What Keep lets through comes to the end of k0 r, though what it calls never comes back.
		item(1, "k0 r", []int64{1, 0, 0, 0, 16, 32, 64}), item(2, "k0 r", []int64{1, 0, 0, 0, 16, 32, 64}), item(1, "m0 r", []int64{3, 0, 4, 8, 16, 32, 64}), item(2, "m0 r", []int64{1, 0, 4, 8, 16, 32, 64}), item(1, "j0 r", impl.Unit()), item(1, "k1 k2 r;m3 k1 r;r", []int64{1, 0, 0, 0, 16, 32, 64}),
	} {
		checkIsRight(t, "by hand", cache(1, one), true)
		checkIsRight(t, "by hand", cache(3, soItem(1, "l0 r"), one, soItem(2, "l0 r")), true)
	}
	for n := range 21 {
		checkIsRight(t, "many", soCache(20, n), true)
		checkIsRight(t, "many", soCache(max(int64(n), 1), n), true)
	}
	for _, p := range changing() {
		for _, client := range bothClients {
			c, _ := impl.TablesBy(cache(20), p, client)
			checkIsRight(t, "what TablesBy made", c, true)
			for i := range p.Procs {
				checkIsRight(t, "of a Content", cache(1, soItem(client, contentBy(p, int64(i)))), true)
			}
		}
	}
}

// A Table with a fact more or fewer, one at a time; and one of the other client.
func TestP16RightOfAnotherTable(t *testing.T) {
	others := 0
	for at, p := range changing() {
		for _, client := range bothClients {
			made, _ := impl.TablesBy(cache(20), p, client)
			everyItem(made, func(copied impl.Cache, one *impl.Item) {
				was := slices.Clone(one.Table)
				everyFact([][]int64{was}, func(_, fact int, makes int64) {
					copy(one.Table, was)
					one.Table[fact] ^= 1 << makes
					if impl.Right(copied) || !impl.CacheOk(copied) {
						t.Fatalf("%v: Right %v, CacheOk %v", copied, impl.Right(copied), impl.CacheOk(copied))
					}
				})
				for _, table := range told()[:14] {
					copy(one.Table, table)
					checkIsRight(t, "another Table", copied, slices.Equal(table, was))
				}
				copy(one.Table, was)
				one.Client = 3 - client
				is := slices.Equal(tableBy(one.Client, one.Content), was)
				checkIsRight(t, "of the other client", copied, is)
				if !is {
					others++
				}
			})
			if at%3 == 0 {
				everyItem(made, func(copied impl.Cache, one *impl.Item) {
					copied.Items = append(copied.Items, soItem(3-client, "r"), item(3-client, "s r", allOf(0)))
					checkIsRight(t, "one that is not so at the end", copied, false)
				})
			}
		}
	}
	if others < 10 {
		t.Error("only", others, "with another table by the other client")
	}
}

// A Content that is one of a program but not as Content tells it: others in it than are called, or in another order.
func TestP16RightOfWhatIsNoContent(t *testing.T) {
	for _, content := range []string{
		"r;r", "m0 r;r", "r;m0 r", "m0 r;m1 r;m2 r", "r;r;r;r", "k0 r;r", "r;k0 r", "r;k1 r", "k2 r;r;r", "k2 r;m1 r;m2 r", "k2 k1 r;m1 r;m2 r", "k2 k1 r;r;m3 k2 r", "k1 r;m1 r;r", "k1 r;k3 r;r;r", "k3 r;r;r;r", "k3 k2 k1 r;m1 r;m2 r;m3 r", "m0 k2 r;m1 k0 r;m2 k1 r", "k1 r;k0 r;r", "k1 r;k0 r;k3 r;k2 r", "k1 k3 r;k2 r;m2 r;m3 r",
	} {
		p := written(t, content)
		for _, client := range bothClients {
			checkIsRight(t, "no Content", cache(2, soItem(client, content)), false)
			checkIsRight(t, "no Content", cache(2, soItem(client, "l1 r"), soItem(client, content)), false)
			checkIsRight(t, "its Content", cache(2, item(client, contentBy(p, 0), tableBy(client, content))), true)
		}
	}
	// Every order of what one calls, and one more that nobody calls.
	orders, none := 0, 0
	for _, p := range append(changing(), written(t, "k1 k2 k3 r;m1 r;m2 r;m3 r"), written(t, "m0 k1 r;m1 k2 r;m2 k3 r;m3 r")) {
		renamed(p, func(q impl.Program, _ []int64) {
			orders++
			one := soItem(1, shownOf(q))
			is := contentBy(q, 0) == shownOf(q)
			checkIsRight(t, "in another order", cache(1, one), is)
			if !is {
				none++
			}
		})
		if len(p.Procs) < 4 {
			more := program(append(slices.Clone(p.Procs), long(1))...)
			checkIsRight(t, "one more", cache(1, soItem(2, shownOf(more))), false)
		}
	}
	if orders < 200 || none < 100 {
		t.Error("only", orders, "orders, of which", none, "are no Content")
	}
}

// One that is so of another procedure than 0, or of another program.
func TestP16RightOfAnotherProcedure(t *testing.T) {
	wrong := 0
	for _, p := range changing() {
		for _, client := range bothClients {
			tables := impl.Tables(p, client)
			for i := range p.Procs {
				for j := range p.Procs {
					is := slices.Equal(tables[i], tables[j])
					checkIsRight(t, "the Table of another one", cache(1, item(client, contentBy(p, int64(i)), tables[j])), is)
					if !is {
						wrong++
					}
				}
			}
		}
	}
	if wrong < 30 {
		t.Error("only", wrong, "wrong ones")
	}
	for _, two := range [][2]string{{"m0 k1 r;m1 k0 r", "m1 k1 r;m0 k0 r"}, {"k1 r;m1 r", "m1 r"}, {"k1 k2 r;m3 k1 r;l0 r", "l0 r"}} {
		checkIsRight(t, "each its own", cache(2, soItem(1, two[0]), soItem(1, two[1])), true)
		checkIsRight(t, "the other's Table", cache(2, item(1, two[0], tableBy(1, two[1])), soItem(1, two[1])), slices.Equal(tableBy(1, two[0]), tableBy(1, two[1])))
	}
	// A Content of which one number is another one.
	altered, right := 0, 0
	everyOther(callers(), func(q impl.Program, _ impl.Place) {
		altered++
		one := item(1, shownOf(q), tableBy(1, shownOf(callers())))
		if is := isRight(cache(1, one)); impl.Right(cache(1, one)) != is {
			t.Fatalf("%v: Right is not %v", one, is)
		} else if is {
			right++
		}
	})
	if altered < 100 || right == altered {
		t.Error(altered, "were altered, of which", right, "are right")
	}
}

func TestP16EdgesOfTheRoom(t *testing.T) {
	rooms := append(nearAndFar(-3, 24), 1<<8+1, 1<<8+20, 1<<16+2, 1<<32+1, 1<<32+20, -20, math.MaxInt32, math.MinInt32)
	for _, room := range rooms {
		for _, n := range []int{0, 1, 2, 5} {
			c := soCache(room, n)
			checkEitherCache(t, "the Room", c, room >= 1 && room <= 20 && int64(n) <= room)
		}
	}
	for _, room := range []int64{0, 21} {
		for n := range 22 {
			checkNoCache(t, "the Room", soCache(room, n))
		}
	}
	checkNoCache(t, "the zero Cache", impl.Cache{})
	checkNoCache(t, "no Room, and an Item", cache(0, soItem(1, "r")))
}

func TestP16EdgesOfHowManyItems(t *testing.T) {
	for room := int64(1); room <= 20; room++ {
		for _, n := range []int64{0, 1, room - 1, room, room + 1, room + 2, 21, 22} {
			checkEitherCache(t, "how many Items", soCache(room, int(n)), n <= room)
		}
		// Full up to the last one, and one more comes.
		for n := int64(0); n <= room; n++ {
			c := soCache(room, int(n))
			got := usageOf(c).checkKept(t, c, newItem())
			if want := min(n+1, room); int64(len(got.Items)) != want {
				t.Errorf("Room %d, %d Items: %d then, want %d", room, n, len(got.Items), want)
			}
		}
	}
	for _, n := range []int{40, 256, 257, 276} {
		checkNoCache(t, "many Items", soCache(20, n))
		checkNoCache(t, "many Items", soCache(1, n))
	}
	checkNoCache(t, "many alike", cache(20, slices.Repeat(soItems(1, "r"), 256+3)...))
}

func TestP16EdgesOfTwoItems(t *testing.T) {
	five := soCache(5, 5)
	for i := range 5 {
		for j := range 5 {
			if i == j {
				continue
			}
			with := func(change func(to *impl.Item, from impl.Item), is bool) {
				c := roomyCache(five)
				for k := range c.Items {
					c.Items[k].Client, c.Items[k].Content = int64(1+k%2), []string{"r", "m0 r", "l0 r", "t0 r", "k0 r"}[k]
				}
				change(&c.Items[i], c.Items[j])
				checkEitherCache(t, "two Items", c, is)
			}
			with(func(to *impl.Item, from impl.Item) { to.Client, to.Content = from.Client, from.Content }, false)
			with(func(to *impl.Item, from impl.Item) { *to = from }, false)
			with(func(to *impl.Item, from impl.Item) { *to = item(from.Client, from.Content, allOf(77)) }, false)
			with(func(to *impl.Item, from impl.Item) { to.Client = from.Client }, true)
			with(func(to *impl.Item, from impl.Item) { to.Client, to.Content = 3-from.Client, from.Content }, true)
			with(func(to *impl.Item, from impl.Item) { to.Table = from.Table }, true)
		}
	}
	for room := int64(2); room <= 20; room++ {
		full := soCache(room, int(room))
		for i := range full.Items {
			c := roomyCache(full)
			c.Items[i] = c.Items[(i+1)%len(c.Items)]
			checkNoCache(t, "two alike of many", c)
		}
	}
	checkNoCache(t, "all alike", cache(3, soItem(1, "r"), soItem(1, "r"), soItem(1, "r")))
}

func TestP16EdgesOfTheClient(t *testing.T) {
	for _, client := range append(nearAndFar(-4, 8), 1<<8+1, 1<<8+2, 1<<32+1, 1<<32+2, -1<<32+1) {
		is := client == 1 || client == 2
		for _, content := range []string{"r", "m0 k1 r;c1,0 r"} {
			checkOneItem(t, "the Client", item(client, content, impl.Unit()), is)
		}
		for _, c := range someCaches() {
			for _, content := range []string{"r", "k0 r", ""} {
				usageOf(c).checkFound(t, c, client, content)
			}
			for _, p := range []impl.Program{alone(back()), callers()} {
				if is {
					usageOf(c).checkTablesBy(t, c, p, client)
				} else {
					checkNoTablesBy(t, "the client", c, p, client)
				}
			}
		}
		everyItem(soCache(6, 6), func(copied impl.Cache, one *impl.Item) {
			if one.Client = client; !is {
				checkNoCache(t, "the Client", copied)
			}
		})
	}
}

// unreadTexts are no texts of programs, each in a way of its own.
var unreadTexts = []string{
	"", " ", ";", "s", "x", "r ", " r", "r;", ";r", "r;;r", "r  r", "R", "m r", "m6 r", "m-1 r", "m00 r", "m0", "m0  r", "m0\nr", "m0,0 r", "c0 r", "c0,6 r", "c6,0 r", "c0,,1 r", "c0, 1 r", "b1 r", "j1", "j2 r", "j-1 r", "j r", "k1 r", "k4 r", "k-1 r", "k00 r", "k r", "r0", "s0 r", "t r", "l6 r", "r\x00", "r\n", "\xff",
	"r;r;r;r;r", "s s s s s s s s s s s s r", "k2 r;r", "m0 r;s", "r;x", "r;k2 r", "m0 r;r;", "ｒ", "m0 r r x", "m0 +1 r", "m+0 r", "j0x r", "k0x0 r", "m9999999999 r",
}

func TestP16EdgesOfTheContent(t *testing.T) {
	for _, content := range append(unreadTexts, strings.Repeat("r ", 600), strings.Repeat("s ", 499)+"r", strings.Repeat("r;", 499)+"r", strings.Repeat(" ", 1000), strings.Repeat("r", 1001)) {
		for _, client := range bothClients {
			checkOneItem(t, "the Content", item(client, content, impl.Unit()), false)
		}
	}
	for _, content := range append(manyContents(40), "r r", "s r", "m5 r", "c5,5 r", "j0 r", "j1 r", "j11 s s s s s s s s s s r", "s s s s s s s s s s s r", "r;r", "r;r;r;r", "k3 r;r;r;r", "k2 k1 r;r;m3 k2 r", shownOf(largest()), shownOf(callers())) {
		for _, client := range bothClients {
			checkOneItem(t, "the Content", item(client, content, told()[len(content)%len(told())]), true)
		}
	}
	// Each byte of a Content is another one.
	read := 0
	for _, content := range []string{"m0 k1 r;c1,0 r", "r"} {
		for at := range content {
			for b := range 256 {
				text := []byte(content)
				text[at] = byte(b)
				_, is := programRead(string(text))
				c := cache(2, item(1, string(text), impl.Unit()))
				if got := impl.CacheOk(c); got != is {
					t.Fatalf("%q: CacheOk %v", text, got)
				}
				usageOf(cache(2)).checkKept(t, cache(2), c.Items[0])
				if is {
					read++
				}
			}
		}
	}
	if read < 20 {
		t.Error("only", read, "were read")
	}
}

func TestP16EdgesOfTheTable(t *testing.T) {
	for _, table := range wrongRelations() {
		checkOneItem(t, "the Table", item(1, "r", table), false)
	}
	for _, table := range told() {
		checkOneItem(t, "the Table", item(2, "k1 r;r", table), true)
	}
	for n := range 16 {
		checkOneItem(t, "how long the Table is", item(1, "r", make([]int64, n)), n == 7)
	}
	for at := range 7 {
		for _, set := range append(nearAndFar(-2, 1), 126, 127, 128, 129) {
			for _, table := range [][]int64{allOf(0), allOf(127), impl.Unit()} {
				checkOneItem(t, "one set", item(2, "m0 r", changed(table, at, set)), set >= 0 && set <= 127)
			}
		}
	}
	for _, table := range [][]int64{nil, {}, make([]int64, 0, 7), make([]int64, 6, 7), make([]int64, 7, 8)} {
		checkOneItem(t, "the spare room", item(1, "r", table), len(table) == 7)
	}
}

// A Cache that is not right in one part of one Item, wherever it is.
func TestP16OneWrongItem(t *testing.T) {
	for _, c := range []impl.Cache{cache(1, soItem(1, "r")), soCache(5, 5), soCache(20, 20)} {
		everyItem(c, func(copied impl.Cache, one *impl.Item) {
			was := *one
			for _, client := range []int64{-1, 0, 3, math.MinInt64} {
				one.Client = client
				checkNoCache(t, "a wrong Client", copied)
			}
			*one = was
			for _, content := range unreadTexts[:6] {
				one.Content = content
				checkNoCache(t, "a wrong Content", copied)
			}
			*one = was
			for _, table := range [][]int64{nil, impl.Unit()[:6], make([]int64, 8), changed(impl.Unit(), 0, -1), changed(impl.Unit(), 6, 128)} {
				one.Table = table
				checkNoCache(t, "a wrong Table", copied)
			}
			*one = impl.Item{}
			checkNoCache(t, "the zero Item", copied)
			*one = was
			checkRightCache(t, copied)
		})
	}
}

// checkNotKept asks that a Cache is told as it is.
func checkNotKept(t *testing.T, c impl.Cache, one impl.Item) {
	t.Helper()
	if got, is := impl.Kept(c, one); is || !sameCache(got, c) || !impl.CacheOk(got) {
		t.Fatalf("%.300v: Kept %.300v: %.300v, %v", c, one, got, is)
	}
}

func TestP16KeptOfWhatIsNotRight(t *testing.T) {
	for _, c := range someCaches() {
		checkNotKept(t, c, impl.Item{})
		for _, good := range append(slices.Clone(c.Items), newItem(), soItem(1, "r")) {
			for _, client := range append(nearAndFar(-3, 0), 3, 4, 5, 1<<32+1) {
				checkNotKept(t, c, item(client, good.Content, good.Table))
			}
			for _, content := range append(unreadTexts, good.Content+" ", " "+good.Content, good.Content+";", good.Content+"\x00", strings.ToUpper(good.Content)) {
				checkNotKept(t, c, item(good.Client, content, good.Table))
			}
			for _, table := range wrongRelations() {
				checkNotKept(t, c, item(good.Client, good.Content, table))
			}
		}
	}
}

func TestP16FoundOfWhatNobodyHas(t *testing.T) {
	for _, c := range someCaches() {
		for _, one := range append(slices.Clone(c.Items), newItem()) {
			for _, client := range append(nearAndFar(-3, 6), 1<<32+1, 1<<32+2) {
				usageOf(c).checkFound(t, c, client, one.Content)
			}
			for _, content := range append(unreadTexts, one.Content+" ", " "+one.Content, one.Content+";", one.Content+"\x00", one.Content+";r", strings.ToUpper(one.Content), one.Content[1:], one.Content[:len(one.Content)-1], strings.Repeat("r", 2000)) {
				usageOf(c).checkFound(t, c, one.Client, content)
			}
		}
	}
}

func TestP16TablesByOfWhatIsNoProgram(t *testing.T) {
	caches := someCaches()
	at := 0
	either := func(p impl.Program, is bool) {
		at++
		c, client := caches[at%len(caches)], int64(1+at%2)
		if is {
			usageOf(c).checkTablesBy(t, c, p, client)
		} else {
			checkNoTablesBy(t, "no Program", c, p, client)
		}
	}
	oneWrongProc(func(p impl.Program) { either(p, false) })
	inOneField(t, either)
	howManyProcs(either)
	howManyStmts(either)
	for _, p := range []impl.Program{{}, {Procs: []impl.Proc{}}, {Procs: []impl.Proc{{}}}, alone(skip()), alone(back(), skip()), program(calling(1)), program(long(13)), program(slices.Repeat([]impl.Proc{long(1)}, 5)...)} {
		for _, c := range caches {
			for _, client := range nearAndFar(-2, 5) {
				checkNoTablesBy(t, "no Program", c, p, client)
			}
		}
	}
}

// The spare room behind each list is no part of a Cache.
func TestP16TheRoomBehindIsNoPart(t *testing.T) {
	for _, c := range someCaches() {
		checkRightCache(t, c)
		checkRightCache(t, roomyCache(c))
	}
	many := soCache(20, 30)
	for n := range 21 {
		checkRightCache(t, impl.Cache{Room: int64(max(n, 1)), Items: many.Items[:n]})
		checkRightCache(t, impl.Cache{Room: 20, Items: many.Items[30-n:]})
	}
}

// cacheAnswers are what the chapter tells of a Cache, each asked for twice.
func cacheAnswers(c impl.Cache, one impl.Item, p impl.Program, client int64) (caches []impl.Cache, holders [][][]int64, tables [][]int64) {
	for range 2 {
		for _, kept := range append(slices.Clone(c.Items), one, impl.Item{}) {
			got, _ := impl.Kept(c, kept)
			found, table, _ := impl.Found(c, kept.Client, kept.Content)
			caches, tables = append(caches, got, found), append(tables, table)
		}
		for _, q := range []impl.Program{p, {}, program(long(1), long(1), long(2), long(1))} {
			got, told := impl.TablesBy(c, q, client)
			caches, holders = append(caches, got), append(holders, told)
		}
	}
	return caches, holders, tables
}

// shownCaches are all of these, as texts of their own.
func shownCaches(caches []impl.Cache, holders [][][]int64, tables [][]int64) string {
	return fmt.Sprint(caches, holders, tables)
}

func checkCacheMemory(t *testing.T, c impl.Cache, one impl.Item, p impl.Program, client int64, given []stretch) {
	t.Helper()
	caches, holders, tables := cacheAnswers(c, one, p, client)
	lie := slices.Clone(given)
	for _, got := range caches {
		lie = append(lie, itemsLie(got.Items)...)
	}
	for _, told := range holders {
		lie = append(lie, liesAt(told)...)
		for _, table := range told {
			lie = append(lie, liesAt(table)...)
		}
	}
	for _, table := range tables {
		lie = append(lie, liesAt(table)...)
	}
	checkManyApart(t, fmt.Sprintf("%.300v", c), lie)
	want := shownCaches(caches, holders, tables)
	for _, got := range caches {
		spoilItems(got.Items)
	}
	for _, told := range holders {
		spoilLists(told)
	}
	for _, table := range tables {
		spoilNumbers(table)
	}
	if again := shownCaches(cacheAnswers(c, one, p, client)); again != want {
		t.Fatalf("%.900v: %.900s, once written over %.900s", c, want, again)
	}
	runtime.KeepAlive(c)
	runtime.KeepAlive(one)
	runtime.KeepAlive(p)
}

func TestP21CacheAnswersAreNewMemory(t *testing.T) {
	for _, c := range someCaches() {
		for _, given := range []impl.Cache{roomyCache(c), {Room: c.Room, Items: slices.Clip(roomyCache(c).Items)}} {
			for _, p := range []impl.Program{alone(back()), callers(), written(t, "m0 r;m0 k2 r;k0 r;r")} {
				for _, client := range bothClients {
					ones, p := roomyCache(cache(1, newItem())).Items, roomy(p)
					checkCacheMemory(t, given, ones[0], p, client, slices.Concat(itemsLie(given.Items), itemsLie(ones), programLies(p)))
				}
			}
		}
	}
}

// What is given may share memory with itself; what is told of it does not.
func TestP21CachesThatShareMemory(t *testing.T) {
	table, text := roomyNumbers(impl.Unit()), strings.Clone("s s s s r")
	var c impl.Cache
	for _, room := range []int64{6, 10, 20} {
		c = impl.Cache{Room: room}
		for n := 0; n <= 8; n += 4 {
			c.Items = append(c.Items, item(1, text[n:], table), item(2, text[n:], table))
		}
		given := slices.Concat(liesAt(c.Items), liesAt(table), textLies(text))
		p := program(long(5), long(3), long(1), long(1))
		p.Procs[3] = p.Procs[2]
		for n := 0; n <= 8; n += 2 {
			for _, client := range bothClients {
				checkCacheMemory(t, c, item(client, text[n:], table), p, client, given)
			}
		}
		for _, one := range c.Items {
			if !slices.Equal(one.Table, impl.Unit()) || !strings.HasSuffix("s s s s r", one.Content) {
				t.Errorf("%v was changed", c)
			}
		}
	}
	checkIsRight(t, "sharing", c, true)
}

// askCache calls each function of the chapter twice, and writes over what it answers.
func askCache(c impl.Cache, one impl.Item, p impl.Program, client int64) {
	for range 2 {
		impl.CacheOk(c)
		impl.Right(c)
		got, _ := impl.Kept(c, one)
		spoilItems(got.Items)
		got, table, _ := impl.Found(c, client, one.Content)
		spoilItems(got.Items)
		spoilNumbers(table)
		got, tables := impl.TablesBy(c, p, client)
		spoilItems(got.Items)
		spoilLists(tables)
	}
}

func TestP21CacheArgumentsStay(t *testing.T) {
	caches := append(someCaches(), impl.Cache{}, soCache(0, 3), soCache(21, 3), soCache(3, 5), cache(5, soItem(1, "r"), soItem(1, "r")), cache(5, item(0, "r", impl.Unit())), cache(5, item(1, "", impl.Unit())), cache(5, item(1, "r", nil)), cache(5, soItem(1, "r"), item(1, "m0 r", allOf(128))))
	items := []impl.Item{newItem(), soItem(1, "r"), soItem(2, "r"), item(1, "r", allOf(9)), {}, item(3, "r", impl.Unit()), item(1, "m6 r", impl.Unit()), item(1, "r", make([]int64, 8)), item(2, "r", changed(impl.Unit(), 3, -1))}
	programs := []impl.Program{alone(back()), callers(), {}, alone(skip()), program(long(1), long(13)), written(t, "m0 r;r;m0 r;k1 r")}
	for _, c := range caches {
		for _, one := range items {
			for i, p := range programs {
				for _, client := range []int64{int64(1 + i%2), 0, math.MaxInt64} {
					cacheStaysWhile(t, c, one, func(c impl.Cache, one impl.Item) {
						staysWhile(t, "caches", p, func(p impl.Program) { askCache(c, one, p, client) })
					})
				}
			}
		}
		for _, one := range c.Items {
			cacheStaysWhile(t, c, one, func(c impl.Cache, one impl.Item) { askCache(c, one, callers(), 1) })
			cacheStaysWhile(t, c, one, func(c impl.Cache, _ impl.Item) { askCache(c, c.Items[0], callers(), 2) })
		}
	}
}

func TestP21EndsOfInt64Caches(t *testing.T) {
	for _, end := range []int64{math.MinInt64, math.MinInt64 + 1, math.MaxInt64 - 1, math.MaxInt64} {
		for _, c := range someCaches() {
			for _, content := range []string{"", "r", "k0 r", "x"} {
				usageOf(c).checkFound(t, c, end, content)
			}
			checkNoTablesBy(t, "an end", c, callers(), end)
			checkNoTablesBy(t, "an end within", c, alone(mark(end), back()), 1)
			checkNotKept(t, c, item(end, "r", impl.Unit()))
			checkNotKept(t, c, item(1, "r", allOf(end)))
			for at := range 7 {
				checkNotKept(t, c, item(2, "m0 r", changed(impl.Unit(), at, end)))
			}
			other := roomyCache(c)
			other.Room = end
			checkNoCache(t, "an end as Room", other)
			everyItem(c, func(copied impl.Cache, one *impl.Item) {
				was := one.Client
				one.Client = end
				checkNoCache(t, "an end as Client", copied)
				one.Client, one.Table[end&1] = was, end
				checkNoCache(t, "an end in a Table", copied)
			})
		}
	}
}

func TestP21GreatCaches(t *testing.T) {
	great := strings.Repeat("r ", 1<<23) + "r"
	checkNoCache(t, "many Items", cache(20, slices.Repeat(soItems(1, "r"), 1<<20)...))
	checkNoCache(t, "a great Content", cache(20, soItem(2, "r"), item(1, great, impl.Unit())))
	checkNoCache(t, "great Contents", cache(20, item(1, great, impl.Unit()), item(2, great, impl.Unit())))
	checkNoCache(t, "a great Table", cache(20, item(1, "r", make([]int64, 1<<20))))
	for _, c := range someCaches() {
		checkNotKept(t, c, item(1, great, impl.Unit()))
		checkNotKept(t, c, item(1, "r", make([]int64, 1<<20)))
		usageOf(c).checkFound(t, c, 1, great[:1<<16])
		if got, table, is := impl.Found(c, 1, great); is || len(table) != 0 || !sameCache(got, c) {
			t.Error("a great Content is there")
		}
		checkNoTablesBy(t, "a great procedure", c, program(long(1<<20)), 1)
		checkNoTablesBy(t, "many procedures", c, program(slices.Repeat([]impl.Proc{calling(0)}, 1<<20)...), 1)
	}
}
