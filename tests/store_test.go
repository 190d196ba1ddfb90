package tests

import (
	"math"
	"runtime"
	"slices"
	"strconv"
	"strings"
	"testing"

	"loop.example/g00291/impl"
)

// putCase tells a store, what is put there, and what is there then.
type putCase struct {
	list []impl.Project
	name string
	text string
	want []impl.Project
	id   int64
}

func checkPutCases(t *testing.T, cases []putCase) {
	t.Helper()
	for _, c := range cases {
		p := written(t, c.text)
		got, id := impl.Put(c.list, c.name, p)
		if id != c.id || !sameStore(got, c.want) {
			t.Errorf("%v: Put of %q, %q: %v, %d; want %v, %d", c.list, c.name, c.text, got, id, c.want, c.id)
		}
		ledgerOf(c.list).checkPut(t, c.list, c.name, p)
		ledgerOf(c.list).checkPut(t, roomyStore(c.list), c.name, roomy(p))
	}
}

func TestP15PutIntoAnEmptyStore(t *testing.T) {
	empty := make([]impl.Project, 0, 3)
	for _, list := range [][]impl.Project{nil, {}, empty, roomyStore(nil)} {
		for _, name := range []string{"a", "m", "z", "spoor", "abcdefghijkl"} {
			checkPutCases(t, []putCase{{list, name, "r", store(project(t, name, 1, "r")), 1}, {list, name, "m0 k1 r;k0 r", store(project(t, name, 1, "m0 k1 r;k0 r")), 1}})
		}
		checkRightStore(t, list)
	}
}

func TestP15PutAmongOthers(t *testing.T) {
	b, d := project(t, "b", 1, "r", "s r"), project(t, "d", 5, "m1 r")
	two := store(b, d)
	checkPutCases(t, []putCase{
		{two, "a", "t0 r", store(project(t, "a", 1, "t0 r"), b, d), 1}, {two, "c", "t0 r", store(b, project(t, "c", 1, "t0 r"), d), 1}, {two, "e", "t0 r", store(b, d, project(t, "e", 1, "t0 r")), 1},
		{two, "b", "t0 r", store(project(t, "b", 1, "r", "s r", "t0 r"), d), 3}, {two, "d", "t0 r", store(b, project(t, "d", 5, "m1 r", "t0 r")), 6},
		{two, "aaaaaaaaaaaa", "r", store(project(t, "aaaaaaaaaaaa", 1, "r"), b, d), 1}, {two, "ba", "r", store(b, project(t, "ba", 1, "r"), d), 1}, {two, "czzzzzzzzzzz", "r", store(b, project(t, "czzzzzzzzzzz", 1, "r"), d), 1}, {two, "da", "r", store(b, d, project(t, "da", 1, "r")), 1},
		{store(b), "a", "r", store(project(t, "a", 1, "r"), b), 1}, {store(b), "bb", "r", store(b, project(t, "bb", 1, "r")), 1}, {store(d), "d", "m1 r", store(project(t, "d", 5, "m1 r", "m1 r")), 6},
	})
}

// What is brought again is one Version more, be it as the one ahead was, or not.
func TestP15TheSameAgain(t *testing.T) {
	checkPutCases(t, []putCase{
		{store(project(t, "a", 1, "r")), "a", "r", store(project(t, "a", 1, "r", "r")), 2}, {store(project(t, "a", 1, "r", "s r")), "a", "r", store(project(t, "a", 1, "r", "s r", "r")), 3}, {store(project(t, "a", 4, "r", "r", "r", "r")), "a", "r", store(project(t, "a", 5, "r", "r", "r", "r")), 8},
		{store(project(t, "a", 1, "r")), "b", "r", store(project(t, "a", 1, "r"), project(t, "b", 1, "r")), 1},
	})
}

func TestP15TheFirstOneGone(t *testing.T) {
	a, c := project(t, "a", 9, "m5 r", "m5 r", "m5 r", "m5 r"), project(t, "c", 1, "l0 r", "l1 r", "l2 r", "l3 r")
	of := func(first int64, texts ...string) []impl.Project {
		return store(a, project(t, "b", first, texts...), c)
	}
	checkPutCases(t, []putCase{
		{store(a, c), "b", "m0 r", of(1, "m0 r"), 1}, {of(1, "m0 r"), "b", "m1 r", of(1, "m0 r", "m1 r"), 2}, {of(1, "m0 r", "m1 r"), "b", "m2 r", of(1, "m0 r", "m1 r", "m2 r"), 3},
		{of(1, "m0 r", "m1 r", "m2 r"), "b", "m3 r", of(1, "m0 r", "m1 r", "m2 r", "m3 r"), 4}, {of(1, "m0 r", "m1 r", "m2 r", "m3 r"), "b", "m4 r", of(2, "m1 r", "m2 r", "m3 r", "m4 r"), 5},
		{of(2, "m1 r", "m2 r", "m3 r", "m4 r"), "b", "m5 r", of(3, "m2 r", "m3 r", "m4 r", "m5 r"), 6}, {of(3, "r"), "b", "s r", of(3, "r", "s r"), 4}, {of(99995, "m0 r", "m1 r", "m2 r", "m3 r"), "b", "m4 r", of(99996, "m1 r", "m2 r", "m3 r", "m4 r"), 99999},
	})
	var list []impl.Project
	for n := int64(1); n <= 30; n++ {
		list, _ = impl.Put(list, "one", program(long(int(n)%12+1)))
		for id := int64(-1); id <= n+2; id++ {
			p, is := impl.Get(list, "one", id)
			if there := id >= 1 && id <= n && id > n-4; is != there || is && !sameProgram(p, program(long(int(id)%12+1))) {
				t.Errorf("of %d Versions number %d: %v, %v", n, id, p, is)
			}
		}
	}
}

func TestP15GetEach(t *testing.T) {
	list := store(project(t, "a", 3, "m0 r", "m1 r", "m2 r", "m3 r"), project(t, "b", 1, "l0 r"), project(t, "bb", 100000, "t0 r", "t1 r"))
	for _, c := range []struct {
		name string
		id   int64
		want string
	}{
		{"a", 3, "m0 r"}, {"a", 4, "m1 r"}, {"a", 5, "m2 r"}, {"a", 6, "m3 r"}, {"a", 1, ""}, {"a", 2, ""}, {"a", 7, ""}, {"a", 0, ""}, {"a", -3, ""}, {"b", 1, "l0 r"}, {"b", 0, ""}, {"b", 2, ""}, {"b", 3, ""}, {"b", -1, ""},
		{"bb", 100000, "t0 r"}, {"bb", 100001, "t1 r"}, {"bb", 99999, ""}, {"bb", 100002, ""}, {"bb", 1, ""}, {"c", 1, ""}, {"", 1, ""}, {"aa", 3, ""}, {"A", 3, ""}, {"ab", 3, ""}, {"bbb", 100000, ""}, {"a ", 3, ""}, {"a\x00", 3, ""},
	} {
		got, is := impl.Get(list, c.name, c.id)
		if is != (c.want != "") || shownOf(got) != c.want {
			t.Errorf("Get of %q, %d: %v, %v; want %q", c.name, c.id, got, is, c.want)
		}
	}
	for name, want := range map[string]int64{"a": 6, "b": 1, "bb": 100001, "c": 0, "": 0, "aa": 0, "A": 0, "bbb": 0, "a ": 0, "abcdefghijklm": 0} {
		if got := impl.Latest(list, name); got != want {
			t.Errorf("Latest of %q: %d, want %d", name, got, want)
		}
	}
	checkRightStore(t, list)
}

func TestP15NamesInOrder(t *testing.T) {
	names := []string{"a", "aa", "aaaaaaaaaaaa", "ab", "b", "ba", "m", "z", "za", "zzzzzzzzzzzz"}
	for _, order := range [][]int{{0, 1, 2, 3, 4, 5, 6, 7, 8, 9}, {9, 8, 7, 6, 5, 4, 3, 2, 1, 0}, {5, 0, 9, 3, 7, 1, 8, 2, 6, 4}, {4, 4, 0, 9, 0, 1, 2, 3, 9, 5, 6, 7, 8}} {
		var list []impl.Project
		l := ledgerOf(nil)
		for _, i := range order {
			list, _ = l.checkPut(t, list, names[i], alone(back()))
		}
		if got := impl.Names(list); !slices.Equal(got, names) {
			t.Errorf("%v: %q", order, got)
		}
	}
	if got := impl.Names(nil); len(got) != 0 {
		t.Error(got)
	}
}

// Every row of up to seven Puts under three Names.
func TestP15EveryOrderOfPuts(t *testing.T) {
	names := []string{"b", "a", "bb"}
	var put func(list []impl.Project, l *ledger)
	put = func(list []impl.Project, l *ledger) {
		n := len(l.rows)
		if n == 7 {
			l.checkStore(t, list)
			return
		}
		for _, name := range names {
			behind := l.copied()
			p := program(long(n+1), calling(0))
			want := behind.put(name, p)
			next, id := impl.Put(list, name, p)
			if id != want || !impl.StoreOk(next) {
				t.Fatalf("%v: Put of %q: %v, %d; want %d", list, name, next, id, want)
			}
			put(next, behind)
		}
	}
	put(nil, ledgerOf(nil))
}

// broughtBy draws what a script brings: mostly right.
func (d *draws) broughtBy(names []string) (string, impl.Program) {
	name, p := names[d.below(len(names))], d.program()
	switch d.below(16) {
	case 0:
		name = strangeNames[d.below(len(strangeNames))]
	case 1:
		wrong := wrongProcs()
		p.Procs[d.below(len(p.Procs))] = wrong[d.below(len(wrong))]
	case 2:
		p = d.simple()
	}
	return name, p
}

func TestP15ScriptsOfManyPuts(t *testing.T) {
	d := draws(15)
	refused, gone := 0, 0
	for script := range 160 {
		begun := someStores(t)[script%8]
		names := []string{"a", "aa", "abcdefghijkl", "b", "c", "d", "m", "y", "z", "zz", "zzz", letters(50), letters(100)}[d.below(4):]
		list, l := begun, ledgerOf(begun)
		for range 25 + d.below(30) {
			name, p := d.broughtBy(names[:1+d.below(len(names))])
			next, id := l.checkPut(t, list, name, p)
			if id == -1 {
				refused++
			} else if id > 4 {
				gone++
			}
			list = next
		}
	}
	if refused < 300 || gone < 1000 {
		t.Error("only", refused, "were refused, and", gone, "behind the fourth")
	}
}

// What was told before a Put is told of the store of then, whatever comes.
func TestP15OlderStoresStay(t *testing.T) {
	d := draws(151)
	var lists [][]impl.Project
	var ledgers []*ledger
	list, l := []impl.Project(nil), ledgerOf(nil)
	for range 150 {
		lists, ledgers = append(lists, list), append(ledgers, l.copied())
		name, p := d.broughtBy([]string{"a", "b", "c", "d", "e", "f", "g", "h", "i", "j", "k"})
		l.put(name, p)
		list, _ = impl.Put(list, name, p)
		// Who brought it may write over it then.
		spoilProgram(p)
	}
	for i := range lists {
		ledgers[i].checkStore(t, lists[i])
	}
}

// One store may go on in two ways; neither hears of the other.
func TestP15TwoWaysOn(t *testing.T) {
	for _, list := range someStores(t) {
		for _, name := range append(impl.Names(list), "nn") {
			one, other := ledgerOf(list), ledgerOf(list)
			room := roomyStore(list)
			oneList, _ := impl.Put(room, name, alone(mark(0), back()))
			otherList, _ := impl.Put(room, name, alone(wipe(0), back()))
			one.put(name, alone(mark(0), back()))
			other.put(name, alone(wipe(0), back()))
			for range 3 {
				oneList, _ = one.checkPut(t, oneList, name, alone(mark(1), back()))
				otherList, _ = other.checkPut(t, otherList, name, alone(wipe(1), back()))
				one.checkStore(t, oneList)
				other.checkStore(t, otherList)
			}
		}
	}
}

// checkOneName asks whether a text is taken as a Name: by Put, into an empty store and among others, and in a store.
func checkOneName(t *testing.T, name string, is bool) {
	t.Helper()
	if nameForm.MatchString(name) != is {
		t.Fatalf("%q: the test's own word is %v", name, !is)
	}
	for _, list := range [][]impl.Project{nil, manyProjects(3)} {
		got, id := ledgerOf(list).checkPut(t, list, name, alone(back()))
		if is && (id != 1 || len(got) != len(list)+1) || !is && (id != -1 || len(got) != len(list)) {
			t.Fatalf("%q: Put %v, %d", name, got, id)
		}
	}
	checkEither(t, "the Name", store(project(t, name, 1, "r")), is)
	// Names that are not right may still rise.
	list := append(manyProjects(2), project(t, name, 1, "r"))
	slices.SortFunc(list, func(a, b impl.Project) int { return strings.Compare(a.Name, b.Name) })
	checkEither(t, "the Name among others", list, is)
}

func TestP15EdgesOfHowLongNamesAre(t *testing.T) {
	for n := range 20 {
		for _, letter := range []string{"a", "m", "z"} {
			checkOneName(t, strings.Repeat(letter, n), n >= 1 && n <= 12)
		}
	}
	for _, n := range []int{100, 255, 256, 257, 258, 268, 269, 1 << 16, 1<<16 + 1} {
		checkOneName(t, strings.Repeat("a", n), false)
	}
	checkOneName(t, "abcdefghijkl", true)
	checkOneName(t, "mnopqrstuvwx", true)
	checkOneName(t, "yz", true)
	checkOneName(t, "abcdefghijklm", false)
}

func TestP15EdgesOfTheLetters(t *testing.T) {
	for b := range 256 {
		for _, n := range []int{1, 2, 3, 12} {
			for at := range n {
				name := []byte(strings.Repeat("x", n))
				name[at] = byte(b)
				checkOneName(t, string(name), b >= 'a' && b <= 'z')
			}
		}
	}
	for _, name := range []string{"é", "ａ", "ſ", "ß", "ñandu", "a\u0301", "aé", "éa", "\xff\xfe", "a\x80", "a b", " a", "a ", "a\n", "\na", "a-b", "a_b", "a.b", "a0", "0", "A", "Z", "aZ", "éééééé", "`", "{", "a`", "z{", "\x00"} {
		checkOneName(t, name, false)
	}
}

func TestP15EdgesOfHowManyVersions(t *testing.T) {
	texts := []string{"r", "s r", "m0 r", "k0 r", "k1 r;r", "t0 r", "l0 r", "j0 r", "r r"}
	for n := range len(texts) {
		for _, first := range []int64{1, 2, 50, 99999, 100000} {
			one := project(t, "m", first, texts[:n]...)
			for _, list := range [][]impl.Project{store(one), store(project(t, "a", 1, "r"), one), store(one, project(t, "z", 1, "r")), store(project(t, "a", 1, "r", "r", "r", "r"), one, project(t, "z", 1, "r"))} {
				checkEither(t, "how many Versions", list, n >= 1 && n <= 4)
			}
		}
	}
	for _, versions := range [][]impl.Version{nil, {}, make([]impl.Version, 0, 4)} {
		checkNoStore(t, "no Versions", store(impl.Project{Name: "a", Versions: versions}))
	}
	checkNoStore(t, "many Versions", store(project(t, "a", 1, slices.Repeat([]string{"r"}, 256+1)...)))
}

func TestP15EdgesOfHowManyProjects(t *testing.T) {
	for n := range 14 {
		checkEither(t, "how many Projects", manyProjects(n), n <= 10)
	}
	p := alone(mark(2), back())
	for n := 8; n <= 10; n++ {
		list := manyProjects(n)
		// Each Name that is there; and one ahead of all, between each two, and behind all.
		for i := range n {
			want := list[i].Versions[len(list[i].Versions)-1].Id + 1
			if got, id := ledgerOf(list).checkPut(t, list, list[i].Name, p); id != want || len(got) != n {
				t.Errorf("%d Projects: Put of %q: %v, %d", n, list[i].Name, got, id)
			}
		}
		for i := range n + 1 {
			got, id := ledgerOf(list).checkPut(t, list, letters(50*i+25), p)
			if n == 10 && (id != -1 || !sameStore(got, list)) || n < 10 && (id != 1 || len(got) != n+1 || got[i].Name != letters(50*i+25)) {
				t.Errorf("%d Projects: Put of %q: %v, %d", n, letters(50*i+25), got, id)
			}
		}
	}
	checkNoStore(t, "many Projects", manyProjects(12))
	checkNoStore(t, "many alike", slices.Repeat(store(project(t, "a", 1, "r")), 256+2))
}

func TestP15EdgesOfTheFirstId(t *testing.T) {
	texts := []string{"r", "s r", "m0 r", "k0 r"}
	ids := append(nearAndFar(-6, 6), 99995, 99996, 99997, 99998, 99999, 100000, 100001, 100002, 100003, 100004, -100000, 1<<32+100000)
	for _, first := range ids {
		for n := 1; n <= 4; n++ {
			one := project(t, "m", first, texts[:n]...)
			is := first >= 1 && first <= 100000
			checkEither(t, "the first Id", store(one), is)
			checkEither(t, "the first Id", store(project(t, "a", 100000, "r"), one), is)
			checkEither(t, "the first Id", store(one, project(t, "z", 1, "r")), is)
		}
	}
}

func TestP15EdgesOfTheNextId(t *testing.T) {
	texts := []string{"r", "s r", "m0 r", "k0 r"}
	p := alone(ask(3), back())
	for first := int64(99994); first <= 100000; first++ {
		for n := 1; n <= 4; n++ {
			list := store(project(t, "a", 1, "r"), project(t, "m", first, texts[:n]...), project(t, "z", 99999, "r"))
			next := first + int64(n)
			got, id := ledgerOf(list).checkPut(t, list, "m", p)
			if next <= 100000 && id != next || next > 100000 && (id != -1 || !sameStore(got, list)) {
				t.Errorf("first %d, %d Versions: Put %v, %d", first, n, got, id)
			}
			// Others have room still.
			if _, id := ledgerOf(list).checkPut(t, list, "a", p); id != 2 {
				t.Error("another Name:", id)
			}
			if _, id := ledgerOf(list).checkPut(t, list, "n", p); id != 1 {
				t.Error("a new Name:", id)
			}
			if _, id := ledgerOf(list).checkPut(t, list, "z", p); id != 100000 {
				t.Error("up to the last Id:", id)
			}
		}
	}
	list := store(project(t, "a", 99990, "r", "s r", "m0 r", "k0 r"))
	l := ledgerOf(list)
	for want := int64(99994); want <= 100000; want++ {
		got, id := l.checkPut(t, list, "a", p)
		if id != want {
			t.Errorf("%v: %d, want %d", list, id, want)
		}
		list = got
	}
	for range 3 {
		got, id := l.checkPut(t, list, "a", p)
		if id != -1 || !sameStore(got, list) || impl.Latest(got, "a") != 100000 || got[0].Versions[0].Id != 99997 {
			t.Errorf("behind the last Id: %v, %d", got, id)
		}
	}
}

func TestP15EdgesOfOneId(t *testing.T) {
	texts := []string{"r", "s r", "m0 r", "k0 r"}
	wrong := 0
	for _, first := range []int64{1, 2, 7, 99998, 100000} {
		for n := 2; n <= 4; n++ {
			list := store(project(t, "a", 5, "r"), project(t, "m", first, texts[:n]...))
			for at := range n {
				was := list[1].Versions[at].Id
				ids := append(nearAndFar(-2, 12), was-2, was-1, was, was+1, was+2, was+1<<32, was+1<<8, was-1<<32, -was, first, first+1)
				for _, id := range ids {
					other := roomyStore(list)
					other[1].Versions[at].Id = id
					checkEither(t, "one Id", other, id == was)
					if id != was {
						wrong++
					}
				}
			}
		}
	}
	for _, ids := range [][]int64{{1, 1}, {2, 1}, {1, 3}, {1, 2, 2}, {1, 2, 4}, {1, 2, 1}, {3, 2, 1}, {1, 2, 3, 3}, {1, 2, 3, 5}, {4, 3, 2, 1}, {1, 3, 5, 7}, {1, 0}, {1, math.MinInt64}, {math.MaxInt64, math.MinInt64}, {0, 1}, {0, 1, 2, 3}, {-1, 0}, {100001, 100002}, {1, 3, 2, 4}} {
		one := impl.Project{Name: "a"}
		for _, id := range ids {
			one.Versions = append(one.Versions, impl.Version{Id: id, Program: alone(back())})
		}
		checkNoStore(t, "Ids", store(one))
	}
	if wrong < 1000 {
		t.Error("only", wrong, "wrong ones")
	}
}

func TestP15NamesThatDoNotRise(t *testing.T) {
	names := []string{"a", "aa", "ab", "b", "z"}
	rise := func(row []string) bool {
		for i := range len(row) - 1 {
			if strings.Compare(row[i], row[i+1]) != -1 {
				return false
			}
		}
		return true
	}
	right := 0
	for code := range 5 * 5 * 5 * 5 {
		row := []string{names[code/125], names[code/25%5], names[code/5%5], names[code%5]}
		for n := 2; n <= 4; n++ {
			var list []impl.Project
			for _, name := range row[:n] {
				list = append(list, project(t, name, 1, "r"))
			}
			is := rise(row[:n])
			if is {
				right++
			}
			checkEither(t, "the order of Names", list, is)
		}
	}
	if right < 100 {
		t.Error("only", right, "right ones")
	}
	for i := range 9 {
		list := manyProjects(10)
		list[i], list[i+1] = list[i+1], list[i]
		checkNoStore(t, "two put the other way round", list)
		list = manyProjects(10)
		list[i+1].Name = list[i].Name
		checkNoStore(t, "two alike", list)
		list = manyProjects(10)
		list[9-i].Name = list[0].Name
		checkNoStore(t, "alike to the first", list)
	}
}

// A store that is not right in one Program of one Version.
func TestP15OneWrongProgram(t *testing.T) {
	base := store(project(t, "a", 1, "r", "s r"), project(t, "m", 4, "r", "s r", "m0 r", "k0 r"), project(t, "z", 100000, "r"))
	oneWrongProc(func(p impl.Program) {
		everyVersion(base, func(copied []impl.Project, v *impl.Version) {
			v.Program = p
			checkNoStore(t, "one wrong Program", copied)
		})
	})
	at := 0
	inOneField(t, func(p impl.Program, is bool) {
		at++
		list := roomyStore(base)
		one := list[at%3].Versions
		one[at%len(one)].Program = p
		if is {
			ledgerOf(list).checkStore(t, list)
		} else if impl.StoreOk(list) {
			t.Fatalf("%v: StoreOk", list)
		} else if at%17 == 0 {
			checkNoStore(t, "one wrong field", list)
		}
	})
	count := func(p impl.Program, is bool) {
		everyVersion(base, func(copied []impl.Project, v *impl.Version) {
			v.Program = p
			if impl.StoreOk(copied) != is {
				t.Fatalf("%v: StoreOk is not %v", copied, is)
			}
		})
	}
	howManyProcs(count)
	howManyStmts(count)
	everyVersion(base, func(copied []impl.Project, v *impl.Version) {
		v.Program = impl.Program{}
		checkNoStore(t, "the zero Program", copied)
	})
	everyVersion(base, func(copied []impl.Project, v *impl.Version) {
		*v = impl.Version{}
		checkNoStore(t, "the zero Version", copied)
	})
	for i := range base {
		copied := roomyStore(base)
		copied[i] = impl.Project{}
		checkNoStore(t, "the zero Project", copied)
	}
}

// checkNotPut asks that a store is told as it is.
func checkNotPut(t *testing.T, list []impl.Project, name string, p impl.Program) {
	t.Helper()
	if got, id := impl.Put(list, name, p); id != -1 || !sameStore(got, list) || !impl.StoreOk(got) {
		t.Fatalf("%.300v: Put of %.100q, %.200v: %.300v, %d", list, name, p, got, id)
	}
}

func TestP15PutOfWhatIsNoProgram(t *testing.T) {
	lists := someStores(t)
	names := []string{"a", "b", "m", letters(50), "abcdefghijkl"}
	at := 0
	refuse := func(p impl.Program) {
		at++
		checkNotPut(t, lists[at%len(lists)], names[at%len(names)], p)
	}
	oneWrongProc(func(p impl.Program) {
		for _, list := range lists {
			for _, name := range names {
				checkNotPut(t, list, name, p)
			}
		}
	})
	either := func(p impl.Program, is bool) {
		if !is {
			refuse(p)
			return
		}
		list := lists[at%5]
		ledgerOf(list).checkPut(t, list, "nn", p)
		at++
	}
	inOneField(t, either)
	howManyProcs(either)
	howManyStmts(either)
	for _, p := range []impl.Program{{}, {Procs: []impl.Proc{}}, {Procs: []impl.Proc{{}}}, alone(skip()), alone(back(), skip()), program(calling(1)), program(long(13)), program(slices.Repeat([]impl.Proc{long(1)}, 5)...)} {
		for _, list := range lists {
			for _, name := range append(names, strangeNames...) {
				checkNotPut(t, list, name, p)
			}
		}
	}
}

func TestP15PutOfWhatIsNoName(t *testing.T) {
	for _, list := range someStores(t) {
		for _, name := range []string{"", "A", "abcdefghijklm", "`", "{", "a`", "a{", "ab cd", "é", "0", "a\n", strings.Repeat("z", 1000)} {
			for _, p := range changing() {
				checkNotPut(t, list, name, p)
			}
		}
		for _, one := range list {
			for _, name := range []string{strings.ToUpper(one.Name), one.Name + " ", " " + one.Name, one.Name + "\x00", one.Name + "-", one.Name + strings.Repeat("z", 12)} {
				checkNotPut(t, list, name, alone(back()))
				if got := impl.Latest(list, name); got != 0 {
					t.Errorf("Latest of %q: %d", name, got)
				}
				if p, is := impl.Get(list, name, one.Versions[0].Id); is || len(p.Procs) != 0 {
					t.Errorf("Get of %q: %v", name, p)
				}
			}
		}
	}
}

// The spare room behind each list is no part of a store.
func TestP15TheRoomBehindIsNoPart(t *testing.T) {
	for _, list := range someStores(t) {
		checkRightStore(t, list)
		checkRightStore(t, roomyStore(list))
	}
	full := manyProjects(13)
	checkRightStore(t, full[:10])
	one := project(t, "a", 1, "r", "s r", "m0 r", "k0 r", "t0 r")
	for n := 1; n <= 4; n++ {
		checkRightStore(t, store(impl.Project{Name: "a", Versions: one.Versions[:n]}))
		checkRightStore(t, store(impl.Project{Name: "a", Versions: one.Versions[5-n:]}))
	}
}

// Programs of all sorts are told as they were brought.
func TestP15AllSortsOfPrograms(t *testing.T) {
	d := draws(152)
	programs := changing()
	for range 300 {
		programs = append(programs, d.program(), d.simple(), d.spinning())
	}
	for _, s := range rightStmts() {
		p := program(long(12), long(1), long(1), long(1))
		p.Procs[0].Stmts[3] = s
		programs = append(programs, p)
	}
	list, l := []impl.Project(nil), ledgerOf(nil)
	for i, p := range programs {
		list, _ = l.checkPut(t, list, letters(i%10), p)
		if i%100 == 99 {
			l = ledgerOf(list)
		}
	}
}

// storeAnswers are what the chapter tells of a store, each asked for twice.
func storeAnswers(list []impl.Project, name string, p impl.Program) (stores [][]impl.Project, programs []impl.Program, names [][]string) {
	for range 2 {
		for _, brought := range []string{name, "nn", "", "no name"} {
			for _, q := range []impl.Program{p, {}} {
				got, _ := impl.Put(list, brought, q)
				stores = append(stores, got)
			}
		}
		for _, one := range list {
			for _, v := range one.Versions {
				got, _ := impl.Get(list, one.Name, v.Id)
				programs = append(programs, got)
			}
		}
		names = append(names, impl.Names(list))
	}
	return stores, programs, names
}

// shownStore is all that a store has, as a text.
func shownStore(list []impl.Project) string {
	var out strings.Builder
	for _, one := range list {
		out.WriteString(one.Name)
		for _, v := range one.Versions {
			out.WriteString(" " + strconv.FormatInt(v.Id, 10) + " " + shownOf(v.Program))
		}
		out.WriteString("\n")
	}
	return out.String()
}

// shownAnswers are all of these, as texts of their own.
func shownAnswers(stores [][]impl.Project, programs []impl.Program, names [][]string) []string {
	var all []string
	for _, got := range stores {
		all = append(all, shownStore(got))
	}
	for _, got := range programs {
		all = append(all, shownOf(got))
	}
	for _, got := range names {
		all = append(all, strings.Join(got, " "))
	}
	return all
}

func checkStoreMemory(t *testing.T, list []impl.Project, name string, p impl.Program, given []stretch) {
	t.Helper()
	stores, programs, names := storeAnswers(list, name, p)
	lie := slices.Clone(given)
	for _, got := range stores {
		lie = append(lie, storeLies(got)...)
	}
	for _, got := range programs {
		lie = append(lie, programLies(got)...)
	}
	for _, got := range names {
		lie = append(lie, liesAt(got)...)
		for _, s := range got {
			lie = append(lie, textLies(s)...)
		}
	}
	checkManyApart(t, shownStore(list), lie)
	want := shownAnswers(stores, programs, names)
	for _, got := range stores {
		spoilStore(got)
	}
	for _, got := range programs {
		spoilProgram(got)
	}
	for _, got := range names {
		spoilTexts(got)
	}
	if again := shownAnswers(storeAnswers(list, name, p)); !slices.Equal(again, want) {
		t.Fatalf("%v: Put of %q: %q, once written over %q", list, name, want, again)
	}
	runtime.KeepAlive(list)
	runtime.KeepAlive(p)
}

func TestP21StoreAnswersAreNewMemory(t *testing.T) {
	for _, list := range someStores(t) {
		for _, given := range [][]impl.Project{roomyStore(list), slices.Clip(roomyStore(list))} {
			for _, name := range append(impl.Names(given), "new", "zzz") {
				name, p := strings.Clone(name), roomy(callers())
				checkStoreMemory(t, given, name, p, slices.Concat(storeLies(given), programLies(p), textLies(name)))
			}
		}
	}
}

// What is given may share memory with itself; what is told of it does not.
func TestP21StoresThatShareMemory(t *testing.T) {
	p := roomy(callers())
	p.Procs[1].Stmts = p.Procs[0].Stmts
	p.Procs[3] = p.Procs[2]
	name := "aaaaaaaa"
	var list []impl.Project
	versions := []impl.Version{{Id: 1, Program: p}, {Id: 2, Program: p}, {Id: 3, Program: p}, {Id: 4, Program: p}}
	for n := 2; n <= 8; n += 2 {
		list = append(list, impl.Project{Name: name[:n], Versions: versions[:n/2]})
	}
	shown := shownStore(list)
	given := slices.Concat(liesAt(list), liesAt(versions), programLies(p)[:2], programLies(p)[3:4], textLies(name))
	for n := 1; n <= 8; n++ {
		checkStoreMemory(t, list, name[:n], p, given)
		checkStoreMemory(t, list, name[:n], list[0].Versions[0].Program, given)
	}
	if shown != shownStore(list) {
		t.Errorf("%q was changed to %q", shown, shownStore(list))
	}
}

// askStore calls each function of the chapter twice, and writes over what it answers.
func askStore(list []impl.Project, name string, p impl.Program, id int64) {
	for range 2 {
		impl.StoreOk(list)
		got, _ := impl.Put(list, name, p)
		spoilStore(got)
		read, _ := impl.Get(list, name, id)
		spoilProgram(read)
		spoilTexts(impl.Names(list))
		impl.Latest(list, name)
	}
}

func TestP21StoreArgumentsStay(t *testing.T) {
	lists := append(someStores(t), manyProjects(11), store(project(t, "a", 0, "r")), store(project(t, "a", 1, "r", "r", "r", "r", "r")), store(project(t, "b", 1, "r"), project(t, "a", 1, "r")), store(project(t, "a", 1)), store(impl.Project{}), store(project(t, "A", 1, "r")))
	for _, wrong := range wrongProcs() {
		lists = append(lists, store(project(t, "a", 1, "r"), impl.Project{Name: "b", Versions: []impl.Version{{Id: 1, Program: program(calling(1), wrong)}}}))
	}
	programs := []impl.Program{alone(back()), callers(), largest(), {}, alone(skip()), program(long(1), long(13))}
	for _, list := range lists {
		for _, name := range []string{"a", "b", "d", "nn", letters(50), letters(75), "", "A"} {
			for _, p := range programs {
				for _, id := range []int64{1, 2, 100000, math.MinInt64} {
					storeStaysWhile(t, list, func(list []impl.Project) {
						staysWhile(t, "stores", p, func(p impl.Program) { askStore(list, name, p, id) })
					})
				}
			}
		}
	}
}

func TestP21EndsOfInt64Stores(t *testing.T) {
	for _, end := range []int64{math.MinInt64, math.MinInt64 + 1, math.MaxInt64 - 1, math.MaxInt64} {
		for _, list := range someStores(t) {
			for _, name := range append(impl.Names(list), strangeNames...) {
				if p, is := impl.Get(list, name, end); is || len(p.Procs) != 0 {
					t.Errorf("%v: Get of %q, %d: %v", list, name, end, p)
				}
			}
			everyVersion(list, func(copied []impl.Project, v *impl.Version) {
				v.Id = end
				checkNoStore(t, "an end", copied)
			})
			everyVersion(list, func(copied []impl.Project, v *impl.Version) {
				v.Program.Procs[0].Stmts[0] = impl.Stmt{Kind: impl.StMark, X: end}
				checkNoStore(t, "an end within", copied)
			})
			for i := range list {
				copied := roomyStore(list)
				for k := range copied[i].Versions {
					copied[i].Versions[k].Id = end + int64(k)
				}
				checkNoStore(t, "from an end on", copied)
			}
		}
	}
}

func TestP21GreatStores(t *testing.T) {
	great := strings.Repeat("a", 1<<24)
	one := project(t, "a", 1, "r")
	checkNoStore(t, "many Projects", slices.Repeat(store(one), 1<<20))
	checkNoStore(t, "many Versions", store(impl.Project{Name: "a", Versions: slices.Repeat(one.Versions, 1<<20)}))
	checkNoStore(t, "a great Name", store(impl.Project{Name: great, Versions: one.Versions}))
	checkNoStore(t, "two great Names", store(impl.Project{Name: great, Versions: one.Versions}, impl.Project{Name: great + "b", Versions: one.Versions}))
	checkNoStore(t, "a great Program", store(impl.Project{Name: "a", Versions: []impl.Version{{Id: 1, Program: program(long(1 << 20))}}}))
	for _, list := range someStores(t) {
		checkNotPut(t, list, great, alone(back()))
		checkNotPut(t, list, "a", program(long(1<<20)))
		checkNotPut(t, list, "nn", program(slices.Repeat([]impl.Proc{calling(0)}, 1<<20)...))
		if _, is := impl.Get(list, great, 1); is || impl.Latest(list, great) != 0 {
			t.Error("a great name is there")
		}
	}
}
