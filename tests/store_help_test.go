package tests

import (
	"cmp"
	"math"
	"reflect"
	"regexp"
	"slices"
	"strings"
	"testing"

	"loop.example/g00291/impl"
)

// project has the Programs that these texts tell, with Ids from first on.
func project(t *testing.T, name string, first int64, texts ...string) impl.Project {
	t.Helper()
	one := impl.Project{Name: name}
	for i, s := range texts {
		one.Versions = append(one.Versions, impl.Version{Id: first + int64(i), Program: written(t, s)})
	}
	return one
}

func store(projects ...impl.Project) []impl.Project { return projects }

func sameStore(a, b []impl.Project) bool {
	return slices.EqualFunc(a, b, func(x, y impl.Project) bool {
		return x.Name == y.Name && slices.EqualFunc(x.Versions, y.Versions, func(v, w impl.Version) bool {
			return v.Id == w.Id && sameProgram(v.Program, w.Program)
		})
	})
}

var nameForm = regexp.MustCompile(`\A[a-z]{1,12}\z`)

// isProject is the tests' own word on one Project: its Ids are the row that begins with the first.
func isProject(one impl.Project) bool {
	n := len(one.Versions)
	if !nameForm.MatchString(one.Name) || n < 1 || n > 4 || one.Versions[0].Id < 1 || one.Versions[0].Id > 100000 {
		return false
	}
	for i := range n - 1 {
		if one.Versions[i+1].Id-one.Versions[i].Id != 1 {
			return false
		}
	}
	return !slices.ContainsFunc(one.Versions, func(v impl.Version) bool { return !isProgram(v.Program) })
}

// isStore is the tests' own word on stores.
func isStore(list []impl.Project) bool {
	var names []string
	for _, one := range list {
		if !isProject(one) {
			return false
		}
		names = append(names, one.Name)
	}
	inOrder := slices.Clone(names)
	slices.Sort(inOrder)
	return len(list) <= 10 && slices.Equal(names, slices.Compact(inOrder))
}

// brought is one row of a ledger: under which name, and what it is shown as.
type brought struct {
	name, text string
}

// ledger is the tests' own word on what becomes of a store: rows are written behind one another, and none is ever taken out. What is
// there is found by counting. Ahead tells how many of a name came before the ledger was begun.
type ledger struct {
	ahead map[string]int64
	rows  []brought
}

func (l *ledger) of(name string) []string {
	var texts []string
	for _, row := range l.rows {
		if row.name == name {
			texts = append(texts, row.text)
		}
	}
	return texts
}

func (l *ledger) names() []string {
	var names []string
	for _, row := range l.rows {
		names = append(names, row.name)
	}
	slices.Sort(names)
	return slices.Compact(names)
}

func (l *ledger) latest(name string) int64 {
	texts := l.of(name)
	if len(texts) == 0 {
		return 0
	}
	return l.ahead[name] + int64(len(texts))
}

// text is what the Version with this Id is shown as, empty where there is none, or it is gone.
func (l *ledger) text(name string, id int64) string {
	latest := l.latest(name)
	for i, s := range l.of(name) {
		if at := l.ahead[name] + int64(i) + 1; at == id && latest-at < 4 {
			return s
		}
	}
	return ""
}

// put is the tests' own word on the Id that Put tells.
func (l *ledger) put(name string, p impl.Program) int64 {
	names := l.names()
	if !nameForm.MatchString(name) || !isProgram(p) || len(names) == 10 && !slices.Contains(names, name) || l.latest(name) >= 100000 {
		return -1
	}
	l.rows = append(l.rows, brought{name, shownOf(p)})
	return l.latest(name)
}

func (l *ledger) copied() *ledger { return &ledger{l.ahead, slices.Clone(l.rows)} }

// ledgerOf begins with what is in a right store.
func ledgerOf(list []impl.Project) *ledger {
	l := &ledger{ahead: map[string]int64{}}
	for _, one := range list {
		l.ahead[one.Name] = one.Versions[0].Id - 1
		for _, v := range one.Versions {
			l.rows = append(l.rows, brought{one.Name, shownOf(v.Program)})
		}
	}
	return l
}

// strangeNames are in no store of the tests; some could not be.
var strangeNames = []string{"", "nobody", "A", "a ", " a", "a\x00", "`", "{", "abcdefghijklm", "é"}

// checkName asks for all that a right store tells of one name.
func (l *ledger) checkName(t *testing.T, list []impl.Project, name string) {
	t.Helper()
	latest := l.latest(name)
	if got := impl.Latest(list, name); got != latest {
		t.Fatalf("%v: Latest of %q: %d, want %d", list, name, got, latest)
	}
	ids := []int64{0, 1, math.MinInt64, math.MaxInt64}
	if latest > 0 {
		ids = append(ids, -latest, latest-5, latest-4, latest-3, latest-2, latest-1, latest, latest+1, latest+1<<32)
	}
	for _, id := range ids {
		got, is := impl.Get(list, name, id)
		if want := l.text(name, id); is != (want != "") || is && shownOf(got) != want || !is && len(got.Procs) != 0 {
			t.Fatalf("%v: Get of %q, %d: %v, %v; want %q", list, name, id, got, is, want)
		}
	}
}

// checkStore asks that a store has just what the ledger tells, and that all is told of it.
func (l *ledger) checkStore(t *testing.T, list []impl.Project) {
	t.Helper()
	names := l.names()
	if !impl.StoreOk(list) || !isStore(list) {
		t.Fatalf("%v: StoreOk is %v", list, impl.StoreOk(list))
	}
	if got := impl.Names(list); !slices.Equal(got, names) || len(list) != len(names) {
		t.Fatalf("%v: Names %q, want %q", list, got, names)
	}
	for i, name := range names {
		texts, latest := l.of(name), l.latest(name)
		n := min(len(texts), 4)
		if list[i].Name != name || len(list[i].Versions) != n {
			t.Fatalf("%v: number %d is not %q with %d Versions", list, i, name, n)
		}
		for k, v := range list[i].Versions {
			if v.Id != latest-int64(n-1-k) || shownOf(v.Program) != texts[len(texts)-n+k] {
				t.Fatalf("%v: Version %d of %q is not as it was brought: %q", list, k, name, texts)
			}
		}
		l.checkName(t, list, name)
	}
	for _, name := range strangeNames {
		l.checkName(t, list, name)
	}
}

// checkPut puts into a store of which the ledger tells, and asks that all is as told, before and behind it.
func (l *ledger) checkPut(t *testing.T, list []impl.Project, name string, p impl.Program) ([]impl.Project, int64) {
	t.Helper()
	before := roomyStore(list)
	want := l.put(name, p)
	got, id := impl.Put(list, name, p)
	if id != want {
		t.Fatalf("%.500v: Put of %.100q, %.200v: %d, want %d", list, name, p, id, want)
	}
	l.checkStore(t, got)
	if !sameStore(list, before) || id == -1 && !sameStore(got, before) {
		t.Fatalf("%v: Put of %.100q, %.200v: it is %v then, and %v is told", before, name, p, list, got)
	}
	if id == -1 {
		return got, id
	}
	if read, is := impl.Get(got, name, id); !is || !sameProgram(read, p) || impl.Latest(got, name) != id || !slices.Contains(impl.Names(got), name) {
		t.Fatalf("%v: Put of %q, %v as %d: Get %v, %v, Latest %d, Names %q", list, name, p, id, read, is, impl.Latest(got, name), impl.Names(got))
	}
	return got, id
}

// checkRightStore asks for all of a right store, and puts into it.
func checkRightStore(t *testing.T, list []impl.Project) {
	t.Helper()
	ledgerOf(list).checkStore(t, list)
	names := []string{"a", "mm", "zzzzzzzzzzzz", "", "abcdefghijklm"}
	for _, one := range list {
		names = append(names, one.Name)
	}
	for _, name := range names {
		ledgerOf(list).checkPut(t, list, name, alone(mark(5), back()))
	}
	ledgerOf(list).checkPut(t, list, "b", alone(skip()))
}

// checkNoStore asks for the fixed answers of what is no store; what else is not right changes nothing there.
func checkNoStore(t *testing.T, why string, list []impl.Project) {
	t.Helper()
	if impl.StoreOk(list) {
		t.Fatalf("%s: %.300v: StoreOk", why, list)
	}
	names := []string{"a", "b", "zz", "nobody", "", "A", "abcdefghijklm"}
	ids := []int64{-1, 0, 1, 2, 100000, 100001}
	for _, one := range list[:min(len(list), 12)] {
		names = append(names, one.Name)
		for _, v := range one.Versions[:min(len(one.Versions), 6)] {
			ids = append(ids, v.Id)
		}
	}
	for _, name := range names {
		for _, p := range []impl.Program{alone(back()), callers(), {}, alone(skip())} {
			if got, id := impl.Put(list, name, p); len(got) != 0 || id != -1 {
				t.Fatalf("%s: %.300v: Put of %.100q, %v: %.300v, %d", why, list, name, p, got, id)
			}
		}
		if got := impl.Latest(list, name); got != 0 {
			t.Fatalf("%s: %.300v: Latest of %.100q: %d", why, list, name, got)
		}
		for _, id := range ids {
			if got, is := impl.Get(list, name, id); is || len(got.Procs) != 0 {
				t.Fatalf("%s: %.300v: Get of %.100q, %d: %v", why, list, name, id, got)
			}
		}
	}
	if got := impl.Names(list); len(got) != 0 {
		t.Fatalf("%s: %.300v: Names %.300q", why, list, got)
	}
}

// checkEither asks it of a store, and for the fixed answers of what is none.
func checkEither(t *testing.T, why string, list []impl.Project, is bool) {
	t.Helper()
	if is != isStore(list) {
		t.Fatalf("%s: %.300v: the test's own word is %v", why, list, !is)
	}
	if is {
		checkRightStore(t, list)
	} else {
		checkNoStore(t, why, list)
	}
}

// roomyStore is a copy in memory of its own, with strangers in the spare room behind each list.
func roomyStore(list []impl.Project) []impl.Project {
	room := make([]impl.Project, 0, len(list)+2)
	for _, one := range list {
		versions := make([]impl.Version, 0, len(one.Versions)+2)
		for _, v := range one.Versions {
			versions = append(versions, impl.Version{Id: v.Id, Program: roomy(v.Program)})
		}
		for i := len(versions); i < cap(versions); i++ {
			versions[:cap(versions)][i] = impl.Version{Id: 4711, Program: alone(mark(1), back())}
		}
		room = append(room, impl.Project{Name: strings.Clone(one.Name), Versions: versions})
	}
	for i := len(room); i < cap(room); i++ {
		room[:cap(room)][i] = impl.Project{Name: "stranger", Versions: []impl.Version{{Id: -4712}}}
	}
	return room
}

// openedStore is a copy with the spare room behind its lists shown as part of them.
func openedStore(list []impl.Project) []impl.Project {
	open := slices.Clone(list[:cap(list)])
	for i := range open {
		open[i].Name = strings.Clone(open[i].Name)
		open[i].Versions = slices.Clone(open[i].Versions[:cap(open[i].Versions)])
		for k, v := range open[i].Versions {
			open[i].Versions[k].Program = opened(v.Program)
		}
	}
	return open
}

// storeStaysWhile asks that nothing of a store is written, spare room included, while f runs.
func storeStaysWhile(t *testing.T, list []impl.Project, f func(list []impl.Project)) {
	t.Helper()
	room := roomyStore(list)
	before := openedStore(room)
	f(room)
	if !reflect.DeepEqual(before, openedStore(room)) {
		t.Fatalf("%.500v was changed to %.500v", before, openedStore(room))
	}
}

// storeLies is where each list and each Name of a store lies, spare room included.
func storeLies(list []impl.Project) []stretch {
	lie := liesAt(list)
	for _, one := range list {
		lie = append(append(lie, textLies(one.Name)...), liesAt(one.Versions)...)
		for _, v := range one.Versions {
			lie = append(lie, programLies(v.Program)...)
		}
	}
	return lie
}

// checkManyApart is checkMemoryApart of more stretches than can be held against each other one by one: two that overlap lie beside
// one another once all are in order.
func checkManyApart(t *testing.T, name string, lie []stretch) {
	t.Helper()
	lie = slices.DeleteFunc(lie, func(s stretch) bool { return s.from == s.to })
	slices.SortFunc(lie, func(a, b stretch) int { return cmp.Compare(a.from, b.from) })
	for i := range len(lie) - 1 {
		if overlap(lie[i:i+1], lie[i+1:i+2]) {
			t.Fatalf("%s: memory is shared", name)
		}
	}
}

// spoilStore writes over the lists of an answer, and over the spare room behind each.
func spoilStore(list []impl.Project) {
	list = list[:cap(list)]
	for i := range list {
		versions := list[i].Versions[:cap(list[i].Versions)]
		for k := range versions {
			spoilProgram(versions[k].Program)
			versions[k] = impl.Version{Id: -4711, Program: alone(ask(5))}
		}
		list[i] = impl.Project{Name: "spoilt", Versions: []impl.Version{{Id: -4712}}}
	}
}

func spoilTexts(texts []string) {
	texts = texts[:cap(texts)]
	for i := range texts {
		texts[i] = "spoilt"
	}
}

// letters is a Name that no other number below 676 has, of two letters; it rises as the number does.
func letters(n int) string { return string([]byte{byte('a' + n/26), byte('a' + n%26)}) }

// manyProjects is a store of n Projects, of 1 to 4 Versions each.
func manyProjects(n int) []impl.Project {
	var list []impl.Project
	for i := range n {
		one := impl.Project{Name: letters(50 * (i + 1))}
		for k := range i%4 + 1 {
			one.Versions = append(one.Versions, impl.Version{Id: int64(7*i + k + 1), Program: program(long(k+1), calling(0, 1, int64(i%2)))})
		}
		list = append(list, one)
	}
	return list
}

// someStores are right ones of all sorts.
func someStores(t *testing.T) [][]impl.Project {
	t.Helper()
	return [][]impl.Project{
		nil, {}, store(project(t, "a", 1, "r")), store(project(t, "abcdefghijkl", 100000, "m0 r", "k0 r", "s r", "k1 r;r")), store(project(t, "b", 1, "r", "s r", "s s r", "r"), project(t, "d", 3, "m3 k1 r;k0 r")),
		store(project(t, "a", 99996, "r", "s r", "t0 r", "l0 r"), project(t, "aa", 99999, "r"), project(t, "ab", 1, "c1,0 b2,5 r", "j0 r"), project(t, "b", 17, "r", "r", "r"), project(t, "z", 2, "k2 k1 r;r;m3 k2 r")),
		manyProjects(9), manyProjects(10),
	}
}

// everyVersion calls f with a copy of a store, and with each Version of that.
func everyVersion(list []impl.Project, f func(copied []impl.Project, v *impl.Version)) {
	for i, one := range list {
		for k := range one.Versions {
			copied := roomyStore(list)
			f(copied, &copied[i].Versions[k])
		}
	}
}
