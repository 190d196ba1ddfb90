package tests

import (
	"fmt"
	"reflect"
	"slices"
	"strings"
	"testing"

	"loop.example/g00291/impl"
)

func item(client int64, content string, table []int64) impl.Item {
	return impl.Item{Client: client, Content: content, Table: table}
}

func cache(room int64, items ...impl.Item) impl.Cache { return impl.Cache{Room: room, Items: items} }

func sameItem(a, b impl.Item) bool {
	return a.Client == b.Client && a.Content == b.Content && slices.Equal(a.Table, b.Table)
}

func sameCache(a, b impl.Cache) bool {
	return a.Room == b.Room && slices.EqualFunc(a.Items, b.Items, sameItem)
}

// isRelation is the tests' own word on relations.
func isRelation(r []int64) bool {
	return len(r) == 7 && slices.Min(r) >= 0 && slices.Max(r) < allSets
}

// isItem is the tests' own word on one Item.
func isItem(one impl.Item) bool {
	_, reads := programRead(one.Content)
	return reads && slices.Contains(bothClients, one.Client) && isRelation(one.Table)
}

// itemKey is what no two Items of a Cache have both.
type itemKey struct {
	client  int64
	content string
}

func keyOf(one impl.Item) itemKey { return itemKey{one.Client, one.Content} }

// isCache is the tests' own word on caches.
func isCache(c impl.Cache) bool {
	keys := map[itemKey]int{}
	for _, one := range c.Items {
		keys[keyOf(one)]++
	}
	return c.Room >= 1 && c.Room <= 20 && int64(len(c.Items)) <= c.Room && len(keys) == len(c.Items) && !slices.ContainsFunc(c.Items, func(one impl.Item) bool { return !isItem(one) })
}

// contentBy is the tests' own word on Content; p is right.
func contentBy(p impl.Program, proc int64) string { return shownOf(ordered(p, cameBy(p, proc))) }

// tableBy is the tests' own word on the table of procedure 0 of what a right text tells.
func tableBy(client int64, content string) []int64 {
	p, _ := programRead(content)
	return summed(p, client).tables(p)[0]
}

// isSo is the tests' own word on one right Item of a Cache that is Right.
func isSo(one impl.Item) bool {
	p, _ := programRead(one.Content)
	return contentBy(p, 0) == one.Content && slices.Equal(tableBy(one.Client, one.Content), one.Table)
}

// isRight is the tests' own word on Right.
func isRight(c impl.Cache) bool {
	return isCache(c) && !slices.ContainsFunc(c.Items, func(one impl.Item) bool { return !isSo(one) })
}

// soItem has the table that its Content has.
func soItem(client int64, content string) impl.Item {
	return item(client, content, tableBy(client, content))
}

// soItems are of one client.
func soItems(client int64, contents ...string) []impl.Item {
	var items []impl.Item
	for _, content := range contents {
		items = append(items, soItem(client, content))
	}
	return items
}

// usage is the tests' own word on what becomes of a Cache: each use is a row behind all others, and none is ever taken out. What is
// there is found by going backwards.
type usage struct {
	room int64
	rows []impl.Item
}

// usageOf begins with what is in a right Cache: the last one was used first.
func usageOf(c impl.Cache) *usage {
	u := &usage{room: c.Room, rows: slices.Clone(c.Items)}
	slices.Reverse(u.rows)
	return u
}

func (u *usage) copied() *usage { return &usage{u.room, slices.Clone(u.rows)} }

func (u *usage) there() impl.Cache {
	var items []impl.Item
	seen := map[itemKey]int{}
	for i := len(u.rows) - 1; i >= 0 && int64(len(items)) < u.room; i-- {
		if seen[keyOf(u.rows[i])]++; seen[keyOf(u.rows[i])] == 1 {
			items = append(items, u.rows[i])
		}
	}
	return impl.Cache{Room: u.room, Items: items}
}

func (u *usage) keep(one impl.Item) bool {
	if !isItem(one) {
		return false
	}
	one.Table = slices.Clone(one.Table)
	u.rows = append(u.rows, one)
	return true
}

func (u *usage) find(client int64, content string) ([]int64, bool) {
	for _, one := range u.there().Items {
		if keyOf(one) == (itemKey{client, content}) {
			u.rows = append(u.rows, one)
			return one.Table, true
		}
	}
	return nil, false
}

// tables takes a right Program and a client.
func (u *usage) tables(p impl.Program, client int64) [][]int64 {
	own := summed(p, client).tables(p)
	for i := range own {
		content := contentBy(p, int64(i))
		if table, is := u.find(client, content); is {
			own[i] = table
		} else {
			u.keep(item(client, content, own[i]))
		}
	}
	return own
}

// checkThere asks that a Cache is just what is there.
func (u *usage) checkThere(t *testing.T, what string, before, got impl.Cache) {
	t.Helper()
	if want := u.there(); !sameCache(got, want) || !impl.CacheOk(got) {
		t.Fatalf("%.900v: %s: %.900v, want %.900v", before, what, got, want)
	}
}

func (u *usage) checkKept(t *testing.T, c impl.Cache, one impl.Item) impl.Cache {
	t.Helper()
	before := roomyCache(c)
	want := u.keep(one)
	got, is := impl.Kept(c, one)
	what := fmt.Sprintf("Kept %.300v", one)
	if is != want {
		t.Fatalf("%.900v: %s: %v, want %v", before, what, is, want)
	}
	u.checkThere(t, what, before, got)
	if !sameCache(c, before) || !is && !sameCache(got, before) || is && !sameItem(got.Items[0], one) {
		t.Fatalf("%.900v: %s: it is %.900v then, and %.900v is told", before, what, c, got)
	}
	return got
}

func (u *usage) checkFound(t *testing.T, c impl.Cache, client int64, content string) impl.Cache {
	t.Helper()
	before := roomyCache(c)
	want, there := u.find(client, content)
	got, table, is := impl.Found(c, client, content)
	what := fmt.Sprintf("Found %d, %.300q", client, content)
	if is != there || !slices.Equal(table, want) {
		t.Fatalf("%.900v: %s: %v, %v; want %v, %v", before, what, table, is, want, there)
	}
	u.checkThere(t, what, before, got)
	if !sameCache(c, before) || !is && !sameCache(got, before) {
		t.Fatalf("%.900v: %s: it is %.900v then, and %.900v is told", before, what, c, got)
	}
	return got
}

func (u *usage) checkTablesBy(t *testing.T, c impl.Cache, p impl.Program, client int64) impl.Cache {
	t.Helper()
	before := roomyCache(c)
	want := u.tables(p, client)
	got, tables := impl.TablesBy(c, p, client)
	what := fmt.Sprintf("TablesBy of %q, %d", shownOf(p), client)
	if !sameLists(tables, want) {
		t.Fatalf("%.900v: %s: %v, want %v", before, what, tables, want)
	}
	u.checkThere(t, what, before, got)
	if !sameCache(c, before) {
		t.Fatalf("%.900v: %s: it is %.900v then", before, what, c)
	}
	return got
}

// checkPromise16 asks the promise of what the program tells alone: by a Cache that is Right.
func checkPromise16(t *testing.T, c impl.Cache, p impl.Program, client int64) impl.Cache {
	t.Helper()
	if !impl.Right(c) {
		t.Fatalf("%.900v is not Right", c)
	}
	got, tables := impl.TablesBy(c, p, client)
	if want := impl.Tables(p, client); !sameLists(tables, want) || len(want) != len(p.Procs) {
		t.Fatalf("%.900v: TablesBy of %q, %d: %v, but Tables %v", c, shownOf(p), client, tables, want)
	}
	if !impl.Right(got) || !impl.CacheOk(got) || got.Room != c.Room {
		t.Fatalf("%.900v: TablesBy of %q, %d: %.900v: Right %v, CacheOk %v", c, shownOf(p), client, got, impl.Right(got), impl.CacheOk(got))
	}
	return got
}

// checkByCache asks it of a Cache that is Right, by the tests' own reckoning, too.
func checkByCache(t *testing.T, c impl.Cache, p impl.Program, client int64) impl.Cache {
	t.Helper()
	got := checkPromise16(t, c, p, client)
	if again := usageOf(c).checkTablesBy(t, c, p, client); !sameCache(again, got) {
		t.Fatalf("%.900v: TablesBy of %q, %d: %.900v, and then %.900v", c, shownOf(p), client, got, again)
	}
	return got
}

// newItem is in no Cache of the tests but those in which it was kept.
func newItem() impl.Item { return item(2, "t5 t4 t3 r", []int64{127, 0, 1, 2, 3, 4, 5}) }

// checkRightCache asks for all that the chapter tells of a Cache that is CacheOk.
func checkRightCache(t *testing.T, c impl.Cache) {
	t.Helper()
	if right := isRight(c); !impl.CacheOk(c) || impl.Right(c) != right {
		t.Fatalf("%.900v: CacheOk %v, Right %v, want true, %v", c, impl.CacheOk(c), impl.Right(c), right)
	}
	usageOf(c).checkKept(t, c, newItem())
	usageOf(c).checkKept(t, c, item(1, "", impl.Unit()))
	usageOf(c).checkFound(t, c, 1, "t5 t4 t3 r")
	usageOf(c).checkTablesBy(t, c, callers(), 2)
	for _, one := range c.Items {
		usageOf(c).checkFound(t, c, one.Client, one.Content)
		usageOf(c).checkFound(t, c, 3-one.Client, one.Content)
		usageOf(c).checkKept(t, c, one)
		usageOf(c).checkKept(t, c, item(one.Client, one.Content, allOf(5)))
		usageOf(c).checkKept(t, c, item(3-one.Client, one.Content, one.Table))
		if p, _ := programRead(one.Content); contentBy(p, 0) == one.Content {
			usageOf(c).checkTablesBy(t, c, p, one.Client)
		}
	}
}

// checkNoCache asks for the fixed answers of what is no Cache; what else is not right changes nothing there.
func checkNoCache(t *testing.T, why string, c impl.Cache) {
	t.Helper()
	if impl.CacheOk(c) || impl.Right(c) {
		t.Fatalf("%s: %.300v: CacheOk %v, Right %v", why, c, impl.CacheOk(c), impl.Right(c))
	}
	some := c.Items[:min(len(c.Items), 3)]
	for _, one := range append([]impl.Item{newItem(), soItem(1, "r"), {}, item(3, "r", impl.Unit())}, some...) {
		if got, is := impl.Kept(c, one); is || !sameCache(got, impl.Cache{}) {
			t.Fatalf("%s: %.300v: Kept %.300v: %.300v, %v", why, c, one, got, is)
		}
		if got, table, is := impl.Found(c, one.Client, one.Content); is || len(table) != 0 || !sameCache(got, impl.Cache{}) {
			t.Fatalf("%s: %.300v: Found %d, %.300q: %.300v, %.300v, %v", why, c, one.Client, one.Content, got, table, is)
		}
	}
	for _, p := range []impl.Program{alone(back()), callers(), {}, alone(skip())} {
		for client := range int64(4) {
			checkNoTablesBy(t, why, c, p, client)
		}
	}
}

func checkNoTablesBy(t *testing.T, why string, c impl.Cache, p impl.Program, client int64) {
	t.Helper()
	if got, tables := impl.TablesBy(c, p, client); len(tables) != 0 || !sameCache(got, impl.Cache{}) {
		t.Fatalf("%s: %.300v: TablesBy of %.300v, %d: %.300v, %.300v", why, c, p, client, got, tables)
	}
}

// checkEitherCache asks it of a Cache, and for the fixed answers of what is none.
func checkEitherCache(t *testing.T, why string, c impl.Cache, is bool) {
	t.Helper()
	if is != isCache(c) {
		t.Fatalf("%s: %.300v: the test's own word is %v", why, c, !is)
	}
	if is {
		checkRightCache(t, c)
	} else {
		checkNoCache(t, why, c)
	}
}

// checkOneItem asks whether an Item is taken: by Kept, into an empty Cache, among others and into a full one, and in a Cache.
func checkOneItem(t *testing.T, why string, one impl.Item, is bool) {
	t.Helper()
	if isItem(one) != is {
		t.Fatalf("%s: %.300v: the test's own word is %v", why, one, !is)
	}
	first, last := item(1, "m4 t0 r", allOf(3)), item(2, "l4 t0 r", allOf(6))
	for _, c := range []impl.Cache{cache(1), cache(20), cache(1, first), cache(3, first, last), cache(2, last, first)} {
		usageOf(c).checkKept(t, c, one)
	}
	for _, items := range [][]impl.Item{{one}, {one, first}, {first, one}, {first, one, last}} {
		checkEitherCache(t, why, cache(3, items...), is)
		checkEitherCache(t, why, cache(int64(len(items)), items...), is)
	}
}

// manyContents are n texts that are Contents, no two alike: all short ones of some statements in turn.
func manyContents(n int) []string {
	words := []string{"m0", "c1,0", "l2", "k0", "j0", "b0,1", "t3"}
	texts := []string{"r"}
	for i := 0; len(texts) < n; i++ {
		for _, word := range words {
			texts = append(texts, word+" "+texts[i])
		}
	}
	return texts[:n]
}

// soCache has n Items of both clients in turn, and is Right.
func soCache(room int64, n int) impl.Cache {
	c := impl.Cache{Room: room}
	for i, content := range manyContents((n + 1) / 2) {
		c.Items = append(c.Items, soItem(1, content))
		if 2*i+1 < n {
			c.Items = append(c.Items, soItem(2, content))
		}
	}
	return c
}

// someCaches are CacheOk, of all sorts; some are Right.
func someCaches() []impl.Cache {
	mixed := append(soItems(1, "k1 r;m3 r", "r", "k0 r"), soItems(2, "r", "m0 k1 r;m1 k0 r")...)
	return []impl.Cache{
		cache(1), {Room: 20, Items: []impl.Item{}}, cache(1, soItem(1, "r")), cache(1, soItem(2, "k1 r;k0 r")), cache(2, soItem(2, "r")), cache(2, soItem(1, "r"), soItem(2, "r")), cache(5, mixed...), cache(20, mixed...),
		soCache(20, 20), soCache(20, 19), soCache(7, 7), cache(3, item(1, "r", allOf(0)), item(2, "r;r", allOf(127)), item(1, "k2 k1 r;r;m3 k2 r", impl.Unit())), cache(4, soItem(1, "m0 r"), item(1, "r", allOf(1)), soItem(1, "l0 r")),
	}
}

// everyItem calls f with a copy of a Cache, and with each Item of that.
func everyItem(c impl.Cache, f func(copied impl.Cache, one *impl.Item)) {
	for i := range c.Items {
		copied := roomyCache(c)
		f(copied, &copied.Items[i])
	}
}

// roomyCache is a copy in memory of its own, with strangers in the spare room behind each list.
func roomyCache(c impl.Cache) impl.Cache {
	room := make([]impl.Item, 0, len(c.Items)+2)
	for _, one := range c.Items {
		room = append(room, item(one.Client, strings.Clone(one.Content), roomyNumbers(one.Table)))
	}
	for i := len(room); i < cap(room); i++ {
		room[:cap(room)][i] = item(4711, "stranger", []int64{-4712})
	}
	return impl.Cache{Room: c.Room, Items: room}
}

// openedItems is a copy with the spare room behind lists shown as part of them.
func openedItems(items []impl.Item) []impl.Item {
	open := slices.Clone(items[:cap(items)])
	for i, one := range open {
		open[i] = item(one.Client, strings.Clone(one.Content), slices.Clone(one.Table[:cap(one.Table)]))
	}
	return open
}

// cacheStaysWhile asks that nothing of a Cache and of an Item is written, spare room included, while f runs.
func cacheStaysWhile(t *testing.T, c impl.Cache, one impl.Item, f func(c impl.Cache, one impl.Item)) {
	t.Helper()
	room, roomOne := roomyCache(c), roomyCache(cache(1, one)).Items
	before, beforeOne := openedItems(room.Items), openedItems(roomOne)
	f(room, roomOne[0])
	if behind, behindOne := openedItems(room.Items), openedItems(roomOne); !reflect.DeepEqual(before, behind) || !reflect.DeepEqual(beforeOne, behindOne) {
		t.Fatalf("%.900v, %.300v was changed to %.900v, %.300v", before, beforeOne, behind, behindOne)
	}
}

// itemsLie is where each list and each Content of these lies, spare room included.
func itemsLie(items []impl.Item) []stretch {
	lie := liesAt(items)
	for _, one := range items {
		lie = append(append(lie, textLies(one.Content)...), liesAt(one.Table)...)
	}
	return lie
}

// spoilItems writes over the lists of an answer, and over the spare room behind each.
func spoilItems(items []impl.Item) {
	items = items[:cap(items)]
	for i := range items {
		spoilNumbers(items[i].Table)
		items[i] = item(-4711, "spoilt", []int64{-4712})
	}
}
