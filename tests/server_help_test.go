package tests

import (
	"fmt"
	"reflect"
	"slices"
	"strings"
	"testing"

	"loop.example/g00291/impl"
)

func actPut(session int64, project, text string) impl.Act {
	return impl.Act{Kind: impl.AcPut, Session: session, Project: project, Text: text}
}

// actAsk asks by ClMark whether fact 1 holds ahead of statement 1 of procedure 0 of a Version of a; it is Due a while later.
func actAsk(session, version, long int64) impl.Act {
	return impl.Act{Kind: impl.AcAsk, Session: session, Project: "a", Version: version, Client: impl.ClMark, At: 1, Fact: 1, Long: long}
}

func actRun() impl.Act { return impl.Act{Kind: impl.AcRun} }

func actTick(long int64) impl.Act { return impl.Act{Kind: impl.AcTick, Long: long} }

func actDrop(number int64) impl.Act { return impl.Act{Kind: impl.AcDrop, Number: number} }

// newServer is a right one with this Room.
func newServer(room int64) impl.Server {
	return impl.Server{Next: 1, Cache: cache(room), Queue: queue(0, nil)}
}

func sameServer(a, b impl.Server) bool {
	return a.Now == b.Now && a.Next == b.Next && sameStore(a.Store, b.Store) && sameCache(a.Cache, b.Cache) && sameQueue(a.Queue, b.Queue) && slices.Equal(a.Questions, b.Questions) && slices.Equal(a.Answers, b.Answers)
}

// areWithin asks of each row whether its first number is from the second up to the third.
func areWithin(rows ...[3]int64) bool {
	return !slices.ContainsFunc(rows, func(row [3]int64) bool { return row[0] < row[1] || row[0] > row[2] })
}

// isQuestion is the tests' own word on one Question, but for its Number.
func isQuestion(q impl.Question) bool {
	return nameForm.MatchString(q.Project) && areWithin([3]int64{q.Session, 0, 7}, [3]int64{q.Version, 1, 100000}, [3]int64{q.Client, 1, 2}, [3]int64{q.Proc, 0, 3}, [3]int64{q.At, 0, 11}, [3]int64{q.Fact, 1, 6}, [3]int64{q.Due, 1, 1001000})
}

// areWaiting is the tests' own word on which Questions are there: each stands once in its Session's Line, and nothing else does.
func areWaiting(s impl.Server) bool {
	var asked, waits []string
	last := int64(0)
	for _, q := range s.Questions {
		if !isQuestion(q) || q.Number <= last || q.Number >= s.Next {
			return false
		}
		last = q.Number
		asked = append(asked, fmt.Sprintf("%d.%d", q.Session, q.Number))
	}
	for session, line := range s.Queue.Lines {
		for _, n := range line {
			waits = append(waits, fmt.Sprintf("%d.%d", session, n))
		}
	}
	slices.Sort(asked)
	slices.Sort(waits)
	return slices.Equal(asked, waits)
}

// isServer is the tests' own word on servers.
func isServer(s impl.Server) bool {
	if !areWithin([3]int64{s.Now, 0, 1000000}, [3]int64{s.Next, 1, 1000000}) || len(s.Questions) > 40 || len(s.Answers) > 300 {
		return false
	}
	for _, one := range s.Answers {
		if !areWithin([3]int64{one.Number, 1, s.Next - 1}, [3]int64{one.Session, 0, 7}, [3]int64{one.Code, 1, 6}) {
			return false
		}
	}
	return isStore(s.Store) && isQueue(s.Queue) && areWaiting(s) && isRight(s.Cache)
}

// diary is the tests' own word on what becomes of a server: rows of what was brought, used, asked and came, from which none is ever
// taken out. What is there is found by going through them.
type diary struct {
	now, next int64
	brought   *ledger
	used      *usage
	came      *arrivals
	asked     []impl.Question
	answers   []impl.Answer
}

// diaryOf begins with what is in a right server.
func diaryOf(s impl.Server) *diary {
	return &diary{now: s.Now, next: s.Next, brought: ledgerOf(s.Store), used: usageOf(s.Cache), came: arrivalsOf(s.Queue), asked: slices.Clone(s.Questions), answers: slices.Clone(s.Answers)}
}

func (d *diary) copied() *diary {
	return &diary{now: d.now, next: d.next, brought: d.brought.copied(), used: d.used.copied(), came: d.came.copied(), asked: slices.Clone(d.asked), answers: slices.Clone(d.answers)}
}

// store is what the rows of a ledger leave there.
func (l *ledger) store() []impl.Project {
	var list []impl.Project
	for _, name := range l.names() {
		one := impl.Project{Name: name}
		for id := l.latest(name) - 3; id <= l.latest(name); id++ {
			if p, is := programRead(l.text(name, id)); is {
				one.Versions = append(one.Versions, impl.Version{Id: id, Program: p})
			}
		}
		list = append(list, one)
	}
	return list
}

// waits tells whether the Question with this Number is not answered yet: it came, and was not Served.
func (d *diary) waits(number int64) bool {
	return slices.ContainsFunc(d.came.rows, func(row arrival) bool { return row.n == number && !row.served })
}

func (d *diary) there() impl.Server {
	var waiting []impl.Question
	for _, q := range d.asked {
		if d.waits(q.Number) {
			waiting = append(waiting, q)
		}
	}
	return impl.Server{Now: d.now, Next: d.next, Store: d.brought.store(), Cache: d.used.there(), Queue: d.came.there(), Questions: waiting, Answers: d.answers}
}

// happen is the tests' own word on what Happen tells.
func (d *diary) happen(a impl.Act) int64 {
	switch a.Kind {
	case 1:
		return d.put(a)
	case 2:
		return d.ask(a)
	case 3:
		return d.run()
	case 4:
		if a.Long < 1 || a.Long > 1000000 || d.now+a.Long > 1000000 {
			return -1
		}
		d.now += a.Long
		return d.now
	case 5:
		for i, q := range d.asked {
			if q.Number == a.Number && d.waits(q.Number) && !q.Gone {
				d.asked[i].Gone = true
				return 0
			}
		}
	}
	return -1
}

func (d *diary) put(a impl.Act) int64 {
	p, is := programRead(a.Text)
	if !is || !areWithin([3]int64{a.Session, 0, 7}) {
		return -1
	}
	return d.brought.put(a.Project, p)
}

func (d *diary) ask(a impl.Act) int64 {
	if !areWithin([3]int64{a.Long, 1, 1000}) || d.next > 999999 || len(d.answers) >= 300 {
		return -1
	}
	q := impl.Question{Number: d.next, Session: a.Session, Project: a.Project, Version: a.Version, Client: a.Client, Proc: a.Proc, At: a.At, Fact: a.Fact, Due: d.now + a.Long}
	if !isQuestion(q) {
		return -1
	}
	d.next++
	d.asked = append(d.asked, q)
	if !d.came.come(q.Session, q.Number) {
		d.answers = append(d.answers, impl.Answer{Number: q.Number, Session: q.Session, Code: 6})
	}
	return q.Number
}

func (d *diary) run() int64 {
	if len(d.answers) >= 300 {
		return -1
	}
	session, n := d.came.serve()
	for _, q := range d.asked {
		if q.Number == n && q.Session == session {
			code := d.codeOf(q)
			d.answers = append(d.answers, impl.Answer{Number: n, Session: session, Code: code})
			return code
		}
	}
	return -1
}

func (d *diary) codeOf(q impl.Question) int64 {
	text := d.brought.text(q.Project, q.Version)
	if q.Gone {
		return 5
	} else if q.Due <= d.now {
		return 4
	} else if text == "" {
		return 3
	}
	p, _ := programRead(text)
	d.used.tables(p, q.Client)
	if isAsked(p, q.Client, q.Proc, q.At, q.Fact) {
		return 1
	}
	return 2
}

// isAsked is the tests' own word on Asked of a right Program and a fact from 1 to 6.
func isAsked(p impl.Program, client, proc, at, fact int64) bool {
	return isPlace(p, impl.Place{Proc: proc, At: at}) && placesOf(p, client).ahead[proc][at].of[fact-1]
}

// checkThere asks that a server is just what is there, and right.
func (d *diary) checkThere(t *testing.T, what string, before, got impl.Server) {
	t.Helper()
	if want := d.there(); !sameServer(got, want) {
		t.Fatalf("%s: %s: %s, want %s", shownServer(before), what, shownServer(got), shownServer(want))
	}
	if !impl.ServerOk(got) || !isServer(got) {
		t.Fatalf("%s: %s: %s: ServerOk %v", shownServer(before), what, shownServer(got), impl.ServerOk(got))
	}
}

func (d *diary) checkHappen(t *testing.T, s impl.Server, a impl.Act) (impl.Server, int64) {
	t.Helper()
	before := roomyServer(s)
	want := d.happen(a)
	got, told := impl.Happen(s, a)
	what := "Happen " + shownShort(a)
	if told != want {
		t.Fatalf("%s: %s: %d, want %d", shownServer(before), what, told, want)
	}
	d.checkThere(t, what, before, got)
	if !sameServer(s, before) || told == -1 && !sameServer(got, before) {
		t.Fatalf("%s: %s: it is %s then, and %s is told", shownServer(before), what, shownServer(s), shownServer(got))
	}
	return got, told
}

// checkDone asks what is told of an act that can be done, or not.
func checkDone(t *testing.T, s impl.Server, a impl.Act, is bool) impl.Server {
	t.Helper()
	got, told := diaryOf(s).checkHappen(t, s, a)
	if (told != -1) != is {
		t.Fatalf("%s: Happen %s: %d", shownServer(s), shownShort(a), told)
	}
	return got
}

// checkMine asks for the Answers of each session, and beyond.
func checkMine(t *testing.T, s impl.Server) {
	t.Helper()
	mine := map[int64][]impl.Answer{}
	for _, one := range s.Answers {
		mine[one.Session] = append(mine[one.Session], one)
	}
	for _, session := range nearAndFar(-2, 9) {
		if got := impl.Mine(s, session); !slices.Equal(got, mine[session]) {
			t.Fatalf("%s: Mine of %d: %v, want %v", shownServer(s), session, got, mine[session])
		}
	}
}

// someActs are of each Kind, right ones and others.
func someActs() []impl.Act {
	return []impl.Act{
		actPut(7, "a", "m0 r"), actPut(0, "zz", "k1 r;k0 r"), actPut(8, "a", "r"), actPut(0, "A", "r"), actPut(0, "a", "s"), actAsk(0, 1, 5), actAsk(7, 100000, 1000), actAsk(3, 2, 1), actAsk(8, 1, 1), actAsk(0, 0, 1), actAsk(0, 1, 0), actAsk(0, 1, 1001),
		actRun(), actTick(1), actTick(0), actTick(1000000), actTick(1000001), actDrop(1), actDrop(2), actDrop(40), actDrop(0), {}, {Kind: 6}, {Kind: -1},
	}
}

// checkRightServer asks for all that the chapter tells of a server that is right.
func checkRightServer(t *testing.T, s impl.Server) {
	t.Helper()
	diaryOf(s).checkThere(t, "itself", s, s)
	checkMine(t, s)
	for _, a := range someActs() {
		diaryOf(s).checkHappen(t, s, a)
	}
	checkPlay(t, s, nil)
	checkPlay(t, s, someActs())
}

// checkPlay plays by Happen, act by act, and by the diary, and asks that Play tells the same.
func checkPlay(t *testing.T, s impl.Server, acts []impl.Act) (impl.Server, []int64) {
	t.Helper()
	d, before, one := diaryOf(s), roomyServer(s), s
	var want []int64
	for _, a := range acts {
		behind, told := d.checkHappen(t, one, a)
		one, want = behind, append(want, told)
	}
	got, told := impl.Play(s, acts)
	if !slices.Equal(told, want) || !sameServer(got, one) || !sameServer(s, before) {
		t.Fatalf("%s: Play of %s: %v, %s; want %v, %s", shownServer(before), shownShort(acts), told, shownServer(got), want, shownServer(one))
	}
	return got, told
}

// isZeroServer asks for the zero value.
func isZeroServer(s impl.Server) bool { return sameServer(s, impl.Server{}) }

// checkNoServer asks for the fixed answers of what is no server; what else is not right changes nothing there.
func checkNoServer(t *testing.T, why string, s impl.Server) {
	t.Helper()
	if impl.ServerOk(s) {
		t.Fatalf("%s: %s: ServerOk", why, shownServer(s))
	}
	acts := someActs()
	for _, a := range acts {
		if got, told := impl.Happen(s, a); told != -2 || !isZeroServer(got) {
			t.Fatalf("%s: %s: Happen %v: %s, %d", why, shownServer(s), a, shownServer(got), told)
		}
	}
	for _, list := range [][]impl.Act{nil, acts, acts[:1], slices.Repeat(acts[:1], 201)} {
		if got, told := impl.Play(s, list); len(told) != 0 || !isZeroServer(got) {
			t.Fatalf("%s: %s: Play of %d acts: %s, %v", why, shownServer(s), len(list), shownServer(got), told)
		}
	}
	for session := int64(-2); session <= 9; session++ {
		if got := impl.Mine(s, session); len(got) != 0 {
			t.Fatalf("%s: %s: Mine of %d: %s", why, shownServer(s), session, shownShort(got))
		}
	}
}

// checkEitherServer asks it of a server, and for the fixed answers of what is none.
func checkEitherServer(t *testing.T, why string, s impl.Server, is bool) {
	t.Helper()
	if is != isServer(s) {
		t.Fatalf("%s: %s: the test's own word is %v", why, shownServer(s), !is)
	}
	checkLookedOver(t, why, s, is)
	if is {
		checkRightServer(t, s)
	} else {
		checkNoServer(t, why, s)
	}
}

// shownShort is what something is shown as, cut off where it is long.
func shownShort(what any) string { return fmt.Sprintf("%.900s", fmt.Sprint(what)) }

// shownServer is what a server begins with, as a text.
func shownServer(s impl.Server) string {
	first := func(list any) string {
		lists := reflect.ValueOf(list)
		return fmt.Sprintf("%s of %d", shownShort(lists.Slice(0, min(lists.Len(), 45))), lists.Len())
	}
	return fmt.Sprintf("{Now %d, Next %d, Store %s, Room %d, Items %s, Queue %s, Questions %s, Answers %s}", s.Now, s.Next, first(s.Store), s.Cache.Room, first(s.Cache.Items), shownQueue(s.Queue), first(s.Questions), first(s.Answers))
}

// serverWith is a copy of a server, changed.
func serverWith(s impl.Server, change func(s *impl.Server)) impl.Server {
	copied := roomyServer(s)
	change(&copied)
	return copied
}

// question has each part unlike those of most others; it is Due later than all that the tests tick to but in long ones.
func question(number, session int64) impl.Question {
	return impl.Question{Number: number, Session: session, Project: []string{"a", "b", "zzzzzzzzzzzz"}[number%3], Version: 1 + number%2, Client: 1 + number%2, Proc: number % 4, At: number % 12, Fact: 1 + number%6, Due: 300 + number}
}

// waitingServer has Questions of these sessions, with the Numbers from 1 on, in their Lines.
func waitingServer(sessions ...int64) impl.Server {
	s := newServer(4)
	for _, session := range sessions {
		s.Questions = append(s.Questions, question(s.Next, session))
		s.Queue.Lines[session] = append(s.Queue.Lines[session], s.Next)
		s.Next++
	}
	return s
}

// answersTo are n Answers with the Numbers from 1 on, of all sessions and Codes in turn.
func answersTo(n int) []impl.Answer {
	var answers []impl.Answer
	for i := range int64(n) {
		answers = append(answers, impl.Answer{Number: i + 1, Session: i * 3 % 8, Code: 1 + i%6})
	}
	return answers
}

// allSessions are n sessions round and round, from one on.
func allSessions(from, n int) []int64 {
	var sessions []int64
	for i := range n {
		sessions = append(sessions, int64((from+3*i)%8))
	}
	return sessions
}

// fullServer has as much as may be of all but Answers.
func fullServer() impl.Server {
	s := waitingServer(allSessions(5, 40)...)
	s.Store, s.Cache = manyProjects(10), soCache(20, 20)
	return s
}

// someServers are right ones of all sorts.
func someServers(t *testing.T) []impl.Server {
	t.Helper()
	stored := serverWith(waitingServer(2, 2, 5), func(s *impl.Server) {
		s.Store = store(project(t, "a", 1, "m0 r", "m0 k1 r;c1,0 r"), project(t, "b", 99999, "r", "k0 r"))
		s.Now, s.Queue.Turn, s.Questions[1].Gone = 302, 7, true
		s.Cache = cache(3, soItem(2, "m0 r"), soItem(1, "k0 r"))
	})
	sparse := serverWith(waitingServer(0, 7), func(s *impl.Server) {
		s.Now, s.Next = 1000000, 1000000
		s.Questions[0].Number, s.Questions[1].Number = 17, 999999
		s.Queue.Lines[0][0], s.Queue.Lines[7][0] = 17, 999999
		s.Answers = []impl.Answer{{Number: 999998, Session: 7, Code: 6}, {Number: 1, Code: 1}, {Number: 1, Session: 3, Code: 2}}
	})
	return []impl.Server{
		newServer(1), newServer(20), waitingServer(3), waitingServer(allSessions(0, 9)...), stored, sparse, fullServer(),
		serverWith(fullServer(), func(s *impl.Server) { s.Now, s.Next, s.Answers = 1000000, 1000000, answersTo(300) }),
		serverWith(newServer(2), func(s *impl.Server) { s.Next, s.Answers = 300, answersTo(299) }),
		{Next: 1, Store: []impl.Project{}, Cache: impl.Cache{Room: 1, Items: []impl.Item{}}, Queue: impl.Queue{Lines: [][]int64{{}, nil, {}, {}, {}, {}, {}, {}}}, Questions: []impl.Question{}, Answers: []impl.Answer{}},
	}
}

// roomyList is a copy with two strangers in the spare room behind.
func roomyList[T any](list []T, stranger T) []T {
	room := make([]T, 0, len(list)+2)
	room = append(room, list...)
	for i := len(room); i < cap(room); i++ {
		room[:cap(room)][i] = stranger
	}
	return room
}

// roomyServer is a copy in memory of its own, with strangers in the spare room behind each list.
func roomyServer(s impl.Server) impl.Server {
	questions := roomyList(s.Questions, impl.Question{Number: -4711, Project: "stranger"})
	for i := range questions {
		questions[i].Project = strings.Clone(questions[i].Project)
	}
	return impl.Server{Now: s.Now, Next: s.Next, Store: roomyStore(s.Store), Cache: roomyCache(s.Cache), Queue: roomyQueue(s.Queue), Questions: questions, Answers: roomyList(s.Answers, impl.Answer{Number: -4712})}
}

// openedServer is a copy with the spare room behind lists shown as part of them.
func openedServer(s impl.Server) impl.Server {
	return impl.Server{Now: s.Now, Next: s.Next, Store: openedStore(s.Store), Cache: impl.Cache{Room: s.Cache.Room, Items: openedItems(s.Cache.Items)}, Queue: impl.Queue{Turn: s.Queue.Turn, Lines: openedTables(s.Queue.Lines)}, Questions: slices.Clone(s.Questions[:cap(s.Questions)]), Answers: slices.Clone(s.Answers[:cap(s.Answers)])}
}

// serverLies is where each list and each text of a server lies, spare room included.
func serverLies(s impl.Server) []stretch {
	lie := slices.Concat(storeLies(s.Store), itemsLie(s.Cache.Items), queueLies(s.Queue), liesAt(s.Questions), liesAt(s.Answers))
	for _, q := range s.Questions {
		lie = append(lie, textLies(q.Project)...)
	}
	return lie
}

func actsLie(acts []impl.Act) []stretch {
	lie := liesAt(acts)
	for _, a := range acts {
		lie = slices.Concat(lie, textLies(a.Project), textLies(a.Text))
	}
	return lie
}

// roomyActs is a copy in memory of its own, with strangers in the spare room behind.
func roomyActs(acts []impl.Act) []impl.Act {
	room := roomyList(acts, actPut(-4711, "stranger", "stranger"))
	for i, a := range room {
		room[i].Project, room[i].Text = strings.Clone(a.Project), strings.Clone(a.Text)
	}
	return room
}

// serverStaysWhile asks that nothing of a server and of acts is written, spare room included, while f runs.
func serverStaysWhile(t *testing.T, s impl.Server, acts []impl.Act, f func(s impl.Server, acts []impl.Act)) {
	t.Helper()
	room, list := roomyServer(s), roomyActs(acts)
	before, beforeActs := openedServer(room), slices.Clone(list[:cap(list)])
	f(room, list)
	if !reflect.DeepEqual(before, openedServer(room)) || !slices.Equal(beforeActs, list[:cap(list)]) {
		t.Fatalf("%s, %s was changed to %s, %s", shownServer(before), shownShort(beforeActs), shownServer(openedServer(room)), shownShort(list))
	}
}

// spoilServer writes over the lists of an answer, and over the spare room behind each.
func spoilServer(s impl.Server) {
	spoilStore(s.Store)
	spoilItems(s.Cache.Items)
	spoilLists(s.Queue.Lines)
	for i := range s.Questions[:cap(s.Questions)] {
		s.Questions[:cap(s.Questions)][i] = impl.Question{Number: -4711, Project: "spoilt"}
	}
	spoilAnswers(s.Answers)
}

func spoilAnswers(answers []impl.Answer) {
	answers = answers[:cap(answers)]
	for i := range answers {
		answers[i] = impl.Answer{Number: -4712, Session: -1, Code: -1}
	}
}

// wordsBy and keysBy are the tests' own word on what is said of each Kind.
var wordsBy = map[int64]string{1: "put", 2: "ask", 3: "run", 4: "tick", 5: "drop"}

var keysBy = map[int64]string{
	1: "session project text",
	2: "session project version client proc at fact long",
	3: "",
	4: "long",
	5: "number",
}

// fieldBy is the field of an Act that a key tells.
func fieldBy(a *impl.Act, key string) reflect.Value {
	return reflect.ValueOf(a).Elem().FieldByName(strings.ToUpper(key[:1]) + key[1:])
}

// saidOf is the tests' own word on SaidAs; the zero Value where there is none.
func saidOf(a impl.Act) impl.Value {
	keys, is := keysBy[a.Kind]
	if !is {
		return impl.Value{}
	}
	said, rest := dict("do "+keys, text(wordsBy[a.Kind])), a
	rest.Kind = 0
	for _, key := range strings.Fields(keys) {
		field := fieldBy(&rest, key)
		if field.Kind() == reflect.String {
			said.Items = append(said.Items, text(field.String()))
		} else {
			said.Items = append(said.Items, num(field.Int()))
		}
		field.SetZero()
	}
	if rest != (impl.Act{}) || !impl.ValueOk(said) {
		return impl.Value{}
	}
	return said
}

// meantOf is the tests' own word on Meant.
func meantOf(v impl.Value) (impl.Act, bool) {
	for kind, keys := range keysBy {
		if !impl.ValueOk(v) || v.Kind != impl.JsMap || !slices.Equal(v.Keys, strings.Fields("do "+keys)) || !alike(v.Items[0], text(wordsBy[kind])) {
			continue
		}
		a := impl.Act{Kind: kind}
		for i, key := range strings.Fields(keys) {
			field, item := fieldBy(&a, key), v.Items[i+1]
			switch {
			case field.Kind() == reflect.String && item.Kind == impl.JsText:
				field.SetString(item.Text)
			case field.Kind() == reflect.Int64 && item.Kind == impl.JsNum:
				field.SetInt(item.Num)
			default:
				return impl.Act{}, false
			}
		}
		return a, true
	}
	return impl.Act{}, false
}

// checkMeant asks for what a Value means, and that this is said again as it was.
func checkMeant(t *testing.T, v impl.Value) bool {
	t.Helper()
	want, is := meantOf(v)
	got, meant := impl.Meant(v)
	if got != want || meant != is {
		t.Fatalf("Meant of %s: %v, %v; want %v, %v", shownShort(v), got, meant, want, is)
	}
	if said := impl.SaidAs(got); is && !alike(said, v) {
		t.Fatalf("SaidAs of Meant of %v: %v", v, said)
	}
	return is
}

// checkSaid asks for what is said of an act, and promise 18 of it.
func checkSaid(t *testing.T, a impl.Act) bool {
	t.Helper()
	want := saidOf(a)
	got := impl.SaidAs(a)
	if !alike(got, want) {
		t.Fatalf("SaidAs %s: %v, want %v", shownShort(a), got, want)
	}
	meant, is := impl.Meant(got)
	if is == isZero(want) || is && (meant != a || !impl.ValueOk(got)) || !is && meant != (impl.Act{}) {
		t.Fatalf("Meant of SaidAs %s: %v, %v", shownShort(a), meant, is)
	}
	return is
}
