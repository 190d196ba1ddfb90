package tests

import (
	"fmt"
	"go/ast"
	"go/parser"
	"go/token"
	"maps"
	"math"
	"path/filepath"
	"reflect"
	"slices"
	"strings"
	"testing"
	"unsafe"

	"loop.example/g00291/impl"
)

// everyFunction are all functions of chapters 1 to 20, by their names.
var everyFunction = map[string]any{
	"ValueOk": impl.ValueOk, "Deep": impl.Deep, "Count": impl.Count, "Print": impl.Print, "Parse": impl.Parse, "Member": impl.Member, "Same": impl.Same,
	"Frame": impl.Frame, "ReaderOk": impl.ReaderOk, "Fed": impl.Fed, "FedAll": impl.FedAll,
	"StmtOk": impl.StmtOk, "ProcOk": impl.ProcOk, "ProgramOk": impl.ProgramOk, "Size": impl.Size, "Calls": impl.Calls, "Callers": impl.Callers,
	"Next": impl.Next, "Before": impl.Before, "Reached": impl.Reached, "Short": impl.Short, "WayOk": impl.WayOk, "Ways": impl.Ways,
	"Gates": impl.Gates, "Gate": impl.Gate, "Loops": impl.Loops, "Body": impl.Body,
	"RelOk": impl.RelOk, "Unit": impl.Unit, "Image": impl.Image, "Compose": impl.Compose, "Join": impl.Join, "Within": impl.Within,
	"Flow": impl.Flow, "Enter": impl.Enter, "Leave": impl.Leave, "Keep": impl.Keep, "Start": impl.Start,
	"Along": impl.Along, "Solved": impl.Solved, "Covers": impl.Covers, "Proof": impl.Proof,
	"Reach": impl.Reach, "Circles": impl.Circles, "Order": impl.Order, "Recursive": impl.Recursive,
	"Tables": impl.Tables, "Effect": impl.Effect, "Inner": impl.Inner, "Holds": impl.Holds,
	"Entries": impl.Entries, "Facts": impl.Facts, "Asked": impl.Asked, "Nowhere": impl.Nowhere, "Tests": impl.Tests,
	"WalkOk": impl.WalkOk, "Open": impl.Open, "Steps": impl.Steps, "Holding": impl.Holding,
	"Edited": impl.Edited, "Undone": impl.Undone, "ShowProgram": impl.ShowProgram, "ReadProgram": impl.ReadProgram,
	"Closure": impl.Closure, "Content": impl.Content, "Alike": impl.Alike,
	"StoreOk": impl.StoreOk, "Put": impl.Put, "Get": impl.Get, "Names": impl.Names, "Latest": impl.Latest,
	"CacheOk": impl.CacheOk, "Kept": impl.Kept, "Found": impl.Found, "Right": impl.Right, "TablesBy": impl.TablesBy,
	"QueueOk": impl.QueueOk, "Length": impl.Length, "NewQueue": impl.NewQueue, "Came": impl.Came, "Served": impl.Served,
	"ServerOk": impl.ServerOk, "NewServer": impl.NewServer, "Happen": impl.Happen, "Play": impl.Play, "Mine": impl.Mine, "Meant": impl.Meant, "SaidAs": impl.SaidAs,
	"Plain": impl.Plain, "Once": impl.Once, "Waiting": impl.Waiting,
	"Bench": impl.Bench,
}

func functionNames() []string { return slices.Sorted(maps.Keys(everyFunction)) }

// declared has the names of the parameters of each function that the package shows, as its files write them.
func declared(t *testing.T) map[string][]string {
	t.Helper()
	files, _ := filepath.Glob("../impl/*.go")
	if len(files) != 20 {
		t.Fatal(files)
	}
	names := map[string][]string{}
	for _, file := range files {
		read, err := parser.ParseFile(token.NewFileSet(), file, nil, 0)
		if err != nil {
			t.Fatal(err)
		}
		for _, part := range read.Decls {
			f, is := part.(*ast.FuncDecl)
			if !is || f.Recv != nil || !f.Name.IsExported() {
				continue
			}
			names[f.Name.Name] = []string{}
			for _, field := range f.Type.Params.List {
				for _, one := range field.Names {
					names[f.Name.Name] = append(names[f.Name.Name], one.Name)
				}
			}
		}
	}
	return names
}

// giver draws arguments of every type. What it gives last is about what it gave ahead of that, so that much of it is right.
type giver struct {
	*draws
	names  map[string][]string
	right  map[reflect.Type][]any
	p      impl.Program
	v      impl.Value
	one    impl.Proc
	loop   []int64
	client int64
	start  int64
	texts  map[string][]string
}

func newGiver(t *testing.T, seed draws) *giver {
	t.Helper()
	g := &giver{draws: &seed, names: declared(t), right: map[reflect.Type][]any{}, p: alone(back()), one: proc(back()), loop: []int64{0, 0}, client: 1, start: 1, texts: map[string][]string{}}
	giveAll(g, sample(), null(), boolean(1), num(7), text("a\n\\"), list(num(1), list()), dict("a do", null(), text("b")), nested(num(5), 5), nested(num(5), 6))
	for _, a := range slices.Concat(someActs(), saidActs(), toldActs()) {
		giveAll(g, saidOf(a))
	}
	for range 60 {
		giveAll(g, g.value(4))
	}
	giveAll(g, impl.Reader{}, impl.Reader{Rest: "\x00"}, impl.Reader{Rest: "\x00\x05abc"}, impl.Reader{Bad: true}, impl.Reader{Rest: filled(2001)}, impl.Reader{Rest: filled(2002)}, impl.Reader{Bad: true, Rest: "a"})
	giveAll(g, bytewise(framed("ab", "", "c")), cutEvery(framed(filled(2000), "x", filled(7)), 100), []string{framed("a"), framed("b", "c")}, []string{"", "\xff\xff", "a"}, []string{filled(20000), filled(20001)})
	giveAll(g, wrongProcs()...)
	for _, p := range append(changing(), program(wrongProcs()[3:7]...)) {
		giveAll(g, p)
		giveAll(g, p.Procs...)
	}
	for range 40 {
		giveAll(g, g.anyProgram())
	}
	giveAll(g, someStores(t)...)
	giveAll(g, someCaches()...)
	giveAll(g, append(soItems(1, "r", "m0 k1 r;r"), soItem(2, "k0 r"), newItem())...)
	giveAll(g, queue(0, nil), queue(3, lines{2: {5, 4}, 3: {1}, 7: {1000000}}), chosen(7, 255), chosen(5, 37))
	giveAll(g, append(someServers(t), impl.Server{})...)
	giveAll(g, slices.Concat(someActs(), saidActs(), wrongActs(), toldActs())...)
	giveAll(g, nil, g.script(100), g.script(40), toldActs(), mostAsked(60), make([]impl.Act, 200), make([]impl.Act, 201))
	giveAll(g, "", "a", "abcdefghijkl", "abcdefghijklm", "do", framed("ab"), framed(filled(300)), filled(100), filled(2000), filled(2001), filled(20001), "m0 k1 r;c1,0 r", "k2 k1 r;r;m3 k2 r", shownOf(largest()), impl.Print(sample()), spread(impl.Print(sample()), 3), strings.Repeat("s ", 499)+"r")
	giveAll(g, slices.Concat(benchTexts(), unreadTexts)...)
	for range 40 {
		giveAll(g, shownOf(g.anyProgram()), spread(impl.Print(nested(g.value(3), 1)), g.below(3)))
	}
	return g
}

// giveAll lets these be given.
func giveAll[T any](g *giver, all ...T) {
	for _, one := range all {
		of := reflect.TypeFor[T]()
		g.right[of] = append(g.right[of], one)
	}
}

// given draws arguments for all parameters of a function, in memory of their own, with strangers in the spare room behind lists.
func (g *giver) given(name string) []reflect.Value {
	var args []reflect.Value
	of := reflect.TypeOf(everyFunction[name])
	right := g.below(3) == 0
	for i, param := range g.names[name] {
		fits := g.roomed(g.fitting(of.In(i), param))
		if !right {
			fits = g.spoiling(fits)
		}
		args = append(args, fits)
	}
	return args
}

// spoiling leaves most as they are.
func (g *giver) spoiling(v reflect.Value) reflect.Value {
	switch g.below(10) {
	case 0:
		return reflect.Zero(v.Type())
	case 1:
		return g.roomed(g.strange(v.Type(), 3))
	case 2, 3:
		return g.changed(v)
	}
	return v
}

// fitting is about what was given last, where there is something of the type that is.
func (g *giver) fitting(of reflect.Type, param string) reflect.Value {
	switch of {
	case reflect.TypeFor[int64]():
		return reflect.ValueOf(g.number(param))
	case reflect.TypeFor[impl.Stmt]():
		return reflect.ValueOf(g.stmt(12, len(g.p.Procs)))
	case reflect.TypeFor[[]impl.Place]():
		return reflect.ValueOf(g.wanderer(g.p, 1+g.below(101)))
	case reflect.TypeFor[[][]int64]():
		return reflect.ValueOf(impl.Tables(g.p, g.client))
	case reflect.TypeFor[[]int64]():
		return reflect.ValueOf(g.numbers(param))
	case reflect.TypeFor[impl.Edit]():
		return reflect.ValueOf(g.edit(g.p))
	}
	all := g.right[of]
	one := all[g.below(len(all))]
	if texts := g.texts[param]; len(texts) > 0 && g.below(4) > 0 {
		one = texts[g.below(len(texts))]
	}
	if of == reflect.TypeFor[impl.Value]() && param == "b" && g.below(2) == 0 {
		one = g.v
	}
	g.keep(one)
	return reflect.ValueOf(one)
}

// keep notes what others may be about.
func (g *giver) keep(one any) {
	switch one := one.(type) {
	case impl.Proc:
		if impl.ProcOk(one) {
			g.aboutProc(one)
		}
	case impl.Program:
		if impl.ProgramOk(one) {
			g.p = one
			g.aboutProc(one.Procs[0])
		}
	case impl.Value:
		g.v, g.texts["key"] = one, one.Keys
	case []impl.Project:
		g.texts["name"] = nil
		for _, project := range one {
			g.texts["name"] = append(g.texts["name"], project.Name)
		}
	case impl.Cache:
		g.texts["content"] = nil
		for _, item := range one.Items {
			g.texts["content"] = append(g.texts["content"], item.Content)
			g.client = item.Client
		}
	}
}

func (g *giver) aboutProc(one impl.Proc) {
	g.one = one
	if loops := impl.Loops(one); len(loops) > 0 {
		g.loop = loops[g.below(len(loops))]
	}
}

func (g *giver) number(param string) int64 {
	switch param {
	case "client":
		if g.below(2) == 0 {
			g.client = int64(1 + g.below(2))
		}
		return g.client
	case "start":
		g.start = int64(g.below(128))
		return g.start
	case "set":
		return int64(g.below(128))
	case "proc":
		return int64(g.below(len(g.p.Procs)))
	case "at":
		return int64(g.below(len(g.one.Stmts)))
	case "from":
		return g.loop[0]
	case "gate":
		return g.loop[1]
	case "fact", "id", "most":
		return int64(1 + g.below(6))
	}
	return int64(g.below(9))
}

func (g *giver) numbers(param string) []int64 {
	switch param {
	case "way":
		return g.wandering(g.one, 1+g.below(100))
	case "sets":
		return impl.Solved(g.one, g.client, g.start)
	}
	all := told()
	return append(all, g.relation(), g.relation())[g.below(len(all)+2)]
}

func (g *giver) oddNumber() int64 {
	odd := []int64{math.MinInt64, math.MinInt64 + 1, math.MaxInt64, math.MaxInt64 - 1, -1, 0, -2, 13, 63, 64, 127, 128, 1000, 1001, 100000, 100001, 1000000, 1000001, 999999999, 1000000000, math.MaxInt32, math.MinInt32, 1 << 32, 1<<32 + 1}
	return odd[g.below(len(odd))]
}

func (g *giver) oddText() string {
	sizes := []int{0, 1, 2, 12, 13, 99, 100, 101, 999, 1000, 1001, 2000, 2001, 2002, 20000, 20001}
	bytes := []string{"a", "r", " ", "\n", "\x00", "\xff", "é", "{", "[", "\"", "\\", "r;", "-1"}
	n := sizes[g.below(len(sizes))]
	return strings.Repeat(bytes[g.below(len(bytes))], n)[:n]
}

// strange is of a type, and of nothing else that is asked for; its lists are at and past bounds where there is room for as many.
func (g *giver) strange(of reflect.Type, deep int) reflect.Value {
	made := reflect.New(of).Elem()
	switch of.Kind() {
	case reflect.Int64:
		made.SetInt(g.oddNumber())
	case reflect.Bool:
		made.SetBool(g.below(2) == 0)
	case reflect.String:
		made.SetString(g.oddText())
	case reflect.Struct:
		for i := range of.NumField() {
			made.Field(i).Set(g.strange(of.Field(i).Type, deep-1))
		}
	case reflect.Slice:
		sizes := []int{0, 1, 2, 4, 5, 7, 8, 9, 10, 11, 12, 13, 20, 21, 40, 41, 100, 101, 200, 201, 300, 301}
		size := 0
		if deep > 0 {
			size = sizes[g.below(min(len(sizes), deep*deep*3))]
		}
		made.Set(reflect.MakeSlice(of, size, size))
		for i := range size {
			made.Index(i).Set(g.strange(of.Elem(), deep-1))
		}
	}
	return made
}

// changed is another one with one of its numbers, flags, texts or lists altered.
func (g *giver) changed(v reflect.Value) reflect.Value {
	other := g.roomed(v)
	parts := partsWithin(other)
	part := parts[g.below(len(parts))]
	switch part.Kind() {
	case reflect.Slice:
		if part.Len() == 0 || g.below(3) == 0 {
			part.Set(reflect.Append(part, g.strange(part.Type().Elem(), 1)))
		} else if g.below(2) == 0 {
			part.Set(reflect.Append(part, part.Index(g.below(part.Len()))))
		} else {
			part.Set(part.Slice(0, part.Len()-1))
		}
	case reflect.Int64:
		part.SetInt(part.Int() + int64(g.below(3)-1))
		if g.below(2) == 0 {
			part.SetInt(g.oddNumber())
		}
	default:
		part.Set(g.strange(part.Type(), 1))
	}
	return other
}

// partsWithin are all numbers, flags, texts and lists of an addressable value.
func partsWithin(v reflect.Value) []reflect.Value {
	var parts []reflect.Value
	switch v.Kind() {
	case reflect.Struct:
		for i := range v.NumField() {
			parts = append(parts, partsWithin(v.Field(i))...)
		}
		return parts
	case reflect.Slice:
		for i := range v.Len() {
			parts = append(parts, partsWithin(v.Index(i))...)
		}
	}
	return append(parts, v)
}

// remade is a copy in memory of its own, addressable; of a list it has what list makes of it.
func remade(v reflect.Value, list func(v reflect.Value) reflect.Value) reflect.Value {
	made := reflect.New(v.Type()).Elem()
	switch v.Kind() {
	case reflect.String:
		made.SetString(strings.Clone(v.String()))
	case reflect.Struct:
		for i := range v.NumField() {
			made.Field(i).Set(remade(v.Field(i), list))
		}
	case reflect.Slice:
		if !v.IsNil() {
			made.Set(list(v))
		}
	default:
		made.Set(v)
	}
	return made
}

// roomed is a copy with two strangers in the spare room behind each list.
func (g *giver) roomed(v reflect.Value) reflect.Value {
	return remade(v, func(v reflect.Value) reflect.Value {
		size := v.Len()
		room := reflect.MakeSlice(v.Type(), size+2, size+2)
		for i := range size {
			room.Index(i).Set(g.roomed(v.Index(i)))
		}
		for i := size; i < size+2; i++ {
			room.Index(i).Set(g.strange(v.Type().Elem(), 1))
		}
		return room.Slice(0, size)
	})
}

// openedAll is a copy with the spare room behind lists shown as part of them.
func openedAll(v reflect.Value) reflect.Value {
	return remade(v, func(v reflect.Value) reflect.Value { return listOf(v.Slice(0, v.Cap()), openedAll) })
}

// plainly is a copy as it is; empty lists and nil are one.
func plainly(v reflect.Value) reflect.Value {
	return remade(v, func(v reflect.Value) reflect.Value {
		if v.Len() == 0 {
			return reflect.Zero(v.Type())
		}
		return listOf(v, plainly)
	})
}

func listOf(v reflect.Value, one func(v reflect.Value) reflect.Value) reflect.Value {
	made := reflect.MakeSlice(v.Type(), v.Len(), v.Len())
	for i := range v.Len() {
		made.Index(i).Set(one(v.Index(i)))
	}
	return made
}

// shownAll is what values are, made by f.
func shownAll(values []reflect.Value, f func(v reflect.Value) reflect.Value) []any {
	var all []any
	for _, v := range values {
		all = append(all, f(v).Interface())
	}
	return all
}

// allLie is where each list and each text within values lies, spare room included.
func allLie(values []reflect.Value) []stretch {
	var lie []stretch
	for _, v := range values {
		switch v.Kind() {
		case reflect.String:
			lie = append(lie, textLies(v.String())...)
		case reflect.Struct:
			for i := range v.NumField() {
				lie = append(lie, allLie([]reflect.Value{v.Field(i)})...)
			}
		case reflect.Slice:
			from := uintptr(unsafe.Pointer(v.UnsafePointer()))
			lie = append(lie, stretch{from, from + uintptr(v.Cap())*v.Type().Elem().Size()})
			for i := range v.Len() {
				lie = append(lie, allLie([]reflect.Value{v.Index(i)})...)
			}
		}
	}
	return lie
}

// spoilAll writes over all lists of an answer, and over the spare room behind them.
func spoilAll(values []reflect.Value) {
	for _, v := range values {
		switch v.Kind() {
		case reflect.Struct:
			for i := range v.NumField() {
				spoilAll([]reflect.Value{v.Field(i)})
			}
		case reflect.Slice:
			v = v.Slice(0, v.Cap())
			for i := range v.Len() {
				spoilAll([]reflect.Value{v.Index(i)})
				v.Index(i).Set(spoilt(v.Type().Elem()))
			}
		}
	}
}

// spoilt is of a type, and as wrong as can be.
func spoilt(of reflect.Type) reflect.Value {
	made := reflect.New(of).Elem()
	switch of.Kind() {
	case reflect.Int64:
		made.SetInt(-4711)
	case reflect.Bool:
		made.SetBool(true)
	case reflect.String:
		made.SetString("spoilt")
	case reflect.Struct:
		for i := range of.NumField() {
			made.Field(i).Set(spoilt(of.Field(i).Type))
		}
	}
	return made
}

// answered calls a function, and fails where it panics.
func answered(t *testing.T, name string, args []reflect.Value) []reflect.Value {
	t.Helper()
	defer func() {
		if why := recover(); why != nil {
			t.Fatalf("%s%s panics: %v", name, shownGiven(args), why)
		}
	}()
	return reflect.ValueOf(everyFunction[name]).Call(args)
}

func shownGiven(args []reflect.Value) string {
	return fmt.Sprintf("%.3000s", fmt.Sprintf("%+v", shownAll(args, plainly)))
}

// checkAnswered asks for promise 21 of one function and these arguments, which may share memory with one another.
func checkAnswered(t *testing.T, name string, args []reflect.Value) []any {
	t.Helper()
	before := shownAll(args, openedAll)
	first, second := answered(t, name, args), answered(t, name, args)
	want := shownAll(first, plainly)
	if got := shownAll(second, plainly); !reflect.DeepEqual(got, want) {
		t.Fatalf("%s%s: %v, then %v", name, shownGiven(args), want, got)
	}
	lie := allLie(slices.Concat(first, second))
	checkManyApart(t, name+" of "+shownGiven(args), lie)
	if overlap(lie, allLie(args)) {
		t.Fatalf("%s%s: memory is shared with what was given", name, shownGiven(args))
	}
	spoilAll(slices.Concat(first, second))
	third := answered(t, name, args)
	if got := shownAll(third, plainly); !reflect.DeepEqual(got, want) {
		t.Fatalf("%s%s: %v, once written over %v", name, shownGiven(args), want, got)
	}
	if behind := shownAll(args, openedAll); !reflect.DeepEqual(behind, before) {
		t.Fatalf("%s: %.2000v was changed to %.2000v", name, before, behind)
	}
	return want
}
