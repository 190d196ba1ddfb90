package tests

import (
	"maps"
	"math"
	"reflect"
	"runtime"
	"slices"
	"sync"
	"testing"
)

// Those that are asked are all that there are.
func TestP21EveryFunctionIsAsked(t *testing.T) {
	names := declared(t)
	if asked, all := functionNames(), slices.Sorted(maps.Keys(names)); !slices.Equal(asked, all) {
		t.Error(all, "are there, asked are", asked)
	}
	for _, name := range functionNames() {
		function := everyFunction[name]
		if all := names[name]; len(all) != reflect.TypeOf(function).NumIn() {
			t.Error(name, all)
		}
	}
}

// Drawn arguments of every kind: right ones, zero values, some in which one part is not right, and such in which nothing is.
func TestP21EveryFunctionAnswers(t *testing.T) {
	g := newGiver(t, 210)
	before := runtime.NumGoroutine()
	for _, name := range functionNames() {
		unlike := map[string]bool{}
		for range 250 {
			unlike[shownShort(checkAnswered(t, name, g.given(name)))] = true
		}
		if least := leastUnlike(reflect.TypeOf(everyFunction[name])); len(unlike) < least {
			t.Errorf("%s: %d answers, %d at least", name, len(unlike), least)
		}
	}
	checkAllJoined(t, before)
}

// leastUnlike is how many answers a function of a type has at least, if it is not asked in vain.
func leastUnlike(of reflect.Type) int {
	switch {
	case of.NumIn() == 0:
		return 1
	case of.NumOut() == 1 && of.Out(0).Kind() == reflect.Bool:
		return 2
	}
	return 3
}

// Where all arguments are zero values, or lists without anything, or numbers at one end.
func TestP21EveryFunctionOfNothing(t *testing.T) {
	for _, name := range functionNames() {
		function := everyFunction[name]
		of := reflect.TypeOf(function)
		for _, end := range []int64{0, -1, 1, math.MinInt64, math.MaxInt64} {
			for _, nothing := range []bool{false, true} {
				var args []reflect.Value
				for i := range of.NumIn() {
					arg := reflect.New(of.In(i)).Elem()
					fill(arg, end, nothing)
					args = append(args, arg)
				}
				checkAnswered(t, name, args)
			}
		}
	}
}

// fill sets all numbers to one, and lists to such that have nothing in them, or are nil.
func fill(v reflect.Value, n int64, nothing bool) {
	switch v.Kind() {
	case reflect.Int64:
		v.SetInt(n)
	case reflect.Struct:
		for i := range v.NumField() {
			fill(v.Field(i), n, nothing)
		}
	case reflect.Slice:
		if nothing {
			v.Set(reflect.MakeSlice(v.Type(), 0, 3))
		}
	}
}

// Each argument at each end, the others right.
func TestP21EveryFunctionAtTheEnds(t *testing.T) {
	g := newGiver(t, 211)
	for _, name := range functionNames() {
		function := everyFunction[name]
		of := reflect.TypeOf(function)
		for i := range of.NumIn() {
			if of.In(i).Kind() != reflect.Int64 {
				continue
			}
			for _, end := range []int64{math.MinInt64, math.MinInt64 + 1, math.MaxInt64 - 1, math.MaxInt64} {
				for range 4 {
					args := g.given(name)
					args[i] = reflect.ValueOf(end)
					checkAnswered(t, name, args)
				}
			}
		}
	}
}

// Arguments of one type are one and the same, memory and all.
func TestP21EveryFunctionOfSharedArguments(t *testing.T) {
	g := newGiver(t, 212)
	shared := 0
	for _, name := range functionNames() {
		for range 30 {
			args := g.given(name)
			for i := range args {
				for k := range i {
					if args[i].Type() == args[k].Type() && args[i].Kind() != reflect.Int64 {
						args[i] = args[k]
						shared++
					}
				}
			}
			checkAnswered(t, name, args)
		}
	}
	if shared < 100 {
		t.Error(shared)
	}
}

// What is answered hangs on nothing that others ask at the same time.
func TestP21EveryFunctionBesideOthers(t *testing.T) {
	g := newGiver(t, 213)
	for _, name := range functionNames() {
		function := everyFunction[name]
		for range 5 {
			args := g.given(name)
			want := shownAll(answered(t, name, args), plainly)
			var others sync.WaitGroup
			for range 4 {
				others.Go(func() {
					if got := shownAll(reflect.ValueOf(function).Call(args), plainly); !reflect.DeepEqual(got, want) {
						t.Errorf("%s%s: %v beside others, alone %v", name, shownGiven(args), got, want)
					}
				})
			}
			others.Wait()
		}
	}
}
