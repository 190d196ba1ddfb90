package tests

import (
	"cmp"
	"slices"
	"testing"
	"unsafe"

	"loop.example/g00291/impl"
)

// isStep is the tests' own word on what may come next; both are statements of p.
func isStep(p impl.Proc, from, to int64) bool {
	switch s := p.Stmts[from]; s.Kind {
	case impl.StBack:
		return false
	case impl.StJump:
		return to == from+1 || to == s.Y
	default:
		return to == from+1
	}
}

// isWay is the tests' own word on ways; p is right.
func isWay(p impl.Proc, way []int64) bool {
	if len(way) == 0 || len(way) > 100 || way[0] != 0 {
		return false
	}
	for i := 1; i < len(way); i++ {
		if way[i] < 0 || way[i] >= int64(len(p.Stmts)) || !isStep(p, way[i-1], way[i]) {
			return false
		}
	}
	return true
}

// numbersWhere tells the numbers below n that are so, rising.
func numbersWhere(n int, so func(i int64) bool) []int64 {
	var list []int64
	for i := range int64(n) {
		if so(i) {
			list = append(list, i)
		}
	}
	return list
}

// stmtsWhere tells the statements of p that are so, rising.
func stmtsWhere(p impl.Proc, so func(i int64) bool) []int64 {
	return numbersWhere(len(p.Stmts), so)
}

// shortest has for each statement the size of a shortest way to it, 0 where there is none: steps are tried until none betters it.
func shortest(p impl.Proc) []int64 {
	size := make([]int64, len(p.Stmts))
	size[0] = 1
	for better := true; better; {
		better = false
		for i := range size {
			for j := range size {
				if size[i] > 0 && isStep(p, int64(i), int64(j)) && (size[j] == 0 || size[j] > size[i]+1) {
					size[j] = size[i] + 1
					better = true
				}
			}
		}
	}
	return size
}

// deeper calls f with each way that goes on from this one, itself too, the deep ones first.
func deeper(p impl.Proc, way []int64, most int64, f func(way []int64)) {
	for next := int64(len(p.Stmts)) - 1; next >= 0 && int64(len(way)) < most; next-- {
		if isStep(p, way[len(way)-1], next) {
			deeper(p, append(slices.Clone(way), next), most, f)
		}
	}
	f(way)
}

// allWays has for each statement the ways to it, found in another order than asked for, and sorted.
func allWays(p impl.Proc, most int64) [][][]int64 {
	ways := make([][][]int64, len(p.Stmts))
	deeper(p, []int64{0}, most, func(way []int64) {
		last := way[len(way)-1]
		ways[last] = append(ways[last], way)
	})
	for _, list := range ways {
		slices.SortFunc(list, func(a, b []int64) int {
			return cmp.Or(cmp.Compare(len(a), len(b)), slices.Compare(a, b))
		})
	}
	return ways
}

func sameLists(a, b [][]int64) bool {
	return slices.EqualFunc(a, b, func(x, y []int64) bool { return slices.Equal(x, y) })
}

// checkSteps asks for Next, Before, Reached and Short of every statement of a right Proc.
func checkSteps(t *testing.T, p impl.Proc) {
	t.Helper()
	size := shortest(p)
	for i := range int64(len(p.Stmts)) {
		if got, want := impl.Next(p, i), stmtsWhere(p, func(j int64) bool { return isStep(p, i, j) }); !slices.Equal(got, want) {
			t.Fatalf("%v: Next of %d: %v, want %v", p, i, got, want)
		}
		if got, want := impl.Before(p, i), stmtsWhere(p, func(j int64) bool { return isStep(p, j, i) }); !slices.Equal(got, want) {
			t.Fatalf("%v: Before %d: %v, want %v", p, i, got, want)
		}
		if got := impl.Short(p, i); got != size[i] {
			t.Fatalf("%v: Short of %d: %d, want %d", p, i, got, size[i])
		}
	}
	if got, want := impl.Reached(p), stmtsWhere(p, func(i int64) bool { return size[i] > 0 }); !slices.Equal(got, want) {
		t.Fatalf("%v: Reached %v, want %v", p, got, want)
	}
}

// checkWays asks for the Ways to every statement of a right Proc, and that each is WayOk and no shorter than Short.
func checkWays(t *testing.T, p impl.Proc, most int64) {
	t.Helper()
	for at, want := range allWays(p, most) {
		got := impl.Ways(p, int64(at), most)
		if !sameLists(got, want) {
			t.Fatalf("%v: Ways to %d of at most %d: %v, want %v", p, at, most, got, want)
		}
		for _, way := range got {
			if !impl.WayOk(p, way) {
				t.Fatalf("%v: %v is no way", p, way)
			}
		}
		short := impl.Short(p, int64(at))
		if reaches := short > 0 && short <= most; reaches != (len(got) > 0) || reaches && int64(len(got[0])) != short {
			t.Fatalf("%v: Short of %d: %d, Ways %v", p, at, short, got)
		}
	}
}

// checkNoStmt asks for the fixed answers of a statement that is not there.
func checkNoStmt(t *testing.T, p impl.Proc, at int64) {
	t.Helper()
	if n, b, s := impl.Next(p, at), impl.Before(p, at), impl.Short(p, at); len(n) != 0 || len(b) != 0 || s != 0 {
		t.Fatalf("%d statements, asked for %d: Next %v, Before %v, Short %d", len(p.Stmts), at, n, b, s)
	}
	for most := range int64(12) {
		if w := impl.Ways(p, at, most); len(w) != 0 {
			t.Fatalf("%d statements, asked for %d: Ways of at most %d: %v", len(p.Stmts), at, most, w)
		}
	}
}

// checkFlowWrong asks for the fixed answers of a Proc that is not right.
func checkFlowWrong(t *testing.T, name string, p impl.Proc) {
	t.Helper()
	if r := impl.Reached(p); len(r) != 0 {
		t.Errorf("%s: Reached %v", name, r)
	}
	for _, at := range nearAndFar(-2, 14) {
		checkNoStmt(t, p, at)
		if impl.WayOk(p, []int64{at}) || impl.WayOk(p, []int64{0, at}) || impl.WayOk(p, []int64{0, 1, at}) {
			t.Errorf("%s: WayOk with %d", name, at)
		}
	}
	if impl.WayOk(p, nil) {
		t.Errorf("%s: WayOk without a statement", name)
	}
}

// smallProcs calls f with every Proc of n statements of which each is StSkip, StBack or a jump, the last one StBack.
func smallProcs(n int, f func(p impl.Proc)) {
	kinds := []impl.Stmt{skip(), back()}
	for y := range n {
		kinds = append(kinds, jump(int64(y)))
	}
	count := 1
	for range n - 1 {
		count *= len(kinds)
	}
	for number := range count {
		p := long(n)
		for at := range n - 1 {
			p.Stmts[at] = kinds[number%len(kinds)]
			number /= len(kinds)
		}
		f(p)
	}
}

// liesAt is where a list lies, spare room included.
func liesAt[T any](list []T) []stretch {
	var one T
	from := uintptr(unsafe.Pointer(unsafe.SliceData(list)))
	return []stretch{{from, from + uintptr(cap(list))*unsafe.Sizeof(one)}}
}
