package tests

import (
	"reflect"
	"strings"
	"testing"
	"unsafe"

	"loop.example/g00291/impl"
)

func null() impl.Value { return impl.Value{Kind: impl.JsNull} }

func boolean(n int64) impl.Value { return impl.Value{Kind: impl.JsBool, Num: n} }

func num(n int64) impl.Value { return impl.Value{Kind: impl.JsNum, Num: n} }

func text(s string) impl.Value { return impl.Value{Kind: impl.JsText, Text: s} }

func list(items ...impl.Value) impl.Value { return impl.Value{Kind: impl.JsList, Items: items} }

// dict takes the Keys as one text, with blanks between.
func dict(keys string, items ...impl.Value) impl.Value {
	return impl.Value{Kind: impl.JsMap, Items: items, Keys: strings.Fields(keys)}
}

// nested is v within as many lists.
func nested(v impl.Value, lists int) impl.Value {
	for range lists {
		v = list(v)
	}
	return v
}

// alike is the tests' own equality: an empty list and nil are the same value.
func alike(a, b impl.Value) bool {
	if a.Kind != b.Kind || a.Num != b.Num || a.Text != b.Text || len(a.Items) != len(b.Items) || len(a.Keys) != len(b.Keys) {
		return false
	}
	for i := range a.Items {
		if !alike(a.Items[i], b.Items[i]) {
			return false
		}
	}
	for i := range a.Keys {
		if a.Keys[i] != b.Keys[i] {
			return false
		}
	}
	return true
}

func isZero(v impl.Value) bool { return alike(v, impl.Value{}) }

// partsOf cuts what Print writes into its parts: brackets, commas, colons, texts, and runs of any other bytes.
func partsOf(s string) []string {
	var parts []string
	for i := 0; i < len(s); {
		j := i + 1
		switch {
		case s[i] == '"':
			for s[j] != '"' {
				if s[j] == '\\' {
					j++
				}
				j++
			}
			j++
		case !strings.ContainsRune("[]{},:", rune(s[i])):
			for j < len(s) && !strings.ContainsRune("[]{},:\"", rune(s[j])) {
				j++
			}
		}
		parts = append(parts, s[i:j])
		i = j
	}
	return parts
}

// spread is s with so many blanks ahead of, between and behind its parts.
func spread(s string, blanks int) string {
	gap := strings.Repeat(" ", blanks)
	return gap + strings.Join(partsOf(s), gap) + gap
}

// checkRight asks of a right Value all that promise 1 says.
func checkRight(t *testing.T, v impl.Value) {
	t.Helper()
	s := impl.Print(v)
	if !impl.ValueOk(v) || s == "" || !impl.Same(v, v) {
		t.Fatalf("not right: %v, printed %q", v, s)
	}
	texts := []string{s, spread(s, 1), spread(s, 7), "   " + s, s + "   "}
	for i, p := range partsOf(s) {
		texts = append(texts, strings.Join(partsOf(s)[:i], "")+"  "+p+strings.Join(partsOf(s)[i+1:], ""))
	}
	for _, x := range texts {
		got, is := impl.Parse(x)
		if !is || !alike(got, v) || !impl.ValueOk(got) || !impl.Same(got, v) || impl.Print(got) != s {
			t.Fatalf("Parse(%q) = %v, %v; want %v", x, got, is, v)
		}
	}
}

// checkWrong asks for the fixed answers of a Value that is not right.
func checkWrong(t *testing.T, name string, v impl.Value) {
	t.Helper()
	if impl.ValueOk(v) {
		t.Errorf("%s: ValueOk", name)
	}
	if impl.Deep(v) != 0 || impl.Count(v) != 0 {
		t.Errorf("%s: Deep %d, Count %d", name, impl.Deep(v), impl.Count(v))
	}
	if s := impl.Print(v); s != "" {
		t.Errorf("%s: Print %q", name, s)
	}
	if impl.Same(v, v) || impl.Same(v, null()) || impl.Same(null(), v) || impl.Same(v, impl.Value{}) {
		t.Errorf("%s: Same", name)
	}
	for _, key := range append([]string{"", "a"}, v.Keys...) {
		if m, is := impl.Member(v, key); is || !isZero(m) {
			t.Errorf("%s: Member %q: %v", name, key, m)
		}
	}
}

func checkRefused(t *testing.T, s string) {
	t.Helper()
	if v, is := impl.Parse(s); is || !isZero(v) {
		t.Errorf("Parse(%.200q) = %v, %v; want the zero Value and false", s, v, is)
	}
}

// copied is v in memory of its own, with a stranger in the spare room behind each list.
func copied(v impl.Value) impl.Value {
	c := v
	c.Text = strings.Clone(v.Text)
	c.Items, c.Keys = nil, nil
	if v.Items != nil {
		items := make([]impl.Value, 0, len(v.Items)+1)
		for _, item := range v.Items {
			items = append(items, copied(item))
		}
		items[:cap(items)][len(v.Items)] = num(4711)
		c.Items = items
	}
	if v.Keys != nil {
		keys := make([]string, 0, len(v.Keys)+1)
		for _, key := range v.Keys {
			keys = append(keys, strings.Clone(key))
		}
		keys[:cap(keys)][len(v.Keys)] = "stranger"
		c.Keys = keys
	}
	return c
}

// whole is v with the spare room behind its lists shown as part of them.
func whole(v impl.Value) impl.Value {
	c := v
	c.Items = append([]impl.Value(nil), v.Items[:cap(v.Items)]...)
	for i := range c.Items {
		c.Items[i] = whole(c.Items[i])
	}
	c.Keys = append([]string(nil), v.Keys[:cap(v.Keys)]...)
	return c
}

func unchanged(before, after impl.Value) bool { return reflect.DeepEqual(before, whole(after)) }

type stretch struct{ from, to uintptr }

// memoryOf is where the lists and texts of v lie, spare room included.
func memoryOf(v impl.Value) []stretch {
	var out []stretch
	add := func(p unsafe.Pointer, size uintptr) {
		if size > 0 {
			out = append(out, stretch{uintptr(p), uintptr(p) + size})
		}
	}
	add(unsafe.Pointer(unsafe.StringData(v.Text)), uintptr(len(v.Text)))
	add(unsafe.Pointer(unsafe.SliceData(v.Items)), uintptr(cap(v.Items))*unsafe.Sizeof(v))
	add(unsafe.Pointer(unsafe.SliceData(v.Keys)), uintptr(cap(v.Keys))*unsafe.Sizeof(v.Text))
	for _, key := range v.Keys {
		add(unsafe.Pointer(unsafe.StringData(key)), uintptr(len(key)))
	}
	for _, item := range v.Items {
		out = append(out, memoryOf(item)...)
	}
	return out
}

func overlap(a, b []stretch) bool {
	for _, x := range a {
		for _, y := range b {
			if x.from < y.to && y.from < x.to {
				return true
			}
		}
	}
	return false
}

// checkApart asks that no two lists or texts of one answer share memory.
func checkApart(t *testing.T, v impl.Value) {
	t.Helper()
	stretches := memoryOf(v)
	for i := range stretches {
		if overlap(stretches[i:i+1], stretches[i+1:]) {
			t.Errorf("two parts of one answer share memory: %v", v)
		}
	}
}
