package tests

import (
	"bytes"
	"encoding/json"
	"math"
	"runtime"
	"strconv"
	"strings"
	"testing"
	"unsafe"

	"loop.example/g00291/impl"
)

func sample() impl.Value {
	return dict("a b c d e",
		list(num(1), num(-20), boolean(1), boolean(0), null()),
		text("say \"yes\" \\ or\nno"),
		dict("x y", list(), dict("")),
		text(""),
		list(list(list(text("deep")))))
}

// sampled calls each function of the chapter once with v.
func sampled(v impl.Value) {
	impl.ValueOk(v)
	impl.Deep(v)
	impl.Count(v)
	impl.Print(v)
	impl.Member(v, "a")
	impl.Member(v, "none")
	impl.Same(v, v)
}

func TestP1PrintedAndParsedAgain(t *testing.T) {
	cases := []struct {
		v     impl.Value
		want  string
		deep  int64
		count int64
	}{
		{null(), "null", 1, 1},
		{boolean(0), "false", 1, 1},
		{boolean(1), "true", 1, 1},
		{num(0), "0", 1, 1},
		{num(7), "7", 1, 1},
		{num(-1), "-1", 1, 1},
		{num(1000), "1000", 1, 1},
		{text("plain"), `"plain"`, 1, 1},
		{text(""), `""`, 1, 1},
		{text(" "), `" "`, 1, 1},
		{text("\n"), `"\n"`, 1, 1},
		{text(`\n`), `"\\n"`, 1, 1},
		{text(`"`), `"\""`, 1, 1},
		{text(`\`), `"\\"`, 1, 1},
		{text(`\"`), `"\\\""`, 1, 1},
		{text("null"), `"null"`, 1, 1},
		{text("[1, {\"a\":2}]"), `"[1, {\"a\":2}]"`, 1, 1},
		{list(), "[]", 1, 1},
		{list(num(1)), "[1]", 2, 2},
		{list(num(1), num(-2), null()), "[1,-2,null]", 2, 4},
		{list(list(), list(list())), "[[],[[]]]", 3, 4},
		{dict(""), "{}", 1, 1},
		{dict("a", num(1)), `{"a":1}`, 2, 2},
		{dict("b a", num(1), num(1)), `{"b":1,"a":1}`, 2, 3},
		{dict("a b", dict(""), dict("a", dict("a", null()))), `{"a":{},"b":{"a":{"a":null}}}`, 4, 5},
		{impl.Value{Kind: impl.JsMap, Keys: []string{"", "\n", `"`, `\`}, Items: []impl.Value{null(), null(), null(), null()}},
			`{"":null,"\n":null,"\"":null,"\\":null}`, 2, 5},
		{list(dict("a", list(text("x"), boolean(1)))), `[{"a":["x",true]}]`, 4, 5},
		{sample(), `{"a":[1,-20,true,false,null],"b":"say \"yes\" \\ or\nno","c":{"x":[],"y":{}},"d":"","e":[[["deep"]]]}`, 5, 16},
	}
	for i, c := range cases {
		if s := impl.Print(c.v); s != c.want {
			t.Errorf("Print: %q, want %q", s, c.want)
		}
		if d, n := impl.Deep(c.v), impl.Count(c.v); d != c.deep || n != c.count {
			t.Errorf("%s: Deep %d, Count %d", c.want, d, n)
		}
		checkRight(t, c.v)
		for j, other := range cases {
			if impl.Same(c.v, other.v) != (i == j) {
				t.Errorf("Same of %s and %s", c.want, other.want)
			}
		}
	}
}

func TestP1EmptyListAndNilAreTheSame(t *testing.T) {
	spare := impl.Value{Kind: impl.JsNum, Num: 3, Items: []impl.Value{}, Keys: []string{}}
	if !impl.ValueOk(spare) || !impl.Same(spare, num(3)) || impl.Print(spare) != "3" {
		t.Error("a number with empty lists")
	}
	full := impl.Value{Kind: impl.JsMap, Items: []impl.Value{}, Keys: []string{}}
	if !impl.Same(full, impl.Value{Kind: impl.JsMap}) || !impl.Same(impl.Value{Kind: impl.JsMap}, full) {
		t.Error("a map with empty lists")
	}
}

func TestP1SameTellsApart(t *testing.T) {
	groups := [][]impl.Value{
		{num(0), boolean(0), null(), text(""), list(), dict("")},
		{num(1), boolean(1), text("1"), list(num(1)), dict("a", num(1))},
		{dict("a b", num(1), num(2)), dict("b a", num(2), num(1)), dict("a b", num(2), num(1)), dict("a c", num(1), num(2))},
		{list(num(1), num(2)), list(num(2), num(1)), list(num(1), num(2), num(2)), list(list(num(1)), num(2))},
		{list(text("a,b")), list(text("a"), text("b")), text(`["a","b"]`)},
	}
	for _, g := range groups {
		for i := range g {
			for j := range g {
				if impl.Same(g[i], copied(g[j])) != (i == j) {
					t.Errorf("Same of %s and %s", impl.Print(g[i]), impl.Print(g[j]))
				}
			}
		}
	}
}

func TestP1Member(t *testing.T) {
	v := sample()
	for i, key := range v.Keys {
		if m, is := impl.Member(v, key); !is || !alike(m, v.Items[i]) {
			t.Errorf("Member %q: %v, %v", key, m, is)
		}
	}
	odd := impl.Value{Kind: impl.JsMap, Keys: []string{"", "\n"}, Items: []impl.Value{null(), num(5)}}
	if m, is := impl.Member(odd, ""); !is || !alike(m, null()) {
		t.Error("the empty Key", m, is)
	}
	if m, is := impl.Member(odd, "\n"); !is || !alike(m, num(5)) {
		t.Error("the Key with a byte 10", m, is)
	}
	for _, x := range []struct {
		v   impl.Value
		key string
	}{
		{v, ""}, {v, "A"}, {v, "x"}, {v, "a "}, {v, "\x00"}, {v, strings.Repeat("a", 101)}, {dict(""), ""},
		{null(), ""}, {num(1), ""}, {text("a"), "a"}, {list(text("a")), "a"}, {list(), ""}, {list(dict("a", null())), "a"}, {impl.Value{}, ""},
	} {
		if m, is := impl.Member(x.v, x.key); is || !isZero(m) {
			t.Errorf("Member of %s, %q: %v, %v", impl.Print(x.v), x.key, m, is)
		}
	}
}

func TestP1EdgesOfNumbers(t *testing.T) {
	for _, n := range []int64{-999999999, -999999998, -100000000, -99999999, -10, 10, 99999999, 100000000, 999999998, 999999999} {
		checkRight(t, num(n))
		if s := impl.Print(num(n)); s != strconv.FormatInt(n, 10) {
			t.Error(n, s)
		}
	}
	for _, n := range []int64{-1000000000, 1000000000, math.MinInt64, math.MaxInt64, math.MinInt64 + 1, 1 << 32, -1 << 32} {
		checkWrong(t, strconv.FormatInt(n, 10), num(n))
		checkRefused(t, strconv.FormatInt(n, 10))
	}
	for _, s := range []string{"1000000000", "-1000000000", "0999999999", "0000000001", "18446744073709551616", "-18446744073709551617", strings.Repeat("9", 5000)} {
		checkRefused(t, s)
	}
}

func TestP1EdgesOfTexts(t *testing.T) {
	for _, n := range []int{0, 1, 99, 100} {
		for _, c := range []string{"a", "\n", "\"", "\\", " ", "~"} {
			s := strings.Repeat(c, n)
			checkRight(t, text(s))
			checkRight(t, impl.Value{Kind: impl.JsMap, Keys: []string{s}, Items: []impl.Value{num(1)}})
		}
	}
	for _, c := range []string{"a", "\n", "\"", "\\", " "} {
		s := strings.Repeat(c, 101)
		checkWrong(t, "a long text", text(s))
		checkWrong(t, "a long Key", impl.Value{Kind: impl.JsMap, Keys: []string{s}, Items: []impl.Value{num(1)}})
		written := strings.NewReplacer("\n", `\n`, `"`, `\"`, `\`, `\\`).Replace(s)
		checkRefused(t, `"`+written+`"`)
		checkRefused(t, `{"`+written+`":1}`)
	}
}

func TestP1EveryByte(t *testing.T) {
	for c := range 256 {
		s := string([]byte{byte(c)})
		v := text("a" + s + "b")
		k := impl.Value{Kind: impl.JsMap, Keys: []string{s}, Items: []impl.Value{null()}}
		if c == 10 || 32 <= c && c <= 126 {
			checkRight(t, v)
			checkRight(t, k)
		} else {
			checkWrong(t, "text with byte "+strconv.Itoa(c), v)
			checkWrong(t, "Key with byte "+strconv.Itoa(c), k)
		}
		bare := 32 <= c && c <= 126 && c != '"' && c != '\\'
		for _, written := range []string{`"a` + s + `b"`, `{"` + s + `":1}`} {
			if got, is := impl.Parse(written); is != bare {
				t.Errorf("Parse(%q) = %v, %v", written, got, is)
			}
		}
		if c != '"' && c != '\\' && c != 'n' {
			checkRefused(t, `"\`+s+`"`)
			checkRefused(t, `{"\`+s+`":1}`)
		}
		if c != ' ' {
			checkRefused(t, s+`null`)
			checkRefused(t, `null`+s)
			checkRefused(t, `[1`+s+`,`+s+`null]`)
			checkRefused(t, `{"a"`+s+`:1}`)
		}
	}
}

func TestP1EdgesOfDepth(t *testing.T) {
	for lists := range 6 {
		v := nested(num(1), lists)
		checkRight(t, v)
		if impl.Deep(v) != int64(lists)+1 || impl.Count(v) != int64(lists)+1 {
			t.Error(lists, impl.Deep(v), impl.Count(v))
		}
		checkRight(t, nested(list(), lists))
		checkRight(t, nested(dict(""), lists))
	}
	six := dict("a", dict("a", dict("a", dict("a", dict("a", text("six"))))))
	checkRight(t, six)
	checkRight(t, list(num(1), nested(num(1), 4), num(1)))
	wrong := []impl.Value{nested(num(1), 6), nested(list(), 6), nested(dict(""), 6), list(six), dict("a", six), list(num(1), nested(num(1), 5), num(1))}
	for _, v := range wrong {
		checkWrong(t, "too deep", v)
	}
	for _, s := range []string{"[[[[[[1]]]]]]", "[[[[[[[]]]]]]]", "[[[[[[{}]]]]]]", "[1,[[[[[1]]]]],1]", `{"a":{"a":{"a":{"a":{"a":{"a":1}}}}}}`} {
		checkRefused(t, s)
	}
}

func TestP1EdgesOfCount(t *testing.T) {
	row := func(n int) []impl.Value {
		var items []impl.Value
		for range n {
			items = append(items, num(1))
		}
		return items
	}
	keyed := func(n int) impl.Value {
		v := impl.Value{Kind: impl.JsMap, Items: row(n)}
		for i := range n {
			v.Keys = append(v.Keys, "k"+strconv.Itoa(i))
		}
		return v
	}
	for _, v := range []impl.Value{list(row(99)...), keyed(99), list(list(row(48)...), list(row(49)...)), dict("a b", list(row(48)...), keyed(49))} {
		checkRight(t, v)
		if impl.Count(v) != 100 {
			t.Error(impl.Count(v))
		}
	}
	for _, v := range []impl.Value{list(row(100)...), keyed(100), list(list(row(49)...), list(row(49)...)), dict("a b", list(row(49)...), keyed(49))} {
		checkWrong(t, "too many", v)
	}
	checkRefused(t, "[1"+strings.Repeat(",1", 99)+"]")
	checkRefused(t, "[["+strings.Repeat("1,", 48)+"1],["+strings.Repeat("1,", 48)+"1]]")
	var entries []string
	for i := range 100 {
		entries = append(entries, `"k`+strconv.Itoa(i)+`":1`)
	}
	checkRefused(t, "{"+strings.Join(entries, ",")+"}")
	if _, is := impl.Parse("{" + strings.Join(entries[:99], ",") + "}"); !is {
		t.Error("99 Items")
	}
}

func TestP1WrongValues(t *testing.T) {
	items, keys := []impl.Value{null()}, []string{"a"}
	cases := map[string]impl.Value{
		"the zero Value":         {},
		"Kind 7":                 {Kind: 7},
		"Kind -1":                {Kind: -1},
		"Kind of all bits":       {Kind: math.MinInt64},
		"null with Num":          {Kind: impl.JsNull, Num: 1},
		"null with Text":         {Kind: impl.JsNull, Text: "a"},
		"null with Items":        {Kind: impl.JsNull, Items: items},
		"null with Keys":         {Kind: impl.JsNull, Keys: keys},
		"bool 2":                 {Kind: impl.JsBool, Num: 2},
		"bool -1":                {Kind: impl.JsBool, Num: -1},
		"bool with Text":         {Kind: impl.JsBool, Num: 1, Text: "a"},
		"bool with Items":        {Kind: impl.JsBool, Items: items},
		"bool with Keys":         {Kind: impl.JsBool, Keys: keys},
		"number with Text":       {Kind: impl.JsNum, Text: "1"},
		"number with Items":      {Kind: impl.JsNum, Items: items},
		"number with Keys":       {Kind: impl.JsNum, Keys: keys},
		"text with Num":          {Kind: impl.JsText, Text: "a", Num: 1},
		"text with Items":        {Kind: impl.JsText, Text: "a", Items: items},
		"text with Keys":         {Kind: impl.JsText, Text: "a", Keys: keys},
		"list with Num":          {Kind: impl.JsList, Num: -1},
		"list with Text":         {Kind: impl.JsList, Text: "a", Items: items},
		"list with Keys":         {Kind: impl.JsList, Items: items, Keys: keys},
		"list with a zero Value": {Kind: impl.JsList, Items: []impl.Value{null(), {}}},
		"map with Num":           {Kind: impl.JsMap, Num: 1, Items: items, Keys: keys},
		"map with Text":          {Kind: impl.JsMap, Text: "a", Items: items, Keys: keys},
		"map without a Key":      {Kind: impl.JsMap, Items: items},
		"map without an Item":    {Kind: impl.JsMap, Keys: keys},
		"map with a Key more":    {Kind: impl.JsMap, Items: items, Keys: []string{"a", "b"}},
		"map with an Item more":  {Kind: impl.JsMap, Items: []impl.Value{null(), null()}, Keys: keys},
		"Keys alike":             {Kind: impl.JsMap, Items: []impl.Value{null(), num(1)}, Keys: []string{"a", "a"}},
		"Keys alike, far off":    {Kind: impl.JsMap, Items: []impl.Value{null(), num(1), num(2)}, Keys: []string{"a", "b", "a"}},
		"empty Keys alike":       {Kind: impl.JsMap, Items: []impl.Value{null(), null()}, Keys: []string{"", ""}},
		"map with a wrong Item":  {Kind: impl.JsMap, Items: []impl.Value{null(), boolean(3)}, Keys: []string{"a", "b"}},
	}
	for name, v := range cases {
		checkWrong(t, name, v)
		checkWrong(t, name+" in a list", list(null(), v))
		checkWrong(t, name+" in a map", dict("a b", v, null()))
		checkWrong(t, name+" four deep", nested(dict("a", v), 3))
	}
}

func TestP1WrongTexts(t *testing.T) {
	for _, s := range []string{
		"", " ", "      ", "nul", "nulll", "Null", "NULL", "n ull", "tru", "truee", "fals", "True", "none", "tr ue",
		"null null", "nullnull", "1 2", "1 null", "true,", ",", ":", "[1] ]", "{} 1", "\"a\" \"b\"", "[]{}", "1]",
		"00", "01", "-01", "-00", "-0", "007", "[01]", "--1", "-", "- 1", "+1", "1-", "1-2", "1.0", "1.", ".5", "1e3", "1E3", "0x1", "1_0", "1 0", "Infinity", "NaN",
		"\"", "\"a", "\"a\\\"", "\"\\", "\"a\\", "\"\\a\"", "\"\\N\"", "\"\\t\"", "\"\\r\"", "\"\\/\"", "\"\\u0041\"", "\"\\ n\"", "\"a\nb\"", "a\"", "'a'", "\"a\"b", "\"\"\"",
		"[", "[1", "[1,", "[1,]", "[,1]", "[,]", "[1,,2]", "[1 2]", "[1;2]", "]", "[]]", "[[]", "[1}", "[\"a]", "[\"a\":1]", "[1:2]", "[nul]",
		"{", "{\"a\"", "{\"a\":", "{\"a\":1", "{\"a\":1,", "{\"a\":1,}", "{,}", "{:1}", "{\"a\"}", "{\"a\",1}", "{\"a\":}", "{\"a\"::1}", "{\"a\":1 \"b\":2}", "{\"a\":1;\"b\":2}", "{1:1}", "{a:1}", "{null:1}", "{[]:1}", "{\"a\":1]", "}", "{}}", "{\"a:1}", "{\"a\" 1}", "{\"a\":1:2}",
		"{\"a\":1,\"a\":1}", "{\"a\":1,\"b\":2,\"a\":3}", "{\"\":1,\"\":2}", "{ \"\\n\" : 1 , \"\\n\" : 2 }", "[{\"a\":1,\"a\":1}]", "{\"\\\"\":1,\"\\\"\":2}",
		"\tnull", "null\t", "null\n", "\nnull", "[1,\n2]", "null\r\n", "\x00", "null\x00", "\u00a0null", "\ufeffnull", "[1]//", "\"\u00e9\"", "\"\x7f\"", "\"\x1f\"",
	} {
		checkRefused(t, s)
	}
	s := impl.Print(sample())
	for i := range len(s) {
		checkRefused(t, s[:i])
		checkRefused(t, s+s[i:])
	}
}

// jsonSays is an independent reader: what is asked for is JSON in which no number is written -0. (The alphabet below has no
// other number, blank or byte that only JSON knows, and the texts are too short for two Keys.)
func jsonSays(s string) bool {
	if !json.Valid([]byte(s)) {
		return false
	}
	d := json.NewDecoder(bytes.NewReader([]byte(s)))
	d.UseNumber()
	for {
		token, err := d.Token()
		if err != nil {
			return true
		}
		if n, is := token.(json.Number); is && n == "-0" {
			return false
		}
	}
}

func TestP1AllShortTexts(t *testing.T) {
	const alphabet = "[]{},:\"\\n01- "
	right := 0
	var grow func(s []byte)
	grow = func(s []byte) {
		v, is := impl.Parse(string(s))
		if want := jsonSays(string(s)); is != want {
			t.Errorf("Parse(%q) = %v, %v; want %v", s, v, is, want)
		}
		if is {
			right++
			again, is := impl.Parse(impl.Print(v))
			if !impl.ValueOk(v) || !is || !alike(again, v) {
				t.Errorf("%q: parsed as %v, printed as %q", s, v, impl.Print(v))
			}
		}
		if len(s) < 5 {
			for i := range len(alphabet) {
				grow(append(s[:len(s):len(s)], alphabet[i]))
			}
		}
	}
	grow(nil)
	if right < 1000 {
		t.Error("only", right, "right ones")
	}
}

// draws is a row of numbers that looks random, the same at every run.
type draws uint64

func (d *draws) below(n int) int {
	*d = *d*6364136223846793005 + 1442695040888963407
	return int(uint64(*d>>33) % uint64(n))
}

func (d *draws) text() string {
	const bytes = "ab \n\"\\~:,[]{}0n"
	out := make([]byte, d.below(6))
	for i := range out {
		out[i] = bytes[d.below(len(bytes))]
	}
	return string(out)
}

func (d *draws) value(deep int) impl.Value {
	kind := 1 + d.below(4)
	if deep > 1 && d.below(3) > 0 {
		kind = impl.JsList + d.below(2)
	}
	switch kind {
	case impl.JsBool:
		return boolean(int64(d.below(2)))
	case impl.JsNum:
		return num(int64(d.below(2000000003)) - 1000000001)
	case impl.JsText:
		return text(d.text())
	case impl.JsList, impl.JsMap:
		v := impl.Value{Kind: int64(kind)}
		for i := range d.below(4) {
			v.Items = append(v.Items, d.value(deep-1))
			if kind == impl.JsMap {
				v.Keys = append(v.Keys, strconv.Itoa(i)+d.text())
			}
		}
		return v
	}
	return null()
}

func deepOf(v impl.Value) int64 {
	most := int64(0)
	for _, item := range v.Items {
		most = max(most, deepOf(item))
	}
	return most + 1
}

func countOf(v impl.Value) int64 {
	sum := int64(1)
	for _, item := range v.Items {
		sum += countOf(item)
	}
	return sum
}

func numsRight(v impl.Value) bool {
	if v.Kind == impl.JsNum && (v.Num < -999999999 || v.Num > 999999999) {
		return false
	}
	for _, item := range v.Items {
		if !numsRight(item) {
			return false
		}
	}
	return true
}

func TestP1ManyValues(t *testing.T) {
	d := draws(1)
	right, wrong := 0, 0
	for range 4000 {
		v := d.value(1 + d.below(8))
		if deepOf(v) > 6 || countOf(v) > 100 || !numsRight(v) {
			wrong++
			checkWrong(t, "drawn", v)
			continue
		}
		right++
		if impl.Deep(v) != deepOf(v) || impl.Count(v) != countOf(v) {
			t.Fatal(v, impl.Deep(v), impl.Count(v))
		}
		checkRight(t, v)
	}
	if right < 1000 || wrong < 100 {
		t.Error(right, wrong)
	}
}

// What is parsed is right, also where a byte of what was printed is another, gone or doubled.
func TestP1ParsedIsRight(t *testing.T) {
	s := impl.Print(sample())
	for i := range len(s) {
		texts := []string{s[:i] + s[i+1:], s[:i] + s[i:i+1] + s[i:]}
		for c := range 256 {
			texts = append(texts, s[:i]+string([]byte{byte(c)})+s[i+1:])
		}
		for _, x := range texts {
			v, is := impl.Parse(x)
			if !is {
				if !isZero(v) {
					t.Fatalf("%q: %v", x, v)
				}
				continue
			}
			again, is := impl.Parse(impl.Print(v))
			if !impl.ValueOk(v) || !is || !alike(again, v) {
				t.Fatalf("%q: %v", x, v)
			}
		}
	}
}

// What holds itself, and what is far too much, is refused soon.
func TestP21EveryArgumentIsAnswered(t *testing.T) {
	self := make([]impl.Value, 1)
	self[0] = impl.Value{Kind: impl.JsList, Items: self}
	checkWrong(t, "a list that holds itself", self[0])
	pair := make([]impl.Value, 2)
	pair[0] = impl.Value{Kind: impl.JsMap, Items: pair, Keys: []string{"a", "b"}}
	pair[1] = pair[0]
	checkWrong(t, "a map that holds itself twice", pair[0])

	wide := list()
	for range 7 {
		items := make([]impl.Value, 1000)
		for i := range items {
			items[i] = wide
		}
		wide = list(items...)
	}
	checkWrong(t, "1000 times 1000 times ..", wide)
	checkWrong(t, "many Keys", impl.Value{Kind: impl.JsMap, Keys: make([]string, 1000000), Items: make([]impl.Value, 1000000)})
	checkWrong(t, "a very long text", text(strings.Repeat("a", 1<<20)))

	const many = 1 << 20
	for _, part := range []string{"[", "{", "\"", "\\", "[1,", "{\"a\":", "1", "-", " ", "null", "]", "\"\\\"", "[[],"} {
		checkRefused(t, strings.Repeat(part, many))
	}
	blanks := strings.Repeat(" ", many)
	if v, is := impl.Parse(blanks + "[" + blanks + "1" + blanks + "]" + blanks); !is || !alike(v, list(num(1))) {
		t.Error("many blanks", v, is)
	}
}

func TestP21AnswersAreNewMemory(t *testing.T) {
	v := copied(dict("outer n t", sample(), num(1), text("some text")))
	kept := whole(v)
	for _, key := range v.Keys {
		m, is := impl.Member(v, key)
		if !is || overlap(memoryOf(m), memoryOf(v)) {
			t.Errorf("Member %q shares memory with the argument", key)
		}
		spoil(&m)
		if !unchanged(kept, v) {
			t.Fatalf("Member %q: a change of the answer changes the argument", key)
		}
	}

	s := strings.Clone(impl.Print(v))
	parsed, is := impl.Parse(s)
	from := []stretch{{uintptr(unsafe.Pointer(unsafe.StringData(s))), uintptr(unsafe.Pointer(unsafe.StringData(s))) + uintptr(len(s))}}
	if !is || overlap(memoryOf(parsed), from) {
		t.Error("Parse shares memory with the argument")
	}
	runtime.KeepAlive(s)
	other, _ := impl.Parse(s)
	if overlap(memoryOf(parsed), memoryOf(other)) {
		t.Error("two answers share memory")
	}
	checkApart(t, parsed)
	text := strings.Clone("a")
	plain := impl.Value{Kind: impl.JsText, Text: text}
	printed := impl.Print(plain)
	if overlap(memoryOf(plain), memoryOf(impl.Value{Text: printed})) {
		t.Error("Print shares memory with the argument")
	}
}

// spoil writes over all of v, and over the spare room behind its lists.
func spoil(v *impl.Value) {
	items, keys := v.Items[:cap(v.Items)], v.Keys[:cap(v.Keys)]
	for i := range items {
		spoil(&items[i])
	}
	for i := range keys {
		keys[i] = "spoiled"
	}
	*v = impl.Value{Kind: -1, Num: -1, Text: "spoiled"}
}

func TestP21ArgumentsStay(t *testing.T) {
	values := []impl.Value{
		sample(), list(), list(num(1), text("a")), dict("a", list(dict("b", null()))), text("a"), {},
		list(impl.Value{Kind: 9}, null()), dict("a a", null(), null()), {Kind: impl.JsNull, Items: []impl.Value{num(1)}, Keys: []string{"x"}},
	}
	for _, x := range values {
		v := copied(x)
		before := whole(v)
		sampled(v)
		for _, y := range values {
			impl.Same(v, y)
			impl.Same(y, v)
		}
		if !unchanged(before, v) {
			t.Errorf("%v was changed to %v", x, v)
		}
	}
	s := strings.Clone(`{"a":[1,"\n\\"]}`)
	impl.Parse(s)
	if s != `{"a":[1,"\n\\"]}` {
		t.Error("a text was changed", s)
	}
}
