package tests

import (
	"slices"
	"strconv"
	"strings"
	"testing"

	"loop.example/g00291/impl"
)

// framed is the tests' own writing of Frames.
func framed(texts ...string) string {
	var out []byte
	for _, s := range texts {
		out = append(out, byte(len(s)/256), byte(len(s)%256))
		out = append(out, s...)
	}
	return string(out)
}

// filled is a text of n bytes of all kinds, so that a byte at the wrong place is seen.
func filled(n int) string {
	out := make([]byte, n)
	for i := range out {
		out[i] = byte(i*7 + i/256)
	}
	return string(out)
}

func bytewise(s string) []string {
	var chunks []string
	for i := range len(s) {
		chunks = append(chunks, s[i:i+1])
	}
	return chunks
}

// cutEvery is s in chunks of n bytes, the last one shorter.
func cutEvery(s string, n int) []string {
	var chunks []string
	for ; len(s) > n; s = s[n:] {
		chunks = append(chunks, s[:n])
	}
	return append(chunks, s)
}

func sameTold(t *testing.T, name string, r impl.Reader, texts []string, want impl.Reader, told []string) {
	t.Helper()
	if r != want || !slices.Equal(texts, told) {
		t.Fatalf("%s: %.80q, bad %v, %.200q; want %.80q, bad %v, %.200q", name, r.Rest, r.Bad, texts, want.Rest, want.Bad, told)
	}
	if !impl.ReaderOk(r) {
		t.Fatalf("%s: not ReaderOk: %d bytes, bad %v", name, len(r.Rest), r.Bad)
	}
}

// checkFed feeds the chunks by FedAll, and by Fed one by one.
func checkFed(t *testing.T, name string, chunks []string, want impl.Reader, told []string) {
	t.Helper()
	r, texts := impl.FedAll(chunks)
	sameTold(t, name+", by FedAll", r, texts, want, told)
	r, texts = impl.Reader{}, nil
	for _, chunk := range chunks {
		var more []string
		r, more = impl.Fed(r, chunk)
		texts = append(texts, more...)
	}
	sameTold(t, name+", by Fed", r, texts, want, told)
}

// checkStream feeds s whole, byte by byte, with empty chunks between, and cut at every place.
func checkStream(t *testing.T, name, s string, want impl.Reader, told []string) {
	t.Helper()
	checkFed(t, name+", whole", []string{s}, want, told)
	checkFed(t, name+", byte by byte", bytewise(s), want, told)
	checkFed(t, name+", between empty chunks", []string{"", "", s, ""}, want, told)
	for i := range len(s) + 1 {
		checkFed(t, name+", cut at "+strconv.Itoa(i), []string{s[:i], s[i:]}, want, told)
		checkFed(t, name+", cut with an empty chunk at "+strconv.Itoa(i), []string{s[:i], "", s[i:]}, want, told)
	}
}

func TestP2FrameWritten(t *testing.T) {
	cases := []struct{ text, ahead string }{
		{"", "\x00\x00"}, {"ab", "\x00\x02"}, {"\x00", "\x00\x01"}, {"\x07\xd1", "\x00\x02"}, {"\xff\xfe\n\u00e9", "\x00\x05"},
		{filled(255), "\x00\xff"}, {filled(256), "\x01\x00"}, {filled(257), "\x01\x01"}, {filled(1000), "\x03\xe8"},
		{filled(1999), "\x07\xcf"}, {filled(2000), "\x07\xd0"},
	}
	for _, c := range cases {
		if f := impl.Frame(c.text); f != c.ahead+c.text {
			t.Errorf("a text of %d bytes: Frame %.20q ..", len(c.text), f)
		}
	}
	for _, n := range []int{2001, 2002, 2048, 4000, 65535, 65536, 65537, 1 << 20} {
		if f := impl.Frame(filled(n)); f != "" {
			t.Errorf("a text of %d bytes: a Frame of %d bytes", n, len(f))
		}
	}
	if impl.MaxFrame != 2000 {
		t.Error(impl.MaxFrame)
	}
}

func TestP2EveryLengthOfText(t *testing.T) {
	for n := range 2001 {
		s := filled(n)
		f := impl.Frame(s)
		if f != framed(s) {
			t.Fatalf("Frame of %d bytes", n)
		}
		r, texts := impl.Fed(impl.Reader{}, f)
		sameTold(t, "a text of "+strconv.Itoa(n), r, texts, impl.Reader{}, []string{s})
	}
}

func TestP2InWhateverChunks(t *testing.T) {
	rows := [][]string{
		{}, {""}, {"a"}, {"ab", ""}, {"", "", ""}, {"\x00\x00", "\x00"}, {"\x07\xd1", "\xff\xff"},
		{"ab", "", "c", filled(300), "", "\x00\x05", "end"},
	}
	for i, texts := range rows {
		name := "row " + strconv.Itoa(i)
		checkStream(t, name, framed(texts...), impl.Reader{}, texts)
		for _, rest := range []string{"\x00", "\x07", "\x00\x01", "\x00\x03\x00\x00", "\x07\xd0", "\x01\x00" + filled(255)} {
			checkStream(t, name+" and more", framed(texts...)+rest, impl.Reader{Rest: rest}, texts)
		}
	}
}

// All ways to cut one stream: a bit for each place.
func TestP2EveryCutting(t *testing.T) {
	texts := []string{"ab", "", "\x00c"}
	s := framed(texts...) + "\x00\x03de"
	for cuts := range 1 << (len(s) - 1) {
		var chunks []string
		from := 0
		for i := range len(s) - 1 {
			if cuts>>i&1 == 1 {
				chunks = append(chunks, s[from:i+1])
				from = i + 1
			}
		}
		checkFed(t, "cuts "+strconv.Itoa(cuts), append(chunks, s[from:]), impl.Reader{Rest: "\x00\x03de"}, texts)
	}
}

// What is told so far is told at once: a text is never kept back, and never told ahead.
func TestP2ToldInTime(t *testing.T) {
	s := framed("ab", "", "c")
	want := []int{0, 0, 0, 1, 1, 2, 2, 2, 3}
	rest := []string{"\x00", "\x00\x02", "\x00\x02a", "", "\x00", "", "\x00", "\x00\x01", ""}
	sum := 0
	r := impl.Reader{}
	for i, chunk := range bytewise(s) {
		var texts []string
		r, texts = impl.Fed(r, chunk)
		sum += len(texts)
		if sum != want[i] || r != (impl.Reader{Rest: rest[i]}) {
			t.Fatalf("after byte %d: %d texts, %v", i, sum, r)
		}
	}
}

func TestP2EdgesOfTexts(t *testing.T) {
	most := filled(2000)
	texts := []string{most, "a", filled(1999), most, ""}
	s := framed(texts...)
	checkStream(t, "texts of 2000 bytes", s, impl.Reader{}, texts)
	for _, n := range []int{2, 3, 7, 255, 256, 1999, 2000, 2001, 2002, 2003, 4004} {
		checkFed(t, "in chunks of "+strconv.Itoa(n), cutEvery(s, n), impl.Reader{}, texts)
	}
	open := framed(most)[:2001]
	checkStream(t, "one byte too few", "\x00\x01x"+open, impl.Reader{Rest: open}, []string{"x"})
	r, told := impl.Fed(impl.Reader{Rest: open}, most[1999:])
	sameTold(t, "the last byte", r, told, impl.Reader{}, []string{most})
	r, told = impl.Fed(impl.Reader{Rest: open}, "")
	sameTold(t, "nothing more", r, told, impl.Reader{Rest: open}, nil)
}

func TestP2EdgesOfWhatIsTold(t *testing.T) {
	checkStream(t, "2000", "\x07\xd0", impl.Reader{Rest: "\x07\xd0"}, nil)
	checkStream(t, "2001", "\x07\xd1", impl.Reader{Bad: true}, nil)
	for n := range 1 << 16 {
		two := string([]byte{byte(n >> 8), byte(n)})
		want, told := impl.Reader{Rest: two}, []string(nil)
		if n == 0 {
			want, told = impl.Reader{}, []string{""}
		} else if n > 2000 {
			want = impl.Reader{Bad: true}
		}
		r, texts := impl.Fed(impl.Reader{}, two)
		sameTold(t, strconv.Itoa(n), r, texts, want, told)
		r, texts = impl.Fed(impl.Reader{Rest: two[:1]}, two[1:])
		sameTold(t, strconv.Itoa(n)+", cut", r, texts, want, told)
	}
}

func TestP2EdgesOfReaders(t *testing.T) {
	for _, n := range []int{0, 1, 2, 3, 1999, 2000, 2001} {
		if !impl.ReaderOk(impl.Reader{Rest: filled(n)}) || !impl.ReaderOk(impl.Reader{Rest: strings.Repeat("\xff", n)}) {
			t.Errorf("a Rest of %d bytes", n)
		}
		if impl.ReaderOk(impl.Reader{Rest: filled(n), Bad: true}) != (n == 0) {
			t.Errorf("Bad, a Rest of %d bytes", n)
		}
	}
	for _, n := range []int{2002, 2003, 4000, 65536, 1 << 20} {
		if impl.ReaderOk(impl.Reader{Rest: strings.Repeat("\x00", n)}) || impl.ReaderOk(impl.Reader{Rest: strings.Repeat("\x00", n), Bad: true}) {
			t.Errorf("a Rest of %d bytes", n)
		}
	}
}

// A Rest that a Fed never leaves may be handed in, too.
func TestP2RestThatHoldsFrames(t *testing.T) {
	cases := []struct {
		rest, chunk string
		want        impl.Reader
		told        []string
	}{
		{framed("a", ""), "", impl.Reader{}, []string{"a", ""}},
		{framed("a") + "\x00", "\x01b\x00", impl.Reader{Rest: "\x00"}, []string{"a", "b"}},
		{framed(filled(1999)), framed("z"), impl.Reader{}, []string{filled(1999), "z"}},
		{strings.Repeat("\x00", 2001), "", impl.Reader{Rest: "\x00"}, make([]string, 1000)},
		{"\x07\xd1", "", impl.Reader{Bad: true}, nil},
		{"\xff\xff" + filled(1999), framed("a"), impl.Reader{Bad: true}, nil},
		{framed("a") + "\x07\xd1rest", framed("b"), impl.Reader{Bad: true}, []string{"a"}},
	}
	for i, c := range cases {
		r, texts := impl.Fed(impl.Reader{Rest: c.rest}, c.chunk)
		sameTold(t, "case "+strconv.Itoa(i), r, texts, c.want, c.told)
	}
}

func TestP2EdgesOfChunks(t *testing.T) {
	texts := slices.Repeat([]string{filled(1998)}, 10)
	s := framed(texts...)
	if len(s) != 20000 {
		t.Fatal(len(s))
	}
	checkFed(t, "20000 bytes", []string{s}, impl.Reader{}, texts)
	checkFed(t, "20000 bytes, twice", []string{s, s}, impl.Reader{}, slices.Concat(texts, texts))
	checkFed(t, "19999 bytes and one", []string{s[:19999], s[19999:]}, impl.Reader{}, texts)
	checkFed(t, "empty texts", []string{strings.Repeat("\x00", 20000)}, impl.Reader{}, make([]string, 10000))

	open := framed(filled(2000))[:2001]
	r, told := impl.Fed(impl.Reader{Rest: open}, filled(2000)[1999:]+s[:19999])
	sameTold(t, "2001 and 20000 bytes", r, told, impl.Reader{Rest: s[18000:19999]}, append([]string{filled(2000)}, texts[:9]...))
	r, told = impl.Fed(impl.Reader{Rest: open}, filled(2000)[1999:]+s)
	sameTold(t, "2001 and 20001 bytes", r, told, impl.Reader{}, nil)

	for _, long := range []string{s + "\x00", strings.Repeat("\x00", 20001), strings.Repeat("\xff", 20001), filled(1 << 20)} {
		checkFed(t, "too long, alone", []string{long}, impl.Reader{}, nil)
		checkFed(t, "too long, between others", []string{framed("a") + "\x00", long, framed("b") + "\x00", "\x01c"}, impl.Reader{}, []string{"a", "b", "c"})
		checkFed(t, "too long, the last", []string{framed("a") + "\x00", long}, impl.Reader{}, []string{"a"})
		for _, r := range []impl.Reader{{}, {Rest: "\x00\x01"}, {Bad: true}, {Bad: true, Rest: "a"}, {Rest: filled(2002)}} {
			got, told := impl.Fed(r, long)
			sameTold(t, "too long", got, told, impl.Reader{}, nil)
		}
	}
}

func TestP2Bad(t *testing.T) {
	for _, tooMuch := range []string{"\x07\xd1", "\x08\x00", "\xff\xff", "\x07\xff", "\x80\x00"} {
		for _, behind := range []string{"", "a", framed("no", ""), tooMuch} {
			checkStream(t, "first", tooMuch+behind, impl.Reader{Bad: true}, nil)
			checkStream(t, "behind Frames", framed("ab", "", "c")+tooMuch+behind, impl.Reader{Bad: true}, []string{"ab", "", "c"})
		}
	}
	for _, chunk := range []string{"", "a", framed("a"), framed("", ""), "\x07\xd1", strings.Repeat("\x00", 20000)} {
		r, texts := impl.Fed(impl.Reader{Bad: true}, chunk)
		sameTold(t, "a Bad one", r, texts, impl.Reader{Bad: true}, nil)
	}
	checkFed(t, "a high byte alone is not Bad yet", []string{"\x00\x00\xff"}, impl.Reader{Rest: "\xff"}, []string{""})
	checkFed(t, "what is too much within a text", []string{framed("\xff\xff", "\x07\xd1\x07\xd1")}, impl.Reader{}, []string{"\xff\xff", "\x07\xd1\x07\xd1"})
}

func TestP2WrongReaders(t *testing.T) {
	wrong := []impl.Reader{
		{Rest: strings.Repeat("\x00", 2002)}, {Rest: framed(filled(2000))}, {Rest: strings.Repeat("\xff", 2002)}, {Rest: filled(1 << 20)},
		{Rest: "a", Bad: true}, {Rest: "\x00", Bad: true}, {Rest: framed("a"), Bad: true}, {Rest: filled(2001), Bad: true}, {Rest: filled(2002), Bad: true},
	}
	for _, r := range wrong {
		if impl.ReaderOk(r) {
			t.Errorf("ReaderOk: %d bytes, bad %v", len(r.Rest), r.Bad)
		}
		for _, chunk := range []string{"", "a", framed("a", "b"), "\xff\xff", strings.Repeat("\x00", 20000)} {
			got, texts := impl.Fed(r, chunk)
			sameTold(t, "a wrong Reader", got, texts, impl.Reader{}, nil)
		}
	}
}

// readSlowly is an independent reader, of one byte after the other: what the chapter says of all that has come.
func readSlowly(s string) (impl.Reader, []string) {
	var texts []string
	var have []byte
	for i := range len(s) {
		have = append(have, s[i])
		if len(have) < 2 {
			continue
		}
		size := 256*int(have[0]) + int(have[1])
		if size > 2000 {
			return impl.Reader{Bad: true}, texts
		}
		if len(have) == 2+size {
			texts = append(texts, string(have[2:]))
			have = nil
		}
	}
	return impl.Reader{Rest: string(have)}, texts
}

func TestP2ManyStreams(t *testing.T) {
	d := draws(2)
	bad, open, whole := 0, 0, 0
	for range 1500 {
		s := ""
		for range d.below(8) {
			size := []int{d.below(4), d.below(300), 1990 + d.below(11)}[d.below(3)]
			s += framed(filled(size))
		}
		switch d.below(3) {
		case 0:
			s = s[:len(s)-d.below(len(s)+1)]
		case 1:
			s += string([]byte{byte(6 + d.below(4)), byte(200 + d.below(20))}) + filled(d.below(500))
		}
		want, told := readSlowly(s)
		var chunks []string
		most := 1 + []int{3, 200, 3000}[d.below(3)]
		for left := s; left != ""; {
			n := min(d.below(most), len(left))
			chunks = append(chunks, left[:n])
			left = left[n:]
		}
		checkFed(t, "drawn", chunks, want, told)
		switch {
		case want.Bad:
			bad++
		case want.Rest != "":
			open++
		default:
			whole++
		}
	}
	if bad < 100 || open < 100 || whole < 100 {
		t.Error(bad, open, whole)
	}
}

// asValue is a Reader and texts as a Value, to look at their memory.
func asValue(r impl.Reader, texts []string) impl.Value { return impl.Value{Text: r.Rest, Keys: texts} }

func TestP21FramesAreNewMemory(t *testing.T) {
	for _, c := range []struct{ rest, chunk string }{
		{"\x00", ""}, {"\x00\x05ab", ""}, {"", "\x00"}, {"", "\x00\x05ab"}, {"", framed("x")}, {"", framed("some text", "more", "") + "\x00\x07rest"},
		{framed("some text"), ""}, {"\x00\x05ab", "cde" + framed("x", filled(2000)) + "\x07"},
	} {
		r, chunk := impl.Reader{Rest: strings.Clone(c.rest)}, strings.Clone(c.chunk)
		next, texts := impl.Fed(r, chunk)
		from := append(memoryOf(asValue(r, nil)), memoryOf(impl.Value{Text: chunk})...)
		if overlap(memoryOf(asValue(next, texts)), from) {
			t.Errorf("Fed of %q and %q shares memory with its arguments", c.rest, c.chunk)
		}
		again, others := impl.Fed(r, chunk)
		if overlap(memoryOf(asValue(next, texts)), memoryOf(asValue(again, others))) {
			t.Errorf("two answers of Fed of %q and %q share memory", c.rest, c.chunk)
		}
		checkApart(t, asValue(next, texts))
		chunks := []string{r.Rest, chunk}
		next, texts = impl.FedAll(chunks)
		if overlap(memoryOf(asValue(next, texts)), memoryOf(impl.Value{Keys: chunks})) {
			t.Errorf("FedAll of %q shares memory with its argument", chunks)
		}
		checkApart(t, asValue(next, texts))
		if r.Rest != c.rest || chunk != c.chunk {
			t.Errorf("%q and %q were changed", c.rest, c.chunk)
		}
	}
	s := strings.Clone("a text")
	f := impl.Frame(s)
	if overlap(memoryOf(impl.Value{Text: s}), memoryOf(impl.Value{Text: f})) {
		t.Error("Frame shares memory with its argument")
	}
	if s != "a text" || f != framed(s) {
		t.Errorf("%q, Frame %q", s, f)
	}
}

func TestP21ChunksStay(t *testing.T) {
	for _, chunks := range [][]string{
		{}, {"", ""}, {framed("a"), "\x00", "\x01b"}, {"\x07", "\xd1", "a"}, {framed("a"), filled(20001), framed("b")}, {"\x00\x05"},
	} {
		room := append(slices.Clone(chunks), "stranger", "another")
		before := slices.Clone(room)
		_, texts := impl.FedAll(room[:len(chunks)])
		for i := range texts[:cap(texts)] {
			texts[:cap(texts)][i] = "spoiled"
		}
		if !slices.Equal(room, before) {
			t.Errorf("%.80q was changed to %.80q", before, room)
		}
	}
}

func TestP21FedMuch(t *testing.T) {
	if r, texts := impl.FedAll(nil); r != (impl.Reader{}) || len(texts) != 0 {
		t.Error("no chunks", r, texts)
	}
	r, texts := impl.FedAll(make([]string, 1<<20))
	sameTold(t, "many empty chunks", r, texts, impl.Reader{}, nil)
	r, texts = impl.FedAll(slices.Repeat([]string{strings.Repeat("\x00", 20000)}, 100))
	sameTold(t, "many empty texts", r, texts, impl.Reader{}, make([]string, 1000000))
	r, texts = impl.FedAll(slices.Repeat([]string{filled(1 << 20)}, 1000))
	sameTold(t, "many chunks that are too long", r, texts, impl.Reader{}, nil)
	r, texts = impl.FedAll(slices.Repeat([]string{"\xff"}, 1<<20))
	sameTold(t, "Bad for long", r, texts, impl.Reader{Bad: true}, nil)
	most := slices.Repeat([]string{filled(2000)}, 100)
	r, texts = impl.FedAll(bytewise(framed(most...)))
	sameTold(t, "200000 bytes, one by one", r, texts, impl.Reader{}, most)
}
