package impl

import (
	"slices"
	"strconv"
	"strings"
)

const JsNull = 1
const JsBool = 2
const JsNum = 3
const JsText = 4
const JsList = 5
const JsMap = 6

const maxNum = 999999999
const maxDigits = 9
const maxText = 100
const maxDeep = 6
const maxValues = 100

type Value struct {
	Kind  int64
	Num   int64
	Text  string
	Items []Value
	Keys  []string
}

func ValueOk(v Value) bool {
	_, ok := nodeOf(v)
	return ok
}

func Deep(v Value) int64 {
	n, ok := nodeOf(v)
	if !ok {
		return 0
	}
	return n.deep()
}

func Count(v Value) int64 {
	n, ok := nodeOf(v)
	if !ok {
		return 0
	}
	return n.count()
}

func Print(v Value) string {
	n, ok := nodeOf(v)
	if !ok {
		return ""
	}
	var out strings.Builder
	n.write(&out)
	return out.String()
}

func Parse(s string) (Value, bool) {
	scan := &scanner{text: s, room: budget{left: maxValues}}
	n, ok := scan.value(1)
	if !ok || !scan.ended() {
		return Value{}, false
	}
	return valueOf(n), true
}

func Member(v Value, key string) (Value, bool) {
	n, ok := nodeOf(v)
	if !ok {
		return Value{}, false
	}
	item, ok := itemBy(n, key)
	if !ok {
		return Value{}, false
	}
	return valueOf(item), true
}

// Same needs no walk of its own: what is right is written in one way only, and never as nothing.
func Same(a Value, b Value) bool {
	text := Print(a)
	return text != "" && text == Print(b)
}

// node is a right Value behind its Kind: whoever makes one has checked it, so its methods need not.
type node interface {
	deep() int64
	count() int64
	write(out *strings.Builder)
}

type leaf struct{}

type nullNode struct{ leaf }

type boolNode struct {
	leaf
	num int64
}

type numNode struct {
	leaf
	num int64
}

type textNode struct {
	leaf
	text string
}

type listNode struct {
	items []node
}

type mapNode struct {
	listNode
	keys []string
}

func newBool(num int64) (node, bool) {
	return boolNode{num: num}, num == 0 || num == 1
}

func newNum(num int64) (node, bool) {
	return numNode{num: num}, -maxNum <= num && num <= maxNum
}

func newText(text string) (node, bool) {
	return textNode{text: text}, textOk(text)
}

func newMap(keys []string, items []node) (node, bool) {
	if len(keys) != len(items) {
		return nil, false
	}
	for i, key := range keys {
		if !textOk(key) || slices.Contains(keys[:i], key) {
			return nil, false
		}
	}
	return mapNode{listNode: listNode{items: items}, keys: keys}, true
}

func textOk(text string) bool {
	if len(text) > maxText {
		return false
	}
	for i := range len(text) {
		if c := text[i]; c != '\n' && (c < 32 || c > 126) {
			return false
		}
	}
	return true
}

// budget ends the walk through what is too deep or too much, a Value that holds itself too.
type budget struct {
	left int64
}

func (b *budget) admits(level int64) bool {
	b.left--
	return b.left >= 0 && level <= maxDeep
}

func nodeOf(v Value) (node, bool) {
	return nodeAt(v, 1, &budget{left: maxValues})
}

func nodeAt(v Value, level int64, room *budget) (node, bool) {
	if !room.admits(level) || !tellsItsKindOnly(v) {
		return nil, false
	}
	switch v.Kind {
	case JsNull:
		return nullNode{}, true
	case JsBool:
		return newBool(v.Num)
	case JsNum:
		return newNum(v.Num)
	case JsText:
		return newText(v.Text)
	}
	items, ok := nodesAt(v.Items, level+1, room)
	switch {
	case ok && v.Kind == JsList:
		return listNode{items: items}, true
	case ok && v.Kind == JsMap:
		return newMap(v.Keys, items)
	}
	return nil, false
}

func nodesAt(list []Value, level int64, room *budget) ([]node, bool) {
	var items []node
	for _, v := range list {
		item, ok := nodeAt(v, level, room)
		if !ok {
			return nil, false
		}
		items = append(items, item)
	}
	return items, true
}

func tellsItsKindOnly(v Value) bool {
	num := v.Kind == JsBool || v.Kind == JsNum
	items := v.Kind == JsList || v.Kind == JsMap
	return (num || v.Num == 0) &&
		(v.Kind == JsText || v.Text == "") &&
		(items || len(v.Items) == 0) &&
		(v.Kind == JsMap || len(v.Keys) == 0)
}

// valueOf copies its texts too, so that an answer shares nothing with the argument the node came from.
func valueOf(n node) Value {
	switch n := n.(type) {
	case boolNode:
		return Value{Kind: JsBool, Num: n.num}
	case numNode:
		return Value{Kind: JsNum, Num: n.num}
	case textNode:
		return Value{Kind: JsText, Text: strings.Clone(n.text)}
	case listNode:
		return Value{Kind: JsList, Items: valuesOf(n.items)}
	case mapNode:
		return Value{Kind: JsMap, Items: valuesOf(n.items), Keys: clonedTexts(n.keys)}
	}
	return Value{Kind: JsNull}
}

func valuesOf(items []node) []Value {
	var list []Value
	for _, item := range items {
		list = append(list, valueOf(item))
	}
	return list
}

func clonedTexts(texts []string) []string {
	var list []string
	for _, text := range texts {
		list = append(list, strings.Clone(text))
	}
	return list
}

func itemBy(n node, key string) (node, bool) {
	switch n := n.(type) {
	case mapNode:
		if at := slices.Index(n.keys, key); at >= 0 {
			return n.items[at], true
		}
	}
	return nil, false
}

func (leaf) deep() int64 { return 1 }

func (leaf) count() int64 { return 1 }

func (n listNode) deep() int64 {
	most := int64(0)
	for _, item := range n.items {
		most = max(most, item.deep())
	}
	return most + 1
}

func (n listNode) count() int64 {
	sum := int64(1)
	for _, item := range n.items {
		sum += item.count()
	}
	return sum
}

func (nullNode) write(out *strings.Builder) { out.WriteString("null") }

func (n boolNode) write(out *strings.Builder) { out.WriteString(strconv.FormatBool(n.num == 1)) }

func (n numNode) write(out *strings.Builder) { out.WriteString(strconv.FormatInt(n.num, 10)) }

func (n textNode) write(out *strings.Builder) { writeText(out, n.text) }

func (n listNode) write(out *strings.Builder) {
	out.WriteByte('[')
	for i, item := range n.items {
		writeComma(out, i)
		item.write(out)
	}
	out.WriteByte(']')
}

func (n mapNode) write(out *strings.Builder) {
	out.WriteByte('{')
	for i, item := range n.items {
		writeComma(out, i)
		writeText(out, n.keys[i])
		out.WriteByte(':')
		item.write(out)
	}
	out.WriteByte('}')
}

func writeComma(out *strings.Builder, i int) {
	if i > 0 {
		out.WriteByte(',')
	}
}

func writeText(out *strings.Builder, text string) {
	out.WriteByte('"')
	for i := range len(text) {
		switch c := text[i]; c {
		case '"', '\\':
			out.WriteByte('\\')
			out.WriteByte(c)
		case '\n':
			out.WriteString(`\n`)
		default:
			out.WriteByte(c)
		}
	}
	out.WriteByte('"')
}

// scanner reads what Print writes; blanks are passed ahead of each part, and nowhere within one.
type scanner struct {
	text string
	at   int
	room budget
}

func (s *scanner) passBlanks() {
	for s.at < len(s.text) && s.text[s.at] == ' ' {
		s.at++
	}
}

func (s *scanner) ended() bool {
	s.passBlanks()
	return s.at == len(s.text)
}

func (s *scanner) passed(part string) bool {
	s.passBlanks()
	if !strings.HasPrefix(s.text[s.at:], part) {
		return false
	}
	s.at += len(part)
	return true
}

func (s *scanner) value(level int64) (node, bool) {
	if !s.room.admits(level) {
		return nil, false
	}
	switch {
	case s.passed("null"):
		return nullNode{}, true
	case s.passed("false"):
		return newBool(0)
	case s.passed("true"):
		return newBool(1)
	case s.passed(`"`):
		return s.textValue()
	case s.passed("["):
		return s.listValue(level)
	case s.passed("{"):
		return s.mapValue(level)
	}
	return s.numValue()
}

func (s *scanner) numValue() (node, bool) {
	start := s.at
	for s.at < len(s.text) && strings.IndexByte("-0123456789", s.text[s.at]) >= 0 {
		s.at++
	}
	num, ok := numberOf(s.text[start:s.at])
	if !ok {
		return nil, false
	}
	return newNum(num)
}

// numberOf reads what the document calls a number. Writing it again refuses every other form: noughts ahead, +1, -0.
func numberOf(text string) (int64, bool) {
	if len(strings.TrimPrefix(text, "-")) > maxDigits {
		return 0, false
	}
	num, err := strconv.ParseInt(text, 10, 64)
	if err != nil || strconv.FormatInt(num, 10) != text {
		return 0, false
	}
	return num, true
}

func (s *scanner) textValue() (node, bool) {
	text, ok := s.textRest()
	if !ok {
		return nil, false
	}
	return newText(text)
}

// textRest reads a text whose first " is passed already.
func (s *scanner) textRest() (string, bool) {
	var out strings.Builder
	for s.at < len(s.text) {
		c := s.text[s.at]
		s.at++
		switch c {
		case '"':
			return out.String(), true
		case '\n':
			return "", false
		case '\\':
			plain, ok := s.escaped()
			if !ok {
				return "", false
			}
			c = plain
		}
		out.WriteByte(c)
	}
	return "", false
}

func (s *scanner) escaped() (byte, bool) {
	if s.at == len(s.text) {
		return 0, false
	}
	c := s.text[s.at]
	s.at++
	switch c {
	case '"', '\\':
		return c, true
	case 'n':
		return '\n', true
	}
	return 0, false
}

func (s *scanner) listValue(level int64) (node, bool) {
	var items []node
	ok := s.entries("]", func() bool {
		item, ok := s.value(level + 1)
		items = append(items, item)
		return ok
	})
	return listNode{items: items}, ok
}

func (s *scanner) mapValue(level int64) (node, bool) {
	var keys []string
	var items []node
	ok := s.entries("}", func() bool {
		key, ok := s.key()
		if !ok {
			return false
		}
		item, ok := s.value(level + 1)
		keys = append(keys, key)
		items = append(items, item)
		return ok
	})
	if !ok {
		return nil, false
	}
	return newMap(keys, items)
}

func (s *scanner) key() (string, bool) {
	if !s.passed(`"`) {
		return "", false
	}
	key, ok := s.textRest()
	return key, ok && s.passed(":")
}

// entries reads what stands between the brackets of a list or map, of which the first is passed already.
func (s *scanner) entries(end string, entry func() bool) bool {
	if s.passed(end) {
		return true
	}
	for entry() {
		if s.passed(end) {
			return true
		}
		if !s.passed(",") {
			return false
		}
	}
	return false
}
