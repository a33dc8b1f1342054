package json

import (
	"slices"
	"strconv"
	"strings"
	"unicode/utf8"

	"chatelaine/api"
)

// A rune above ffff is escaped as two halves, which are no runes themselves.
const (
	firstHalf  = 0xd800
	secondHalf = 0xdc00
	lastHalf   = 0xdfff
)

// reader goes through a text. Where it can't go on it panics with the number of the error, so that nothing that is under way has to ask whether to go on.
type reader struct {
	rest string // what is still to be read
	deep int    // how many lists and objects are open
}

// whole reads a value that nothing follows.
func (r *reader) whole() api.Json {
	v := r.value()
	r.space()
	if r.rest != "" {
		panic(api.ErrJsonForm)
	}
	return v
}

// value reads a value, from the space ahead of it on.
func (r *reader) value() api.Json {
	r.space()
	switch r.next() {
	case 'n':
		return r.word("null", api.Json{})
	case 't':
		return r.word("true", api.Json{Kind: api.JsonBool, Bool: true})
	case 'f':
		return r.word("false", api.Json{Kind: api.JsonBool})
	case '"':
		return Text(r.text())
	case '[':
		return r.list()
	case '{':
		return r.object()
	case '-', '0', '1', '2', '3', '4', '5', '6', '7', '8', '9':
		return Int(r.number())
	}
	panic(api.ErrJsonForm)
}

func (r *reader) space() { r.rest = strings.TrimLeft(r.rest, " \t\n\r") }

// next is the byte ahead. At the end it is 0, which is allowed nowhere, so that the end need not be told from it.
func (r *reader) next() byte {
	if r.rest == "" {
		return 0
	}
	return r.rest[0]
}

// pass goes past the byte ahead, which whoever calls has seen there.
func (r *reader) pass() { r.rest = r.rest[1:] }

// takes goes past that byte, and the space ahead of it, if it is there.
func (r *reader) takes(c byte) bool {
	r.space()
	if r.next() != c {
		return false
	}
	r.pass()
	return true
}

// must goes past a byte that has to be there.
func (r *reader) must(c byte) {
	if !r.takes(c) {
		panic(api.ErrJsonForm)
	}
}

func (r *reader) word(word string, v api.Json) api.Json {
	rest, ok := strings.CutPrefix(r.rest, word)
	if !ok {
		panic(api.ErrJsonForm)
	}
	r.rest = rest
	return v
}

func (r *reader) list() api.Json {
	v := api.Json{Kind: api.JsonList}
	r.items(']', func() {
		v.List = append(v.List, r.value())
	})
	return v
}

func (r *reader) object() api.Json {
	v := api.Json{Kind: api.JsonObject}
	r.items('}', func() {
		v.Names = append(v.Names, r.name(v.Names))
		r.must(':')
		v.List = append(v.List, r.value())
	})
	return v
}

// items reads from a bracket to the one that closes it, with commas between the items.
func (r *reader) items(end byte, item func()) {
	if r.deep == api.MaxDeep {
		panic(api.ErrJsonDeep)
	}
	r.deep++
	r.pass()
	if !r.takes(end) {
		item()
		for r.takes(',') {
			item()
		}
		r.must(end)
	}
	r.deep--
}

// name reads a name that is none of those which the object has already.
func (r *reader) name(names []string) string {
	r.space()
	if r.next() != '"' {
		panic(api.ErrJsonForm)
	}
	name := r.text()
	if slices.Contains(names, name) {
		panic(api.ErrJsonTwice)
	}
	return name
}

func (r *reader) number() int {
	rest, minus := strings.CutPrefix(r.rest, "-")
	r.rest = strings.TrimLeft(rest, "0123456789")
	digits := rest[:len(rest)-len(r.rest)]
	n, err := strconv.Atoi(digits) // fails if there is no digit, too
	if err != nil || n > mostInt {
		panic(api.ErrJsonNumber)
	}
	if digits[0] == '0' && (minus || len(digits) > 1) {
		panic(api.ErrJsonNumber)
	}
	switch r.next() {
	case '.', 'e', 'E': // JSON has such numbers, this subset has not
		panic(api.ErrJsonNumber)
	}
	if minus {
		return -n
	}
	return n
}

// text reads from a quotation mark to the next one.
func (r *reader) text() string {
	r.pass()
	var text []byte
	for r.next() != '"' {
		text = utf8.AppendRune(text, r.letter())
	}
	r.pass()
	return string(text)
}

// letter reads one rune of a text, be it escaped or not.
func (r *reader) letter() rune {
	c, size := utf8.DecodeRuneInString(r.rest)
	wrong := c == utf8.RuneError && size <= 1 // the end of all, too; RuneError itself may stand in a text
	if wrong || c < ' ' {
		panic(api.ErrJsonText)
	}
	r.rest = r.rest[size:]
	if c == '\\' {
		return r.escape()
	}
	return c
}

// escape reads what follows a backslash.
func (r *reader) escape() rune {
	c := r.next()
	if c == 'u' {
		return r.escapedRune()
	}
	letter := short(c)
	r.pass()
	return letter
}

// short is what one byte after a backslash stands for.
func short(c byte) rune {
	switch c {
	case '"', '\\', '/':
		return rune(c)
	case 'b':
		return '\b'
	case 'f':
		return '\f'
	case 'n':
		return '\n'
	case 'r':
		return '\r'
	case 't':
		return '\t'
	}
	panic(api.ErrJsonText)
}

// escapedRune reads, from the u on, a rune's number, or the two halves of one.
func (r *reader) escapedRune() rune {
	first := r.unit()
	if first < firstHalf || first > lastHalf {
		return first
	}
	if first >= secondHalf || r.next() != '\\' {
		panic(api.ErrJsonText)
	}
	r.pass()
	second := r.unit()
	if second < secondHalf || second > lastHalf {
		panic(api.ErrJsonText)
	}
	return 0x10000 + (first-firstHalf)<<10 + (second - secondHalf)
}

// unit reads a u and four digits.
func (r *reader) unit() rune {
	rest, ok := strings.CutPrefix(r.rest, "u")
	if !ok || len(rest) < 4 {
		panic(api.ErrJsonText)
	}
	n, err := strconv.ParseUint(rest[:4], 16, 16)
	if err != nil {
		panic(api.ErrJsonText)
	}
	r.rest = rest[4:]
	return rune(n)
}
