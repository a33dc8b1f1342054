package json_test

import (
	"fmt"
	"slices"
	"strconv"
	"strings"
	"testing"
	"unicode/utf8"

	"chatelaine/api"
	"chatelaine/json"
)

// printsAs tells whether a value is right, and has that text, which is read again.
func printsAs(v api.Json, want string) bool {
	s, ok := json.Print(v)
	back, e := json.Parse(s)
	return ok && s == want && json.Right(v) && e == api.OK && equal(back, v) && json.Same(back, v)
}

func notRight(v api.Json) bool {
	s, ok := json.Print(v)
	return !ok && s == "" && !json.Right(v)
}

func TestPrintOfKnownValues(t *testing.T) {
	cases := []struct {
		in   api.Json
		want string
	}{
		{null, "null"}, {truth(true), "true"}, {truth(false), "false"},
		{json.Int(0), "0"}, {json.Int(-5), "-5"}, {json.Int(10), "10"}, {json.Int(most), "9007199254740991"}, {json.Int(-most), "-9007199254740991"},
		{json.Text(""), `""`}, {json.Text("a b"), `"a b"`}, {json.Text("\"\\/"), `"\"\\/"`}, {json.Text("\n"), `"\u000a"`}, {json.Text("\b\f\r\t\x00\x1f\x7f"), "\"\\u0008\\u000c\\u000d\\u0009\\u0000\\u001f\x7f\""},
		{json.Text("é€😀\u2028\ufffd\ufeff<&>'"), "\"é€😀\u2028\ufffd\ufeff<&>'\""}, {json.Text(`\n`), `"\\n"`}, {json.Text(`\u0041`), `"\\u0041"`},
		{list(), "[]"}, {list(null), "[null]"}, {list(json.Int(1), json.Int(2)), "[1,2]"}, {list(list(), object()), "[[],{}]"},
		{object(), "{}"}, {object("a", null), `{"a":null}`}, {object("b", json.Int(1), "a", json.Int(2)), `{"b":1,"a":2}`}, {object("", truth(true)), `{"":true}`},
		{object("a", json.Text("\n")), `{"a":"\u000a"}`}, {object("\n\"", json.Text("é")), `{"\u000a\"":"é"}`}, {object("a", object("a", list(object("a", null)))), `{"a":{"a":[{"a":null}]}}`},
		{api.Json{Names: []string{}, List: []api.Json{}}, "null"}, {api.Json{Kind: api.JsonList, Names: []string{}, List: []api.Json{}}, "[]"}, {api.Json{Kind: api.JsonInt, Names: []string{}, List: []api.Json{}}, "0"},
	}
	for _, c := range cases {
		if !printsAs(c.in, c.want) {
			s, ok := json.Print(c.in)
			t.Errorf("P5.2: Print(%v): %s, %v, want %s", c.in, s, ok, c.want)
		}
	}
}

func TestPrintOfEveryByte(t *testing.T) {
	for x := range 256 {
		c := string([]byte{byte(x)})
		want := c
		switch {
		case x < 32:
			want = fmt.Sprintf(`\u%04x`, x)
		case c == `"` || c == `\`:
			want = `\` + c
		}
		for _, s := range []string{"*", "a*", "*b", "a*b", "**"} {
			text, as := strings.ReplaceAll(s, "*", c), `"`+strings.ReplaceAll(s, "*", want)+`"`
			if x > 127 {
				if !notRight(json.Text(text)) || !notRight(object(text, null)) || !notRight(list(object("a", null, text, null))) {
					t.Errorf("P5.2: right: %q", text)
				}
			} else if !printsAs(json.Text(text), as) || !printsAs(object(text, null), "{"+as+":null}") {
				t.Errorf("P5.2: not %s: %q", as, text)
			}
		}
	}
}

func TestPrintOfEveryRune(t *testing.T) {
	text := ""
	for c := rune(128); c <= utf8.MaxRune; c++ {
		if utf8.ValidRune(c) {
			text += string(c)
		}
		if len(text) > 4000 || c == utf8.MaxRune {
			if !printsAs(json.Text(text), `"`+text+`"`) {
				t.Errorf("P5.2: runes up to %x", c)
			}
			text = ""
		}
	}
}

func TestTextsThatAreNotRight(t *testing.T) {
	for _, s := range []string{
		"\xff", "a\x80", "\xc3", "\xc0\x80", "\xc1\xbf", "\xe0\x80\x80", "\xe0\x9f\xbf", "\xf0\x80\x80\x80", "\xf0\x8f\xbf\xbf", "\xed\xa0\x80", "\xed\xbf\xbf", "\xed\xa0\xbd\xed\xb8\x80", "\xf4\x90\x80\x80", "\xf5\x80\x80\x80", "\xe2\x82", "\xf0\x9f\x98", "é\x80",
	} {
		for _, v := range []api.Json{json.Text(s), list(json.Text(s)), object(s, null), object("a", json.Text(s)), nested(json.Text(s), 15)} {
			if !notRight(v) {
				t.Errorf("P5.2: right: %v", v)
			}
		}
	}
	for _, s := range []string{"\ud7ff", "\ue000", "\x7f", "\u0080", "\u07ff", "\u0800", "\uffff", "\U00010000", "\U0010ffff", "\ufffd"} {
		if !printsAs(json.Text(s), `"`+s+`"`) {
			t.Errorf("P5.2: not right: %q", s)
		}
	}
}

// A value of every kind with every field that the kind does not use.
func TestFieldsThatAreNotUsed(t *testing.T) {
	used := map[int]string{api.JsonNull: "", api.JsonBool: "b", api.JsonInt: "i", api.JsonText: "t", api.JsonList: "l", api.JsonObject: "nl"}
	for kind := -2; kind < 9; kind++ {
		for fields := range 1 << 5 {
			v, has := api.Json{Kind: kind}, ""
			if fields&1 != 0 {
				v.Bool, has = true, has+"b"
			}
			if fields&2 != 0 {
				v.Int, has = 1, has+"i"
			}
			if fields&4 != 0 {
				v.Text, has = "a", has+"t"
			}
			if fields&8 != 0 {
				v.Names, has = []string{"a"}, has+"n"
			}
			if fields&16 != 0 {
				v.List, has = []api.Json{null}, has+"l"
			}
			of, known := used[kind]
			want := known && strings.Trim(has, of) == "" && (kind != api.JsonObject || len(v.Names) == len(v.List))
			if json.Right(v) != want || json.Right(list(v)) != want || json.Right(object("a", v)) != want || !want && !notRight(v) {
				t.Errorf("P5.2: Right(%v) is not %v", v, want)
			}
		}
	}
	for _, v := range []api.Json{
		{Int: -1}, {Int: -1 << 63}, {Text: "\x00"}, {Names: []string{""}}, {List: []api.Json{{}}},
		{Kind: api.JsonList, Names: []string{""}, List: []api.Json{null}}, {Kind: api.JsonBool, Int: -1}, {Kind: 1 << 32}, {Kind: 1<<32 + api.JsonText}, {Kind: -api.JsonText}, {Kind: 256 + api.JsonInt},
	} {
		if !notRight(v) {
			t.Errorf("P5.2: right: %v", v)
		}
	}
}

func TestPrintOfNumbers(t *testing.T) {
	for n := -2000; n <= 2000; n++ {
		for _, m := range []int{n, n + most, n - most, n + 1<<31, n + 1<<32, n + 1<<62, n - 1<<62, n + 1<<53, n - 1<<53} {
			if right := -most <= m && m <= most; right != printsAs(json.Int(m), strconv.Itoa(m)) || right == notRight(json.Int(m)) {
				t.Errorf("P5.2: %d: right is not %v", m, right)
			}
		}
	}
	for _, m := range []int{most + 1, -most - 1, 1<<63 - 1, -1 << 63, -1<<63 + 1} {
		if !notRight(json.Int(m)) || !notRight(list(json.Int(m))) || !notRight(object("a", json.Int(m))) {
			t.Errorf("P5.2: right: %d", m)
		}
	}
}

func TestNamesThatAreNotRight(t *testing.T) {
	one := json.Int(1)
	for _, v := range []api.Json{
		object("a", one, "a", one), object("", one, "", one), object("a", one, "b", one, "a", null), object("a", one, "b", one, "b", one), object("é", one, "b", one, "c", one, "é", one),
		{Kind: api.JsonObject, Names: []string{"a"}}, {Kind: api.JsonObject, List: []api.Json{one}}, {Kind: api.JsonObject, Names: []string{"a", "b"}, List: []api.Json{one}}, {Kind: api.JsonObject, Names: []string{"a"}, List: []api.Json{one, one}},
	} {
		for deep := range 5 {
			if !notRight(nested(v, deep)) || !notRight(list(null, v, null)) || !notRight(object("x", null, "y", v)) {
				t.Errorf("P5.2: right: %v", nested(v, deep))
			}
		}
	}
	if !printsAs(object("a", object("a", one), "A", one, "a ", object("a", one)), `{"a":{"a":1},"A":1,"a ":{"a":1}}`) {
		t.Error("P5.2: names that are equal in different objects")
	}
}

func TestPrintOfDeepValues(t *testing.T) {
	for deep := range 40 {
		for _, inner := range []api.Json{null, json.Text("a"), list(), object(), list(null), object("b", null), list(list(), list())} {
			levels := deep
			for v := inner; v.Kind >= api.JsonList; v = v.List[0] {
				levels++
				if len(v.List) == 0 {
					break
				}
			}
			v := nested(inner, deep)
			if right := levels <= 16; json.Right(v) != right || !right && !notRight(v) {
				t.Errorf("P5.2: %d levels: right is not %v", levels, right)
			}
			if s, ok := json.Print(v); ok && !printsAs(v, s) {
				t.Errorf("P5.4: %d levels do not come back", levels)
			}
		}
	}
	objects := null
	for range 16 {
		objects = object("", objects)
	}
	if !json.Right(objects) || !notRight(object("", objects)) || !notRight(list(objects)) {
		t.Error("P5.2: 16 objects")
	}
}

func TestPrintOfLongValues(t *testing.T) {
	for _, around := range []func(string) api.Json{
		json.Text,
		func(s string) api.Json { return list(json.Text(s)) },
		func(s string) api.Json { return object(s, json.Int(10)) },
		func(s string) api.Json { return object("", json.Text(s), "a", null) },
		func(s string) api.Json { return list(json.Text(s), json.Int(1)) },
		func(s string) api.Json {
			return list(null, truth(false), object("a", list(json.Text(s), json.Int(-100))))
		},
	} {
		short, ok := json.Print(around(""))
		if !ok {
			t.Fatal("P5.2: not printed")
		}
		for _, filler := range []struct {
			text string
			size int
		}{{"a", 1}, {"é", 2}, {"\"", 2}, {"\\", 2}, {"\n", 6}, {"😀", 4}} {
			fits := (api.MaxText - len(short)) / filler.size
			for many := fits - 3; many <= fits+3; many++ {
				v := around(strings.Repeat(filler.text, many))
				if right := many <= fits; json.Right(v) != right || !right && !notRight(v) {
					t.Errorf("P5.2: %s with %d times %q: right is not %v", short, many, filler.text, right)
				}
				if s, ok := json.Print(v); ok && (len(s) != len(short)+many*filler.size || !printsAs(v, s)) {
					t.Errorf("P5.4: %s with %d times %q", short, many, filler.text)
				}
			}
		}
	}
	if s, ok := json.Print(json.Text(strings.Repeat("a", 4094))); !ok || len(s) != 4096 || !notRight(json.Text(strings.Repeat("a", 4095))) {
		t.Error("P5.2: MaxText bytes")
	}
}

func TestPrintOfManyValues(t *testing.T) {
	for _, c := range []struct {
		one  api.Json
		size int
	}{{null, 4}, {json.Int(1), 1}, {json.Text(""), 2}, {list(), 2}, {object(), 2}, {truth(false), 5}} {
		fits := (api.MaxText - 1) / (c.size + 1)
		for many := fits - 2; many <= fits+2; many++ {
			v := list(slices.Repeat([]api.Json{c.one}, many)...)
			if right := many <= fits; json.Right(v) != right || !right && !notRight(v) {
				t.Errorf("P5.2: %d times %v: right is not %v", many, c.one, right)
			}
		}
	}
}

// A value that is far too long is not gone through: neither a long text, nor many names, nor lists that have one list many times within them, nor one that has itself.
func TestValuesThatAreFarTooLong(t *testing.T) {
	long := strings.Repeat("\n", 1<<24)
	names := make([]string, 1<<17)
	for i := range names {
		names[i] = strconv.Itoa(i)
	}
	wide := list(null)
	for range 15 {
		wide = list(slices.Repeat([]api.Json{wide}, 1000)...)
	}
	hollow := list()
	for range 20 {
		hollow = list(slices.Repeat([]api.Json{hollow}, 1000)...)
	}
	itself := list(null, null, null)
	for i := range itself.List {
		itself.List[i] = itself
	}
	for i, v := range []api.Json{
		json.Text(long), object(long, null), list(json.Text(long)), object("a", json.Text(long)), wide, hollow, itself, object("a", itself),
		{Kind: api.JsonObject, Names: names, List: make([]api.Json, len(names))}, list(make([]api.Json, 1<<20)...),
		{Kind: api.JsonObject, Names: names}, {Kind: api.JsonList, Names: names}, {List: wide.List}, {Text: long},
	} {
		if !notRight(v) {
			t.Errorf("P5.2: right: value %d", i)
		}
	}
}

func TestPrintedValuesComeBack(t *testing.T) {
	n := numbers(7)
	printed := 0
	for range 30000 {
		v := n.value(1 + n.below(6))
		s, ok := json.Print(v)
		if !ok {
			t.Fatalf("P5.2: not printed: %v", v)
		}
		if !printsAs(v, s) || !equal(read(s), v) {
			t.Errorf("P5.4: %v is printed as %s", v, s)
		}
		if len(s) > 20 {
			printed++
		}
	}
	if printed < 1000 {
		t.Errorf("%d values have more than 20 bytes", printed)
	}
}

// breakAt makes one place of a value wrong.
func (n *numbers) breakAt(v api.Json) api.Json {
	wrong := []api.Json{{Kind: 6}, {Kind: -1}, {Int: 1}, json.Int(most + 1), json.Text("\xff"), {Kind: api.JsonList, Names: []string{"a"}}, object("a", null, "a", null), {Kind: api.JsonObject, Names: []string{"a"}}, nested(null, 17)}
	if len(v.List) == 0 || n.below(3) == 0 {
		return wrong[n.below(len(wrong))]
	}
	v.List = slices.Clone(v.List)
	i := n.below(len(v.List))
	v.List[i] = n.breakAt(v.List[i])
	return v
}

func TestValuesThatAreWrongSomewhere(t *testing.T) {
	n := numbers(9)
	for range 10000 {
		if v := n.breakAt(n.value(5)); !notRight(v) {
			t.Errorf("P5.2: right: %v", v)
		}
	}
}
