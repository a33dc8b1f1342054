package maps_test

import (
	"fmt"
	"math"
	"math/rand"
	"reflect"
	"slices"
	"strconv"
	"strings"
	"testing"

	"chatelaine/api"
	"chatelaine/json"
	"chatelaine/maps"
	"chatelaine/rules"
)

func text(s string) api.Node { return api.Node{Op: api.OpText, Text: s} }

func number(n int) api.Node { return api.Node{Op: api.OpInt, Int: n} }

func claim(name string) api.Node { return api.Node{Op: api.OpClaim, Text: name} }

func has(name string) api.Node { return api.Node{Op: api.OpHas, Text: name} }

func node(op, a, b int) api.Node { return api.Node{Op: op, A: a, B: b} }

func nodes(l ...api.Node) []api.Node { return l }

func truth(b bool) api.Json { return api.Json{Kind: api.JsonBool, Bool: b} }

func list(values ...api.Json) api.Json { return api.Json{Kind: api.JsonList, List: values} }

func words(l ...string) api.Json {
	v := list()
	for _, s := range l {
		v.List = append(v.List, json.Text(s))
	}
	return v
}

// object makes one of names and values in turns; Go's own texts, numbers, truths and lists of texts stand for values of that kind.
func object(items ...any) api.Json {
	v := api.Json{Kind: api.JsonObject}
	for i := 0; i < len(items); i += 2 {
		v.Names = append(v.Names, items[i].(string))
		one, ok := items[i+1].(api.Json)
		if !ok {
			one = asJson(items[i+1])
		}
		v.List = append(v.List, one)
	}
	return v
}

// told is the beginning of what there is to tell.
func told(x any) string {
	s := fmt.Sprintf("%v", x)
	return s[:min(len(s), 300)]
}

// check holds Value against the second implementation, and tells what it answers.
func check(t *testing.T, l []api.Node, v api.Json) (api.Json, bool) {
	t.Helper()
	x, ok := maps.Value(l, v)
	if want, is := wanted(l, v); !json.Same(x, want) || ok != is {
		t.Errorf("P13.1: Value(%s, %s): %s, %v, want %s, %v", told(l), told(v), told(x), ok, told(want), is)
	}
	return x, ok
}

// is holds an expression's value against the second implementation, and against this one.
func is(t *testing.T, want any, v api.Json, l ...api.Node) {
	t.Helper()
	if x, ok := check(t, l, v); !json.Same(x, asJson(want)) || ok != (want != nil) {
		t.Errorf("P13.1: Value(%s, %s): %s, %v, want %s", told(l), told(v), told(x), ok, told(want))
	}
}

func TestErrorsAreThoseOfTheDocument(t *testing.T) {
	if api.ErrMapsDeny != 130 || api.ErrMapsLong != 131 || api.MaxText != mostBytes {
		t.Error("P13.2: the errors, or the limit, are others")
	}
}

func TestNoNode(t *testing.T) {
	for _, v := range []api.Json{{}, object(), object("", "x"), json.Text("x")} {
		is(t, nil, v)
		for _, l := range [][]api.Node{nil, {}, nodes(text("x"))[:0]} {
			if x, ok := maps.Value(l, v); ok || !reflect.DeepEqual(x, api.Json{}) {
				t.Errorf("P13.1: no node: %v, %v", x, ok)
			}
		}
	}
}

func TestTextsAndNumbers(t *testing.T) {
	for _, s := range []string{"", "x", "A@b", "\x00\xff'\\\n", "é", strings.Repeat("x", mostBytes), strings.Repeat("x", mostBytes+1), strings.Repeat("x", 1<<20)} {
		is(t, s, api.Json{}, text(s))
		is(t, s, object(s, 1), text(s))
	}
	for _, n := range []int{0, 1, -1, 1<<53 - 1, 1 << 53, -1 << 53, math.MaxInt, math.MinInt} {
		is(t, n, api.Json{}, number(n))
	}
	v := object("x", "y")
	for _, far := range []int{-1, 0, 1, 99, math.MaxInt, math.MinInt} { // they have no operands, whatever A and B say
		is(t, "x", v, api.Node{Op: api.OpText, A: far, B: -far, Int: far, Text: "x"})
		is(t, 7, v, api.Node{Op: api.OpInt, A: far, B: far, Int: 7, Text: "x"})
		is(t, "y", v, api.Node{Op: api.OpClaim, A: far, B: far, Int: far, Text: "x"})
		is(t, true, v, api.Node{Op: api.OpHas, A: far, B: far, Int: far, Text: "x"})
	}
}

// TestClaims has claims, and what they are to an expression: nil where they are nothing.
func TestClaims(t *testing.T) {
	for _, c := range []struct {
		v    api.Json
		want any
	}{
		{json.Text(""), ""}, {json.Text("x"), "x"}, {json.Text("\xff"), "\xff"}, {json.Text(strings.Repeat("x", mostBytes+1)), strings.Repeat("x", mostBytes+1)},
		{json.Int(0), 0}, {json.Int(-5), -5}, {json.Int(math.MaxInt), math.MaxInt}, {truth(false), false}, {truth(true), true},
		{list(), []string{}}, {words(""), []string{""}}, {words("y", "x", "y"), []string{"y", "x", "y"}},
		{api.Json{}, nil}, {object(), nil}, {object("c", "x"), nil}, {list(json.Int(1)), nil}, {list(list()), nil}, {list(words("x")), nil}, {list(truth(true)), nil}, {list(api.Json{}), nil}, {list(object()), nil},
		{list(json.Text("x"), json.Int(1)), nil}, {list(json.Int(1), json.Text("x")), nil}, {list(json.Text("x"), api.Json{}, json.Text("x")), nil},
		{api.Json{Kind: -1}, nil}, {api.Json{Kind: 6, Text: "x"}, nil}, {api.Json{Kind: 1<<32 + api.JsonText, Text: "x"}, nil}, {api.Json{Text: "x", Int: 1, Bool: true}, nil},
	} {
		for _, v := range []api.Json{object("c", c.v), object("b", "other", "c", c.v), object("c", c.v, "d", 9), object("c", c.v, "c", "second"), object("C", 1, "c ", 2, "", 3, "c", c.v)} {
			is(t, c.want, v, claim("c"))
			is(t, c.want != nil, v, has("c"))
		}
		for _, name := range []string{"", "C", "c\x00", "cc", " c"} {
			is(t, nil, object("c", c.v), claim(name))
			is(t, false, object("c", c.v), has(name))
		}
		is(t, c.want, object("", c.v), claim(""))
		is(t, c.want != nil, object("", c.v), has(""))
	}
}

// What is no object of as many names as values has no claims.
func TestClaimsOfWhatHasNone(t *testing.T) {
	x := []api.Json{json.Text("x")}
	for _, v := range []api.Json{{}, json.Text("c"), json.Int(1), truth(true), list(), words("c"), object(),
		{Names: []string{"c"}, List: x}, {Kind: api.JsonList, Names: []string{"c"}, List: x}, {Kind: api.JsonText, Names: []string{"c"}, List: x}, {Kind: 6, Names: []string{"c"}, List: x}, {Kind: -1, Names: []string{"c"}, List: x},
		{Kind: api.JsonObject, Names: []string{"c"}}, {Kind: api.JsonObject, List: x}, {Kind: api.JsonObject, Names: []string{"c", "d"}, List: x}, {Kind: api.JsonObject, Names: []string{"c"}, List: append(x, x...)},
	} {
		is(t, nil, v, claim("c"))
		is(t, false, v, has("c"))
		is(t, "y", v, claim("c"), text("y"), node(api.OpElse, 0, 1))
	}
}

// samples has a few values of each type behind each letter, and claims that are none behind the -.
func samples() api.Json {
	return object("T", "A@b", "t", "", "I", 5, "i", -1, "B", true, "b", false, "L", []string{"x", "A@b"}, "l", []string{}, "-", api.Json{}, "o", object("T", "x"), "m", list(json.Text("x"), json.Int(1)))
}

const letters = "TtIiBbLl-omz" // z is no claim at all

// Each operator, with operands of each two types, and with none, by what the document says of them.
func TestOperators(t *testing.T) {
	right := map[string]int{}
	for op := -3; op <= 40; op++ {
		for _, a := range letters {
			for _, b := range letters {
				l := nodes(claim(string(a)), claim(string(b)), node(op, 0, 1))
				x, ok := check(t, l, samples())
				if ok && op > api.OpHas {
					right[strconv.Itoa(op)+string(a)+string(b)] = x.Kind
				}
				if !ok && !reflect.DeepEqual(x, api.Json{}) {
					t.Errorf("R1: Value(%v): %v beside false", l, x)
				}
			}
		}
	}
	known := map[int]string{ // those of two operands: the types of both, and the kind that they make; . is any, none included
		5: "TT3", 10: "TT1 II1 BB1", 11: "II1", 12: "TL1", 14: "..1", 15: "..1", 17: "TT1",
		6: "T.3", 7: "L.3", 8: "T.3", 9: "T.3", 13: "B.1",
		16: "T.3 I.2 B.1 L.4 -T3 -I2 -B1 -L4",
	}
	typeOf := map[rune]string{'T': "T", 't': "T", 'I': "I", 'i': "I", 'B': "B", 'b': "B", 'L': "L", 'l': "L", '-': "-", 'o': "-", 'm': "-", 'z': "-"}
	for op := -3; op <= 40; op++ {
		for _, a := range letters {
			for _, b := range letters {
				want := 0
				for _, one := range strings.Fields(known[op]) {
					if (one[:1] == typeOf[a] || one[0] == '.') && (one[1:2] == typeOf[b] || one[1] == '.') {
						want = int(one[2] - '0')
					}
				}
				if op == api.OpFirst && a == 'l' || (op == api.OpHead || op == api.OpTail) && a == 't' { // there's nothing to be taken
					want = 0
				}
				if got := right[strconv.Itoa(op)+string(a)+string(b)]; got != want {
					t.Errorf("P13.1: the Op %d of %c and %c: kind %d, want %d", op, a, b, got, want)
				}
			}
		}
	}
}

func TestOtherOperators(t *testing.T) {
	for _, op := range []int{0, -1, 18, 19, 99, 1<<32 + api.OpText, 1<<32 + api.OpNot, -api.OpNot, 256 + api.OpText, 256 + api.OpElse, math.MaxInt, math.MinInt} {
		is(t, nil, samples(), api.Node{Op: op})
		is(t, nil, samples(), api.Node{Op: op, Text: "T", Int: 5})
		is(t, nil, samples(), text("x"), api.Node{Op: op, Text: "T"})
		is(t, "x", samples(), text("x"), api.Node{Op: op}, node(api.OpElse, 0, 1))
		is(t, "x", samples(), text("x"), api.Node{Op: op}, node(api.OpElse, 1, 0))
		is(t, false, samples(), claim("B"), api.Node{Op: op}, node(api.OpAnd, 0, 1))
		is(t, true, samples(), claim("B"), api.Node{Op: op}, node(api.OpOr, 1, 0))
	}
}

// Operands stand ahead of their operation: 0 to its own number minus 1.
func TestPlacesOfOperands(t *testing.T) {
	one := map[int]string{api.OpLower: "T", api.OpHead: "T", api.OpTail: "T", api.OpFirst: "L", api.OpNot: "B"}
	two := map[int]string{api.OpJoin: "TT", api.OpEqual: "TT", api.OpLess: "II", api.OpIn: "TL", api.OpStarts: "TT", api.OpAnd: "BB", api.OpOr: "BB", api.OpElse: "LL"}
	places := []int{math.MinInt, -1 << 32, -4, -3, -2, -1, 0, 1, 2, 3, 4, 5, 6, 7, 1 << 32, 1<<32 + 1, math.MaxInt}
	for op, takes := range one {
		for _, a := range places {
			for _, b := range places {
				l := nodes(claim(takes), claim(takes), claim(takes), node(op, a, b))
				if _, ok := check(t, l, samples()); ok != (0 <= a && a <= 2) {
					t.Errorf("P13.1: the operand %d of the Op %d: %v", a, op, ok)
				}
				l = append(l, claim(takes), node(api.OpElse, 3, 3)) // nodes behind it are none of its operands
				if _, ok := check(t, l, samples()); ok != (0 <= a && a <= 2) {
					t.Errorf("P13.1: the operand %d of the Op %d, ahead of others: %v", a, op, ok)
				}
			}
		}
	}
	for op, takes := range two {
		first, second := claim(takes[:1]), claim(takes[1:])
		for _, a := range places {
			for _, b := range places {
				l := nodes(first, second, first, second, node(op, a, b))
				isA, isB := a == 0 || a == 2, b == 1 || b == 3
				if takes[0] == takes[1] {
					isA, isB = 0 <= a && a <= 3, 0 <= b && b <= 3
				}
				if _, ok := check(t, l, samples()); ok != (isA && isB) {
					t.Errorf("P13.1: the operands %d and %d of the Op %d: %v", a, b, op, ok)
				}
				l = append(l, first, second, node(api.OpElse, 4, 4))
				if _, ok := check(t, l, samples()); ok != (isA && isB) {
					t.Errorf("P13.1: the operands %d and %d of the Op %d, ahead of others: %v", a, b, op, ok)
				}
			}
		}
	}
	for op := 5; op <= 17; op++ { // no operation is its own operand
		is(t, nil, samples(), node(op, 0, 0))
	}
}

// Both operands of these must be ahead, even where one would do; but neither needs a value.
func TestOperandsThatNeedNoValue(t *testing.T) {
	v := samples()
	for _, far := range []int{-1, 2, 3, 99, math.MinInt, math.MaxInt} {
		for _, op := range []int{api.OpAnd, api.OpOr, api.OpElse} {
			is(t, nil, v, claim("B"), claim("b"), node(op, 0, far))
			is(t, nil, v, claim("B"), claim("b"), node(op, far, 0))
			is(t, nil, v, claim("B"), claim("b"), node(op, far, far))
		}
	}
	for _, a := range letters {
		for _, b := range letters {
			l := nodes(claim(string(a)), claim(string(b)))
			is(t, a == 'B' && b == 'B', v, append(l, node(api.OpAnd, 0, 1))...)
			is(t, a == 'B' || b == 'B', v, append(l, node(api.OpOr, 0, 1))...)
			x, _ := maps.Value(l[:1], v)
			if x.Kind == api.JsonNull {
				x, _ = maps.Value(l[1:], v)
			}
			is(t, plain(x), v, append(l, node(api.OpElse, 0, 1))...)
		}
	}
}

func TestJoin(t *testing.T) {
	join := node(api.OpJoin, 0, 1)
	for _, c := range [][3]string{{"", "", ""}, {"a", "b", "ab"}, {"b", "a", "ba"}, {"", "x", "x"}, {"x", "", "x"}, {"\xff", "\x00", "\xff\x00"}, {"'", "é", "'é"}} {
		is(t, c[2], api.Json{}, text(c[0]), text(c[1]), join)
	}
	for _, first := range []int{0, 1, 2, 1000, 2048, mostBytes - 1, mostBytes, mostBytes + 1} {
		for _, both := range []int{mostBytes - 1, mostBytes, mostBytes + 1, mostBytes + 2, 2 * mostBytes} {
			second := both - first
			if second < 0 {
				continue
			}
			a, b := strings.Repeat("a", first), strings.Repeat("b", second)
			var want any
			if both <= mostBytes {
				want = a + b
			}
			is(t, want, api.Json{}, text(a), text(b), join)
			is(t, want, object("a", a, "b", b), claim("a"), claim("b"), join)
		}
	}
	is(t, "abab", api.Json{}, text("ab"), node(api.OpJoin, 0, 0))
	is(t, strings.Repeat("é", 2048), api.Json{}, text(strings.Repeat("é", 1024)), node(api.OpJoin, 0, 0)) // bytes are counted
	is(t, nil, api.Json{}, text(strings.Repeat("é", 1025)), node(api.OpJoin, 0, 0))
}

func TestLower(t *testing.T) {
	for c := range 256 {
		want := c
		if 'A' <= c && c <= 'Z' {
			want = c + 32
		}
		for _, around := range []string{"", "x", "\xc3", "Ab@"} {
			before, after := around+string([]byte{byte(c)})+around, lowered(around)+string([]byte{byte(want)})+lowered(around)
			is(t, after, api.Json{}, text(before), node(api.OpLower, 0, 0))
		}
	}
	is(t, "abcdefghijklmnopqrstuvwxyz[\\]^_`@{|}0129", api.Json{}, text("ABCDEFGHIJKLMNOPQRSTUVWXYZ[\\]^_`@{|}0129"), node(api.OpLower, 0, 0))
	others := "ÀÉÖ\u0130\u0131\u212a\u017f" // some of which have small letters of another length, or of A to Z
	is(t, others, api.Json{}, text(others), node(api.OpLower, 0, 0))
	is(t, strings.Repeat("x", 5000), api.Json{}, text(strings.Repeat("X", 5000)), node(api.OpLower, 0, 0))
}

func TestHeadAndTail(t *testing.T) {
	for s, parts := range map[string][]string{
		"": nil, "a": nil, "ab.c": nil, "\x00": nil, "＠": nil, "@": {"", ""}, "a@": {"a", ""}, "@b": {"", "b"}, "a@b": {"a", "b"}, "a@b@c": {"a", "b@c"}, "@@": {"", "@"}, "a@@b": {"a", "@b"}, "A b@\xff": {"A b", "\xff"},
	} {
		var head, tail any
		if parts != nil {
			head, tail = parts[0], parts[1]
		}
		is(t, head, api.Json{}, text(s), node(api.OpHead, 0, 0))
		is(t, tail, api.Json{}, text(s), node(api.OpTail, 0, 0))
		is(t, head, object("e", s), claim("e"), node(api.OpHead, 0, 0))
		is(t, tail, object("e", s), claim("e"), node(api.OpTail, 0, 0))
	}
}

func TestFirst(t *testing.T) {
	first := node(api.OpFirst, 0, 0)
	is(t, nil, object("g", []string{}), claim("g"), first)
	is(t, "", object("g", []string{""}), claim("g"), first)
	is(t, "y", object("g", []string{"y", "x"}), claim("g"), first)
	is(t, "x", object("g", []string{"x", "y", "z"}), claim("g"), first)
	is(t, nil, object("g", list(json.Text("x"), json.Int(1))), claim("g"), first) // no list of texts only
	is(t, nil, object("g", "x"), claim("g"), first)
}

func TestStarts(t *testing.T) {
	for _, c := range []struct {
		a, b string
		want bool
	}{
		{"", "", true}, {"x", "", true}, {"", "x", false}, {"x", "x", true}, {"xy", "x", true}, {"x", "xy", false}, {"xy", "y", false}, {"Xy", "x", false}, {"xx", "xx", true}, {"axb", "ax", true}, {"axb", "xb", false}, {"\xff\x00", "\xff", true}, {"é", "\xc3", true},
	} {
		is(t, c.want, api.Json{}, text(c.a), text(c.b), node(api.OpStarts, 0, 1))
		is(t, c.want, api.Json{}, text(c.b), text(c.a), node(api.OpStarts, 1, 0))
	}
}

func TestEqual(t *testing.T) {
	groups := [][]any{
		{"", "x", "y", "X", "xx", "x\x00", "\xff", "é", "1", "true"},
		{0, 1, -1, 5, 1 << 32, 1 << 53, math.MaxInt, math.MinInt},
		{true, false},
		{[]string{}, []string{""}, []string{"x"}, []string{"x", "y"}},
	}
	for i, some := range groups {
		for j, others := range groups {
			for k, a := range some {
				for m, b := range others {
					var want any
					if i == j && i < 3 {
						want = k == m
					}
					is(t, want, object("a", a, "b", b), claim("a"), claim("b"), node(api.OpEqual, 0, 1))
				}
			}
		}
	}
	is(t, true, api.Json{}, text("x"), node(api.OpEqual, 0, 0))
	is(t, true, object("e", "x"), claim("e"), text("x"), node(api.OpEqual, 0, 1))
	is(t, true, object("n", 5), number(5), claim("n"), node(api.OpEqual, 0, 1))
	is(t, true, object("o", true), claim("o"), has("o"), node(api.OpEqual, 0, 1))
}

func TestLess(t *testing.T) {
	ordered := []int{math.MinInt, math.MinInt + 1, -1 << 53, -1 << 32, -10, -2, -1, 0, 1, 2, 9, 10, 1<<31 - 1, 1 << 31, 1 << 32, 1<<53 - 1, 1 << 53, math.MaxInt - 1, math.MaxInt}
	for i, a := range ordered {
		for j, b := range ordered {
			is(t, i < j, object("a", a), claim("a"), number(b), node(api.OpLess, 0, 1))
		}
	}
}

func TestIn(t *testing.T) {
	for _, c := range []struct {
		s    string
		l    []string
		want bool
	}{
		{"x", nil, false}, {"", nil, false}, {"", []string{""}, true}, {"", []string{"x"}, false}, {"x", []string{""}, false}, {"x", []string{"x"}, true}, {"x", []string{"y", "x"}, true}, {"x", []string{"x", "y"}, true}, {"x", []string{"y", "x", "z"}, true},
		{"x", []string{"X", "xx", "x ", "\x00x"}, false}, {"xy", []string{"x", "y"}, false}, {"\xff", []string{"\xfe", "\xff"}, true}, {"A@b", []string{"a@b", "A@b"}, true},
	} {
		is(t, c.want, object("g", words(c.l...)), text(c.s), claim("g"), node(api.OpIn, 0, 1))
		is(t, c.want, object("g", words(c.l...), "s", c.s), claim("g"), claim("s"), node(api.OpIn, 1, 0))
	}
	is(t, nil, object("g", list(json.Text("x"), json.Int(1))), text("x"), claim("g"), node(api.OpIn, 0, 1))
	is(t, nil, object("g", "x"), text("x"), claim("g"), node(api.OpIn, 0, 1))
}

// Only the last node counts, and what it hangs on: others may have no value.
func TestLastNodeCounts(t *testing.T) {
	v := samples()
	is(t, 1, v, text("x"), number(1))
	is(t, 1, v, claim("z"), number(1))
	is(t, 1, v, api.Node{Op: 99}, node(api.OpNot, 5, 5), number(1))
	is(t, nil, v, number(1), claim("z"))
	is(t, nil, v, number(1), node(api.OpNot, 0, 0))
	is(t, "xx", v, claim("z"), text("x"), claim("-"), node(api.OpJoin, 1, 1))
	is(t, nil, v, claim("z"), node(api.OpLower, 0, 0), text("x"), node(api.OpJoin, 1, 2)) // none comes of none
	is(t, nil, v, claim("z"), node(api.OpNot, 0, 0), node(api.OpNot, 1, 0))
}

// There may be more nodes than those of rules that are read, and each may be an operand many times over.
func TestManyNodes(t *testing.T) {
	for _, count := range []int{47, 48, 49, 1000, 100000} {
		l := nodes(text(""))
		for i := 1; i < count; i++ {
			l = append(l, node(api.OpJoin, i-1, i/2))
		}
		is(t, "", object("g", 1), l...)
		is(t, true, object("g", 1), append(l, node(api.OpEqual, count-1, 0))...)
		l[0] = claim("z")
		is(t, nil, object("g", 1), l...)
		is(t, 1, object("g", 1), append(l, claim("g"), node(api.OpElse, count-1, count))...)
	}
	l := nodes(text("ab"))
	for i := range 11 {
		l = append(l, node(api.OpJoin, i, i))
	}
	is(t, strings.Repeat("ab", 2048), api.Json{}, l...)
	is(t, nil, api.Json{}, append(l, node(api.OpJoin, 11, 0))...)
	is(t, nil, api.Json{}, append(l, node(api.OpJoin, 11, 11), node(api.OpLower, 12, 0))...)
}

// pick has the numbers that are drawn below.
type pick struct{ *rand.Rand }

func (p pick) text() string {
	return []string{"", "x", "X", "y", "A@b", "a@b", "@", "a@", "Ab", strings.Repeat("x", 2000), strings.Repeat("A@", 1100)}[p.Intn(11)]
}

func (p pick) texts() []string {
	l := []string{}
	for range p.Intn(4) {
		l = append(l, p.text())
	}
	return l
}

func (p pick) value() api.Json {
	switch p.Intn(10) {
	case 0, 1, 2:
		return json.Text(p.text())
	case 3, 4:
		return json.Int(p.Intn(5) - 2)
	case 5, 6:
		return truth(p.Intn(2) == 0)
	case 7, 8:
		return asJson(p.texts())
	}
	return []api.Json{{}, object("T", "x"), list(json.Text("x"), json.Int(1)), list(list())}[p.Intn(4)]
}

const names = "TIBLabc"

func (p pick) name() string { return names[p.Intn(len(names)):][:1] }

// claims has a value of each type by its letter, and others.
func (p pick) claims() api.Json {
	v := object("T", p.text(), "I", p.Intn(5)-2, "B", p.Intn(2) == 0, "L", p.texts())
	for range p.Intn(3) {
		v.Names = append(v.Names, p.name())
		v.List = append(v.List, p.value())
	}
	p.Shuffle(len(v.Names), func(i, j int) {
		v.Names[i], v.Names[j] = v.Names[j], v.Names[i]
		v.List[i], v.List[j] = v.List[j], v.List[i]
	})
	return v
}

func (p pick) node(i int) api.Node {
	n := api.Node{Op: p.Intn(18), Int: p.Intn(5) - 2, A: p.Intn(i + 1), B: p.Intn(i + 1), Text: p.text()}
	if p.Intn(40) == 0 {
		n.A, n.B, n.Op = p.Intn(9)-3, p.Intn(9)-3, p.Intn(24)-3
	}
	if n.Op == api.OpClaim || n.Op == api.OpHas {
		n.Text = p.name()
	}
	return n
}

// expression adds nodes most of which have a value.
func (p pick) expression(v api.Json, size int) []api.Node {
	var l []api.Node
	for len(l) < size {
		n := p.node(len(l))
		if _, ok := wanted(append(l, n), v); ok || p.Intn(20) == 0 {
			l = append(l, n)
		}
	}
	return l
}

func TestDrawnExpressions(t *testing.T) {
	p := pick{rand.New(rand.NewSource(13))}
	count := map[int]int{}
	for range 10000 {
		v := p.claims()
		x, _ := check(t, p.expression(v, p.Intn(16)), v)
		count[x.Kind]++
	}
	for kind := range 5 {
		if count[kind] < 200 {
			t.Errorf("some results are rare: %v", count)
		}
	}
}

// read is the expression that a text says.
func read(t *testing.T, s string) []api.Node {
	t.Helper()
	l, e := rules.Parse("a = " + s)
	if e != api.OK {
		t.Fatalf("%s: %d", s, e)
	}
	return l[0].Expr
}

func TestReadExpressions(t *testing.T) {
	v := object("e", "A@b", "g", []string{"y", "x"}, "n", 5, "o", true, "f", false, "k", []string{}, "m", list(json.Int(1)), "u", api.Json{})
	for s, want := range map[string]any{
		"'x'": "x", "1": 1, "$e": "A@b", "$n": 5, "$o": true, "$g": []string{"y", "x"}, "$k": []string{}, "$m": nil, "$u": nil, "$z": nil, "has($e)": true, "has($k)": true, "has($m)": false, "has($u)": false, "has($z)": false,
		"lower($e) + '!'": "a@b!", "head($e)": "A", "tail($e)": "b", "tail('x')": nil, "tail('x') else 'none'": "none", "tail($e) else 'none'": "b", "first($g)": "y", "first($k)": nil, "first($k) else first($g)": "y", "first($k else $g)": nil, "first($m else $g)": "y", "starts($e, 'A')": true, "starts('A', $e)": false,
		"$e == 'A@b'": true, "$e == 'a@b'": false, "$n == 5": true, "$o == $o": true, "$o == $f": false, "$g == $g": nil, "$e == $n": nil, "$z == 1": nil, "$n < 6": true, "$n < 5": false, "$e < $e": nil, "'x' in $g": true, "'z' in $g": false, "'x' in $k": false, "'x' in $m": nil, "$n in $g": nil,
		"not $o": false, "not $f": true, "not $z": nil, "not $e": nil, "not 'z' in $g": true, "$z and $o": false, "$o and $o": true, "$o and $e": false, "$z or $o": true, "$z or $f": false, "$n or $e": false, "not ($z or $f)": true, "$z else $n": 5, "$z else $u": nil, "$e else $n": "A@b", "$e + $n": nil, "1 + 2": nil, "$z + 'x'": nil, "$e + ($z else '')": "A@b",
	} {
		is(t, want, v, read(t, s)...)
	}
}

// spoil writes into all memory of a value, that behind its lists included.
func spoil(v api.Json) {
	for _, one := range v.List {
		spoil(one)
	}
	for i := range v.Names[:cap(v.Names)] {
		v.Names[:cap(v.Names)][i] = "spoilt"
	}
	for i := range v.List[:cap(v.List)] {
		v.List[:cap(v.List)][i] = json.Int(-1)
	}
}

// copied is a value in memory of its own.
func copied(v api.Json) api.Json {
	v.Names = slices.Clone(v.Names)
	v.List = slices.Clone(v.List)
	for i := range v.List {
		v.List[i] = copied(v.List[i])
	}
	return v
}

func TestValueSharesNothing(t *testing.T) {
	p := pick{rand.New(rand.NewSource(6))}
	for range 2000 {
		v := p.claims()
		l := append(p.expression(v, p.Intn(8)), claim("L"))
		if p.Intn(2) == 0 {
			l = append(l, node(api.OpElse, len(l)-1, 0))
		}
		before, nodesBefore := copied(v), slices.Clone(l)
		x, ok := maps.Value(l[:len(l):len(l)], v)
		if !reflect.DeepEqual(v, before) || !slices.Equal(l, nodesBefore) {
			t.Fatalf("R5: Value changed its arguments: %v, %v", l, v)
		}
		first := copied(x)
		spoil(x)
		if !reflect.DeepEqual(v, before) || !slices.Equal(l, nodesBefore) {
			t.Fatalf("R6: writing into what Value answered changed its arguments: %v, %v", l, v)
		}
		if again, is := maps.Value(l, v); is != ok || !json.Same(again, first) {
			t.Errorf("R7: Value(%v): %v, and then %v", l, first, again)
		}
		again, _ := maps.Value(l, v)
		spoil(v)
		if !json.Same(again, first) {
			t.Errorf("R6: what Value answered changes with its argument: %v", l)
		}
	}
}
