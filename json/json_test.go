package json_test

import (
	"slices"
	"testing"

	"chatelaine/api"
	"chatelaine/json"
)

// numbers is a source of numbers without a short period.
type numbers uint32

func (n *numbers) below(bound int) int {
	x := uint32(*n)
	x ^= x << 13
	x ^= x >> 17
	x ^= x << 5
	*n = numbers(x)
	return int(x>>8) % bound
}

func (n *numbers) one(of []string) string { return of[n.below(len(of))] }

// text is of at most most of the parts.
func (n *numbers) text(parts []string, most int) string {
	s := ""
	for range n.below(most + 1) {
		s += n.one(parts)
	}
	return s
}

var letters = []string{"a", "b", "Z", " ", "\"", "\\", "/", "\n", "\x00", "\x1f", "\x7f", "é", "\u2028", "\ufffd", "\U0001f600", "\U0010ffff"}

// value is one that is right, but maybe for the length of its text.
func (n *numbers) value(deep int) api.Json {
	kinds := 6
	if deep == 0 {
		kinds = 4
	}
	switch n.below(kinds) {
	case 0:
		return null
	case 1:
		return truth(n.below(2) == 0)
	case 2:
		return json.Int(n.number())
	case 3:
		return json.Text(n.text(letters, 5))
	case 4:
		v := list()
		for range n.below(4) {
			v.List = append(v.List, n.value(deep-1))
		}
		return v
	}
	v := api.Json{Kind: api.JsonObject}
	for range n.below(5) {
		if name := n.text(letters, 3); !slices.Contains(v.Names, name) {
			v.Names = append(v.Names, name)
			v.List = append(v.List, n.value(deep-1))
		}
	}
	return v
}

func (n *numbers) number() int {
	x := n.below(1<<24)<<24 | n.below(1<<24)
	x >>= n.below(48)
	switch n.below(8) {
	case 0:
		return -x
	case 1:
		return most - n.below(3)
	case 2:
		return n.below(3) - most
	}
	return x
}

const most = 9007199254740991

var null = api.Json{}

func truth(b bool) api.Json { return api.Json{Kind: api.JsonBool, Bool: b} }

func list(values ...api.Json) api.Json { return api.Json{Kind: api.JsonList, List: values} }

// object makes one of names and values in turns.
func object(items ...any) api.Json {
	v := api.Json{Kind: api.JsonObject}
	for i := 0; i < len(items); i += 2 {
		v.Names = append(v.Names, items[i].(string))
		v.List = append(v.List, items[i+1].(api.Json))
	}
	return v
}

// equal is what Same must answer.
func equal(a, b api.Json) bool {
	if a.Kind != b.Kind || a.Bool != b.Bool || a.Int != b.Int || a.Text != b.Text || len(a.Names) != len(b.Names) || len(a.List) != len(b.List) {
		return false
	}
	for i := range a.Names {
		if a.Names[i] != b.Names[i] {
			return false
		}
	}
	for i := range a.List {
		if !equal(a.List[i], b.List[i]) {
			return false
		}
	}
	return true
}

// nested is a value inside so many lists and objects, in turns.
func nested(v api.Json, deep int) api.Json {
	for i := range deep {
		if i%2 == 0 {
			v = list(v)
		} else {
			v = object("a", v)
		}
	}
	return v
}

// spoil writes into all memory of a value.
func spoil(v api.Json) {
	for _, one := range v.List {
		spoil(one)
	}
	for i := range v.Names[:cap(v.Names)] {
		v.Names[:cap(v.Names)][i] = "spoilt"
	}
	for i := range v.List[:cap(v.List)] {
		v.List[:cap(v.List)][i] = json.Int(-1)
	}
}

// different are values no two of which are the same, and most of which are not right.
func different() []api.Json {
	l := []api.Json{
		null, truth(true), truth(false), json.Int(0), json.Int(1), json.Int(-1), json.Text(""), json.Text("a"), json.Text("A"), json.Text("a "), json.Text("\xff"),
		list(), list(null), list(null, null), list(list()), list(json.Int(1)), list(json.Int(1), json.Int(2)), list(json.Int(2), json.Int(1)), list(list(json.Int(1))),
		object(), object("a", null), object("b", null), object("a", json.Int(0)), object("a", null, "b", null), object("b", null, "a", null),
		object("a", object("a", null)), object("a", object("b", null)), object("a", list(null)), object("a", null, "a", null), object("", null),
		{Kind: 6}, {Kind: -1}, {Kind: 1 << 40}, {Bool: true}, {Int: 1}, {Text: "a"}, {Names: []string{"a"}}, {List: []api.Json{null}},
		{Kind: api.JsonBool, Int: 1}, {Kind: api.JsonInt, Bool: true}, {Kind: api.JsonInt, Text: "0"}, {Kind: api.JsonText, Int: 1}, {Kind: api.JsonText, Names: []string{""}},
		{Kind: api.JsonList, Names: []string{""}}, {Kind: api.JsonObject, Names: []string{"a"}}, {Kind: api.JsonObject, List: []api.Json{null}}, {Kind: api.JsonObject, Text: "a"},
		{Kind: api.JsonObject, Names: []string{"a", "b"}, List: []api.Json{null}},
		json.Int(most), json.Int(most + 1), json.Int(-1 << 63), json.Int(1<<63 - 1),
	}
	return l
}

func TestSameOfDifferentValues(t *testing.T) {
	l := different()
	for i, a := range l {
		for j, b := range l {
			for _, deep := range []int{0, 1, 2, 15, 40} {
				if got := json.Same(nested(a, deep), nested(b, deep)); got != (i == j) {
					t.Errorf("P5.3: Same of %v and %v, %d deep: %v", a, b, deep, got)
				}
			}
			if json.Same(list(null, a, null), list(null, b, null)) != (i == j) || json.Same(list(a, b), list(b, a)) != (i == j) {
				t.Errorf("P5.3: Same of %v and %v in lists", a, b)
			}
		}
	}
}

// An empty slice is equivalent to none (R3).
func TestSameOfEmptySlices(t *testing.T) {
	for kind := -1; kind < 8; kind++ {
		a := api.Json{Kind: kind}
		b := api.Json{Kind: kind, Names: []string{}, List: []api.Json{}}
		c := api.Json{Kind: kind, Names: make([]string, 0, 4), List: make([]api.Json, 0, 4)}
		if !json.Same(a, b) || !json.Same(b, c) || !json.Same(c, a) || !json.Same(nested(a, 9), nested(b, 9)) {
			t.Errorf("P5.3: empty slices of the kind %d", kind)
		}
	}
}

func TestSameOfManyValues(t *testing.T) {
	n := numbers(3)
	same := 0
	for range 20000 {
		a, b := n.value(2), n.value(2)
		want := equal(a, b)
		if json.Same(a, b) != want || !json.Same(a, a) {
			t.Errorf("P5.3: Same of %v and %v is not %v", a, b, want)
		}
		if want {
			same++
		}
	}
	if same < 100 {
		t.Errorf("%d of the values are the same", same)
	}
}

// Values may be nested 2^16 deep, right or not.
func TestDeepValues(t *testing.T) {
	a, b := nested(json.Int(1), 1<<16), nested(json.Int(1), 1<<16)
	if !json.Same(a, b) || json.Same(a, nested(json.Int(2), 1<<16)) || json.Same(a, nested(json.Int(1), 1<<16-2)) {
		t.Error("P5.3: Same of deep values")
	}
	if json.Right(a) {
		t.Error("P5.2: a deep value is right")
	}
	if text, ok := json.Print(a); ok || text != "" {
		t.Error("P5.2: a deep value is printed")
	}
	if got, ok := json.Get(object("x", a), "x"); !ok || !json.Same(got, a) {
		t.Error("P5.3: Get of a deep value")
	}
	if got := json.Object([]string{"x"}, []api.Json{a}); !json.Same(got, object("x", b)) {
		t.Error("P5.3: Object of a deep value")
	}
}

func TestGet(t *testing.T) {
	values := []api.Json{json.Int(1), null, json.Text("c"), list(json.Int(4)), object("b", truth(true)), truth(false), json.Int(1 << 60)}
	names := []string{"a", "b", "", "c", "o", "A", "é\xff"}
	v := api.Json{Kind: api.JsonObject, Names: names, List: values}
	for i, name := range names {
		if got, ok := json.Get(v, name); !ok || !equal(got, values[i]) {
			t.Errorf("P5.3: Get of %q: %v, %v", name, got, ok)
		}
	}
	for _, name := range []string{"d", "aa", "a ", " a", "B", "O", "é", "1", "\x00"} {
		if got, ok := json.Get(v, name); ok || !equal(got, null) {
			t.Errorf("P5.3: Get of %q: %v, %v", name, got, ok)
		}
	}
	inner, _ := json.Get(v, "o")
	if got, ok := json.Get(inner, "b"); !ok || !equal(got, truth(true)) {
		t.Errorf("P5.3: Get of what Get returned: %v, %v", got, ok)
	}
}

// The first of two equal names counts, and so does an object that is not right for another reason.
func TestGetOfObjectsThatAreNotRight(t *testing.T) {
	twice := object("a", json.Int(1), "b", json.Int(2), "a", json.Int(3), "b", json.Int(4))
	a, _ := json.Get(twice, "a")
	b, _ := json.Get(twice, "b")
	if !equal(a, json.Int(1)) || !equal(b, json.Int(2)) {
		t.Errorf("P5.3: the first value: %v, %v", a, b)
	}
	odd := object("a", api.Json{Kind: 9, Text: "x"})
	odd.Bool, odd.Int, odd.Text = true, 7, "y"
	if got, ok := json.Get(odd, "a"); !ok || !equal(got, api.Json{Kind: 9, Text: "x"}) {
		t.Errorf("P5.3: an object with other fields: %v, %v", got, ok)
	}
}

func TestGetOfNoObject(t *testing.T) {
	for kind := -1; kind < 8; kind++ {
		v := object("a", json.Int(1))
		v.Kind = kind
		if got, ok := json.Get(v, "a"); ok != (kind == api.JsonObject) || !ok && !equal(got, null) {
			t.Errorf("P5.3: Get of the kind %d: %v, %v", kind, got, ok)
		}
	}
	for _, v := range []api.Json{
		{Kind: api.JsonObject, Names: []string{"a"}},
		{Kind: api.JsonObject, Names: []string{"a", "b"}, List: []api.Json{json.Int(1)}},
		{Kind: api.JsonObject, Names: []string{"a"}, List: []api.Json{json.Int(1), json.Int(2)}},
		{Kind: api.JsonObject, List: []api.Json{json.Int(1)}},
		{Kind: api.JsonObject},
		{},
	} {
		for _, name := range []string{"a", "b", ""} {
			if got, ok := json.Get(v, name); ok || !equal(got, null) {
				t.Errorf("P5.3: Get(%v, %q): %v, %v", v, name, got, ok)
			}
		}
	}
}

func TestMakers(t *testing.T) {
	for _, s := range []string{"", "a", "\xff", "\"\n", "é"} {
		if got := json.Text(s); !equal(got, api.Json{Kind: api.JsonText, Text: s}) {
			t.Errorf("P5.3: Text(%q): %v", s, got)
		}
	}
	for _, n := range []int{0, 1, -1, most, most + 1, -most - 1, 1<<63 - 1, -1 << 63} {
		if got := json.Int(n); !equal(got, api.Json{Kind: api.JsonInt, Int: n}) {
			t.Errorf("P5.3: Int(%d): %v", n, got)
		}
	}
	for _, c := range []struct {
		names  []string
		values []api.Json
	}{
		{nil, nil},
		{[]string{}, []api.Json{}},
		{[]string{"a"}, []api.Json{null}},
		{[]string{"b", "a", ""}, []api.Json{json.Int(1), list(object("c", null)), json.Text("x")}},
		{[]string{"a", "a"}, []api.Json{null, null}},
		{[]string{"a"}, nil},
		{nil, []api.Json{json.Int(1)}},
		{[]string{"\xff"}, []api.Json{{Kind: 7, Int: 1}}},
	} {
		want := api.Json{Kind: api.JsonObject, Names: c.names, List: c.values}
		if got := json.Object(c.names, c.values); !equal(got, want) {
			t.Errorf("P5.3: Object(%q, %v): %v", c.names, c.values, got)
		}
	}
}

func whole() api.Json {
	return object("a", list(json.Int(1), object("b", list(json.Text("x"), null)), list(list())), "c", object("d", object("e", truth(true))))
}

func TestArgumentsAreLeftAlone(t *testing.T) {
	v := whole()
	json.Print(v)
	json.Right(v)
	json.Same(v, v)
	json.Get(v, "a")
	json.Get(v, "none")
	json.Object(v.Names, v.List)
	part := api.Json{Kind: api.JsonObject, Names: v.Names[:1], List: v.List[:1]}
	json.Print(part)
	json.Get(part, "a")
	json.Object(part.Names, part.List)
	if !equal(v, whole()) {
		t.Error("R5: an argument, or what lies behind it, was changed")
	}
}

func TestResultsBelongToCaller(t *testing.T) {
	v := whole()
	for _, name := range v.Names {
		got, _ := json.Get(v, name)
		spoil(got)
		if !equal(v, whole()) {
			t.Errorf("P5.3, R6: writing into what Get of %q returned changes the object", name)
		}
	}
	spoil(json.Object(v.Names, v.List))
	spoil(json.Object(v.Names[:1], v.List[:1]))
	if !equal(v, whole()) {
		t.Error("P5.3, R6: writing into what Object returned changes what was passed in")
	}
	made, got := json.Object(v.Names, v.List), list()
	got, _ = json.Get(v, "a")
	text, _ := json.Print(v)
	spoil(v)
	if !equal(made, whole()) || !equal(got, whole().List[0]) {
		t.Error("P5.3, R6: a result changes with what was passed in")
	}
	first, _ := json.Parse(text)
	second, _ := json.Parse(text)
	spoil(first)
	if third, e := json.Parse(text); e != api.OK || !equal(second, whole()) || !equal(third, whole()) {
		t.Error("P5.1, R6: writing into what was parsed changes something else")
	}
}

// No two lists of one answer share memory: one may be written to, and appended to, without the others.
func TestListsOfOneResultAreSeparate(t *testing.T) {
	inner := list(json.Int(1))
	shared := list(inner, inner)
	got := json.Object([]string{"a", "b"}, []api.Json{shared, shared})
	got.List[0].List[0].List[0] = null
	if !equal(got.List[0].List[1], list(json.Int(1))) || !equal(got.List[1], list(list(json.Int(1)), list(json.Int(1)))) {
		t.Errorf("P5.3, R6: Object: %v", got)
	}
	got, _ = json.Get(object("a", shared), "a")
	got.List[0].List[0] = null
	if !equal(got.List[1], list(json.Int(1))) {
		t.Errorf("P5.3, R6: Get: %v", got)
	}
	v, _ := json.Parse(`[[1,2,3],[1,2,3],{"a":[1]},{"a":[1]}]`)
	_ = append(v.List[0].List, null)
	_ = append(v.List[:1], null)
	spoil(v.List[2])
	if !equal(v.List[3], object("a", list(json.Int(1)))) {
		t.Errorf("P5.1, R6: Parse: %v", v)
	}
}

func TestSameCallsHaveSameResults(t *testing.T) {
	for range 3 {
		for _, s := range []string{"[", "1.5", "\"", `{"a":1,"a":2}`, "nul"} {
			if parsesTo(s, null) {
				t.Errorf("P5.1: %q is read", s)
			}
		}
		if !parsesTo(`{"a":[1]}`, object("a", list(json.Int(1)))) {
			t.Error("R7: an error in between changes a result")
		}
		if text, ok := json.Print(list(json.Int(1<<60), null)); ok || text != "" {
			t.Errorf("P5.2: %q", text)
		}
		if text, ok := json.Print(list(null)); !ok || text != "[null]" {
			t.Errorf("R7: what could not be printed changes what is printed: %q", text)
		}
	}
}
