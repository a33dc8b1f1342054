package claims_test

import (
	"math"
	"math/big"
	"slices"
	"strings"
	"testing"

	"chatelaine/api"
	"chatelaine/claims"
	"chatelaine/json"
)

// The greatest time, and the names of the tokens' own, are written out here, as the document says them.
const clock = 1 << 40

func reserved() []string { return []string{"iss", "sub", "aud", "exp", "iat", "nbf", "nonce"} }

var null = api.Json{}

func truth(b bool) api.Json { return api.Json{Kind: api.JsonBool, Bool: b} }

func list(values ...api.Json) api.Json { return api.Json{Kind: api.JsonList, List: values} }

// object makes one of names and values in turns; texts and numbers stand for values of that kind.
func object(items ...any) api.Json {
	v := api.Json{Kind: api.JsonObject}
	for i := 0; i < len(items); i += 2 {
		v.Names = append(v.Names, items[i].(string))
		switch x := items[i+1].(type) {
		case string:
			v.List = append(v.List, json.Text(x))
		case int:
			v.List = append(v.List, json.Int(x))
		case api.Json:
			v.List = append(v.List, x)
		}
	}
	return v
}

// nested is a value inside so many lists and objects, in turns.
func nested(v api.Json, deep int) api.Json {
	for i := range deep {
		if i%2 == 0 {
			v = list(v)
		} else {
			v = object("a", v)
		}
	}
	return v
}

// spoil writes into all memory of a value, that behind its lists included.
func spoil(v api.Json) {
	for _, one := range v.List {
		spoil(one)
	}
	for i := range v.Names[:cap(v.Names)] {
		v.Names[:cap(v.Names)][i] = "spoilt"
	}
	for i := range v.List[:cap(v.List)] {
		v.List[:cap(v.List)][i] = json.Int(-1)
	}
}

// find is the value of the first of these names, if it has one.
func find(v api.Json, name string) *api.Json {
	if v.Kind == api.JsonObject && len(v.Names) == len(v.List) {
		for i := range v.Names {
			if v.Names[i] == name {
				return &v.List[i]
			}
		}
	}
	return nil
}

// times are the numbers at which an answer might change, and those next to them.
func times() []int {
	return []int{
		math.MinInt, math.MinInt + 1, -1 << 62, -clock - 1, -clock, -clock + 1, -1 << 32, -2, -1, 0, 1, 2, 3, 10, 1<<31 - 1, 1 << 31, 1<<32 + 1,
		clock/2 - 1, clock / 2, clock/2 + 1, clock - 3, clock - 2, clock - 1, clock, clock + 1, clock + 2, 2 * clock, 1<<53 - 1, 1 << 53, 1 << 62, math.MaxInt - 1, math.MaxInt,
	}
}

// sum is what Add must answer, counted without an end of the numbers.
func sum(a, b int) int {
	limit := func(n *big.Int) *big.Int {
		if n.Sign() < 0 {
			return big.NewInt(0)
		}
		if most := big.NewInt(clock); n.Cmp(most) > 0 {
			return most
		}
		return n
	}
	one, other := limit(big.NewInt(int64(a))), limit(big.NewInt(int64(b)))
	return int(limit(new(big.Int).Add(one, other)).Int64())
}

func TestAdd(t *testing.T) {
	for _, c := range [][3]int{
		{0, 0, 0}, {1, 2, 3}, {2, 1, 3}, {-5, 3, 3}, {3, -5, 3}, {-5, -3, 0}, {5, 0, 5}, {clock, 1, clock}, {1, clock, clock}, {clock, -1, clock}, {-1, clock, clock},
		{clock - 1, 0, clock - 1}, {clock - 1, 1, clock}, {clock - 1, 2, clock}, {clock / 2, clock / 2, clock}, {clock / 2, clock/2 - 1, clock - 1}, {clock, clock, clock},
		{math.MaxInt, math.MaxInt, clock}, {math.MaxInt, 1, clock}, {math.MaxInt, math.MinInt, clock}, {math.MinInt, math.MinInt, 0}, {math.MinInt, -1, 0}, {1 << 62, 1 << 62, clock},
	} {
		if got := claims.Add(c[0], c[1]); got != c[2] {
			t.Errorf("P10.1: Add(%d, %d): %d, want %d", c[0], c[1], got, c[2])
		}
	}
	for _, a := range times() {
		for _, b := range times() {
			if got, want := claims.Add(a, b), sum(a, b); got != want {
				t.Errorf("P10.1: Add(%d, %d): %d, want %d", a, b, got, want)
			}
		}
	}
}

func checkTextAndInt(t *testing.T, v api.Json, name string) {
	t.Helper()
	one := find(v, name)
	text, isText := "", one != nil && one.Kind == api.JsonText
	number, isInt := 0, one != nil && one.Kind == api.JsonInt
	if isText {
		text = one.Text
	}
	if isInt {
		number = one.Int
	}
	if got, ok := claims.Text(v, name); got != text || ok != isText {
		t.Errorf("P10.1: Text(%v, %q): %q, %v", v, name, got, ok)
	}
	if got, ok := claims.Int(v, name); got != number || ok != isInt {
		t.Errorf("P10.1: Int(%v, %q): %d, %v", v, name, got, ok)
	}
}

// values are some of each kind, and some that are not right.
func values() []api.Json {
	l := []api.Json{null, truth(true), truth(false), list(), list(json.Int(1)), list(json.Text("a")), object(), object("a", "b"), object("x", 7, "iss", "i")}
	for _, s := range []string{"", "a", "i", "é", "0", "null", "\xff", strings.Repeat("a", 5000)} {
		l = append(l, json.Text(s))
	}
	for _, n := range times() {
		l = append(l, json.Int(n))
	}
	for kind := -1; kind < 8; kind++ {
		l = append(l, api.Json{Kind: kind, Bool: true, Int: 5, Text: "a", Names: []string{"a"}, List: []api.Json{json.Int(1)}})
	}
	return l
}

func TestTextAndInt(t *testing.T) {
	if s, ok := claims.Text(object("a", "b"), "a"); !ok || s != "b" {
		t.Errorf("P10.1: Text: %q, %v", s, ok)
	}
	if n, ok := claims.Int(object("a", -3), "a"); !ok || n != -3 {
		t.Errorf("P10.1: Int: %d, %v", n, ok)
	}
	all := api.Json{Kind: api.JsonObject}
	for i, one := range values() {
		name := strings.Repeat("n", i)
		all = json.Object(append(all.Names, name), append(all.List, one))
	}
	for _, name := range append(slices.Clone(all.Names), "N", "m", " ", "nx", strings.Repeat("n", len(all.Names))) {
		checkTextAndInt(t, all, name)
		checkTextAndInt(t, object(name, object(name, "x")), name)
	}
}

func TestTextAndIntOfTheFirstName(t *testing.T) {
	for _, one := range values() {
		for _, two := range values() {
			checkTextAndInt(t, object("b", "x", "a", one, "a", two), "a")
		}
	}
}

// notObjects have the name a, but nothing is found under it.
func notObjects() []api.Json {
	l := []api.Json{
		{Kind: api.JsonObject, Names: []string{"a"}},
		{Kind: api.JsonObject, Names: []string{"a", "b"}, List: []api.Json{json.Text("x")}},
		{Kind: api.JsonObject, Names: []string{"a"}, List: []api.Json{json.Int(1), json.Int(2)}},
		{Kind: api.JsonObject, List: []api.Json{json.Text("x")}},
		object(), null, json.Text("a"), list(json.Text("a"), json.Int(1)),
	}
	for kind := -1; kind < 8; kind++ {
		if kind != api.JsonObject {
			l = append(l, api.Json{Kind: kind, Text: "a", Int: 1, Names: []string{"a"}, List: []api.Json{json.Text("x")}}, api.Json{Kind: kind, Names: []string{"a"}, List: []api.Json{json.Int(1)}})
		}
	}
	return l
}

func TestTextAndIntOfNoObject(t *testing.T) {
	for _, v := range notObjects() {
		if s, ok := claims.Text(v, "a"); ok || s != "" {
			t.Errorf("P10.1: Text(%v): %q, %v", v, s, ok)
		}
		if n, ok := claims.Int(v, "a"); ok || n != 0 {
			t.Errorf("P10.1: Int(%v): %d, %v", v, n, ok)
		}
	}
}

func TestReserved(t *testing.T) {
	for _, name := range reserved() {
		if !claims.Reserved(name) {
			t.Errorf("P10.1: %s is not reserved", name)
		}
	}
	for _, name := range []string{"", "x", "jti", "email", "groups", "ISS", "Sub", "is", "isss", "iss ", " iss", "nonc", "nonces", "issuer", "iss\x00", "subaud", "iss,sub", "none", "iss sub"} {
		if claims.Reserved(name) {
			t.Errorf("P10.1: %q is reserved", name)
		}
	}
}

// Every name of three small letters, and every name one byte from a reserved one.
func TestReservedOfNamesNextToThem(t *testing.T) {
	check := func(name string) {
		if want := slices.Contains(reserved(), name); claims.Reserved(name) != want {
			t.Errorf("P10.1: Reserved(%q): %v", name, !want)
		}
	}
	for n := range 26 * 26 * 26 {
		check(string([]byte{'a' + byte(n/676), 'a' + byte(n/26%26), 'a' + byte(n%26)}))
	}
	for _, name := range reserved() {
		for i := range len(name) + 1 {
			for c := range 256 {
				check(name[:i] + string([]byte{byte(c)}) + name[i:])
				if i < len(name) {
					check(name[:i] + string([]byte{byte(c)}) + name[i+1:])
				}
			}
			check(name[:i])
			check(name[i:])
		}
	}
	check(strings.Repeat("iss", 1<<16))
}
