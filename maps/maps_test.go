package maps_test

import (
	"math/rand"
	"reflect"
	"slices"
	"strconv"
	"strings"
	"testing"

	"chatelaine/api"
	"chatelaine/json"
	"chatelaine/maps"
	"chatelaine/rules"
	"chatelaine/types"
)

// runs holds Run against the second implementation, and tells what it answers.
func runs(t *testing.T, l []api.Rule, v api.Json) (api.Json, api.Errno) {
	t.Helper()
	x, e := maps.Run(l, v)
	if want, f := wantedRun(l, v); !json.Same(x, want) || e != f {
		t.Errorf("P13.2: Run(%s, %s): %s, %d, want %s, %d", told(l), told(v), told(x), e, told(want), f)
	}
	return x, e
}

// makes holds what rules make, printed, against the second implementation, and against this.
func makes(t *testing.T, want string, v api.Json, l ...api.Rule) {
	t.Helper()
	x, e := runs(t, l, v)
	if s, ok := json.Print(x); e != api.OK || !ok || s != want {
		t.Errorf("P13.2: Run(%s, %s): %s, %d, want %s", told(l), told(v), s, e, told(want))
	}
}

func fails(t *testing.T, want api.Errno, v api.Json, l ...api.Rule) {
	t.Helper()
	if x, e := runs(t, l, v); e != want || !reflect.DeepEqual(x, api.Json{}) {
		t.Errorf("P13.2: Run(%s, %s): %s, %d, want %d", told(l), told(v), told(x), e, want)
	}
}

// gives is a rule without a condition.
func gives(name string, l ...api.Node) api.Rule { return api.Rule{Name: name, Expr: l} }

func denies(l ...api.Node) api.Rule { return api.Rule{When: l} }

func TestNoRules(t *testing.T) {
	for _, v := range []api.Json{{}, samples(), json.Text("x")} {
		makes(t, "{}", v)
		for _, l := range [][]api.Rule{nil, {}} {
			if x, e := maps.Run(l, v); e != api.OK || !json.Same(x, object()) {
				t.Errorf("P13.2: no rules: %v, %d", x, e)
			}
		}
	}
}

// Whatever has no value gives no claim; anything else does, of any type.
func TestValuesOfRules(t *testing.T) {
	for name, want := range map[string]string{
		"T": `{"a":"A@b"}`, "t": `{"a":""}`, "I": `{"a":5}`, "i": `{"a":-1}`, "B": `{"a":true}`, "b": `{"a":false}`, "L": `{"a":["x","A@b"]}`, "l": `{"a":[]}`, "-": "{}", "o": "{}", "m": "{}", "z": "{}",
	} {
		makes(t, want, samples(), gives("a", claim(name)))
		makes(t, want, samples(), api.Rule{Name: "a", Expr: nodes(claim(name)), When: []api.Node{}})
	}
	makes(t, "{}", samples(), gives("a"))
	makes(t, "{}", samples(), gives("a", node(api.OpNot, 0, 0)))
	makes(t, "{}", samples(), api.Rule{Name: "a", When: nodes(claim("B"))})
	makes(t, `{"a":"x"}`, api.Json{}, gives("a", text("x")))
	makes(t, `{"a":1}`, json.Text("x"), gives("a", number(1)), gives("b", claim("x")))
}

// conditions has some that hold, and some that don't, or have no value, or one that is no Bool.
func conditions() map[bool][][]api.Node {
	return map[bool][][]api.Node{
		true:  {nodes(claim("B")), nodes(has("T")), nodes(has("l")), nodes(claim("b"), node(api.OpNot, 0, 0)), nodes(claim("z"), claim("B")), nodes(claim("z"), claim("B"), node(api.OpOr, 0, 1))},
		false: {nodes(claim("b")), nodes(has("z")), nodes(has("m")), nodes(claim("z")), nodes(claim("T")), nodes(claim("t")), nodes(claim("I")), nodes(claim("L")), nodes(claim("l")), nodes(number(1)), nodes(text("true")), nodes(api.Node{}), nodes(api.Node{Op: 99}), nodes(node(api.OpNot, 0, 0)), nodes(claim("B"), claim("z")), nodes(claim("B"), text("x"))},
	}
}

func TestConditions(t *testing.T) {
	for holds, l := range conditions() {
		for _, when := range l {
			want := "{}"
			if holds {
				want = `{"a":1}`
			}
			makes(t, want, samples(), api.Rule{Name: "a", Expr: nodes(number(1)), When: when})
			makes(t, "{}", samples(), api.Rule{Name: "a", When: when})
			makes(t, "{}", samples(), api.Rule{Name: "sub", Expr: nodes(number(1)), When: when})
			for _, expr := range [][]api.Node{nil, nodes(claim("B")), nodes(claim("b")), nodes(claim("z"))} { // a denial's doesn't matter
				if denial := (api.Rule{Expr: expr, When: when}); holds {
					fails(t, api.ErrMapsDeny, samples(), denial)
				} else {
					makes(t, "{}", samples(), denial)
				}
			}
		}
	}
}

// A denial without a condition denies nobody.
func TestDenialsWithoutACondition(t *testing.T) {
	for _, denial := range []api.Rule{{}, {When: []api.Node{}}, {Expr: nodes(claim("B"))}, {Expr: nodes(text("x")), When: []api.Node{}}} {
		makes(t, "{}", samples(), denial)
		makes(t, `{"a":1,"b":2}`, samples(), gives("a", number(1)), denial, gives("b", number(2)))
	}
}

// A denial ends it, wherever it stands, and whatever the claims are.
func TestDenials(t *testing.T) {
	long := gives("c", text(strings.Repeat("x", 5000)))
	for count := range 6 {
		for at := range count + 1 {
			var l []api.Rule
			for i := range count {
				l = append(l, gives("a"+strconv.Itoa(i), number(i)))
			}
			l = slices.Insert(l, at, denies(claim("B")))
			fails(t, api.ErrMapsDeny, samples(), l...)
			fails(t, api.ErrMapsDeny, samples(), append(l, long)...)
			fails(t, api.ErrMapsDeny, samples(), append([]api.Rule{long, denies(claim("b")), denies()}, l...)...)
		}
	}
	makes(t, `{"a":1}`, samples(), denies(claim("b")), gives("a", number(1)), denies(claim("T")), denies(claim("z")))
}

// A claim stays at the place that it got first.
func TestPlacesOfClaims(t *testing.T) {
	v := samples()
	makes(t, `{"b":1,"a":2}`, v, gives("b", number(1)), gives("a", number(2)))
	makes(t, `{"a":3,"b":2}`, v, gives("a", number(1)), gives("b", number(2)), gives("a", number(3)))
	makes(t, `{"a":1,"b":3}`, v, gives("a", number(1)), gives("b", number(2)), gives("b", number(3)))
	makes(t, `{"a":"x","b":2,"c":["x","A@b"]}`, v, gives("a", number(1)), gives("b", claim("T")), gives("c", number(3)), gives("a", text("x")), gives("c", claim("L")), gives("b", number(2)))
	makes(t, `{"a":1,"b":2}`, v, gives("a", number(1)), gives("b", number(2)), gives("a", claim("z")), gives("b", claim("o"))) // no value takes none away
	makes(t, `{"b":2,"a":3}`, v, gives("a", claim("z")), gives("b", number(2)), gives("a", number(3)))
	makes(t, `{"a":1,"b":2}`, v, gives("a", number(1)), gives("b", number(2)), api.Rule{Name: "a", Expr: nodes(number(3)), When: nodes(claim("b"))})
	makes(t, `{"a":3,"b":2}`, v, gives("a", number(1)), gives("b", number(2)), api.Rule{Name: "a", Expr: nodes(number(3)), When: nodes(claim("B"))})
	makes(t, `{"T":1,"a":"A@b"}`, v, gives("T", number(1)), gives("a", claim("T"))) // what rules make is no claim of the upstream's
	makes(t, `{"x":1}`, v, gives("x", number(1)), gives("a", claim("x")))
}

func TestReservedNames(t *testing.T) {
	for _, name := range reserved() {
		v := object(name, "x")
		makes(t, "{}", v, gives(name, claim(name)))
		makes(t, `{"a":1,"b":2}`, v, gives("a", number(1)), gives(name, text("y")), gives("b", number(2)))
		makes(t, `{"a":"x"}`, v, gives("a", claim(name))) // an upstream's claim of that name may be asked for
		makes(t, "{}", v, gives(name, text(strings.Repeat("x", 5000))), gives(name, text("\xff")), gives(name, number(1<<53)))
		fails(t, api.ErrMapsDeny, v, gives(name, text("y")), denies(has(name)))
		for _, other := range []string{name + "x", "x" + name, name[1:], name[:len(name)-1], strings.ToUpper(name), " " + name} {
			makes(t, `{"`+other+`":1}`, v, gives(other, number(1)))
		}
	}
}

// The claims are as long as they are printed, names and all, at the end.
func TestLongClaims(t *testing.T) {
	for size := mostBytes - 3; size <= mostBytes+3; size++ {
		for _, c := range []struct {
			others string
			l      []api.Rule
		}{
			{`{"a":""}`, nil},
			{`{"a":"","b":12}`, []api.Rule{gives("b", number(12))}},
			{`{"a":"","b":"\u0001é\\"}`, []api.Rule{gives("b", text("\x01é\\"))}},
			{`{"a":"","b":["x"]}`, []api.Rule{gives("b", claim("g")), gives("iss", number(1))}},
			{`{"a":"","b":true,"long name":false}`, []api.Rule{gives("b", has("g")), gives("long name", has("z")), gives("c", claim("z"))}},
		} {
			filler := strings.Repeat("x", size-len(c.others))
			v := object("g", []string{"x"}, "f", filler)
			for _, l := range [][]api.Rule{append([]api.Rule{gives("a", text(filler))}, c.l...), append([]api.Rule{gives("a", claim("f"))}, c.l...)} {
				if size <= mostBytes {
					makes(t, strings.Replace(c.others, `""`, `"`+filler+`"`, 1), v, l...)
				} else {
					fails(t, api.ErrMapsLong, v, l...)
					makes(t, c.others, v, append(l, gives("a", text("")))...) // another rule may shorten them
				}
			}
		}
	}
}

// What can't be printed is no claim, be it long or short.
func TestClaimsThatAreNotRight(t *testing.T) {
	v := object("bytes", "\xff", "great", 1<<53, "list", list(json.Text("x"), json.Text("\xff")), "x", "x")
	for _, wrong := range []api.Rule{gives("\xff", number(1)), gives("a", text("\xff")), gives("a", number(1<<53)), gives("a", number(-1<<53)), gives("a", claim("bytes")), gives("a", claim("great")), gives("a", claim("list"))} {
		fails(t, api.ErrMapsLong, v, wrong)
		fails(t, api.ErrMapsLong, v, gives("b", number(1)), wrong, gives("c", number(1)))
		fails(t, api.ErrMapsDeny, v, wrong, denies(has("x")))
		if wrong.Name == "a" {
			makes(t, `{"a":1,"b":2}`, v, wrong, gives("b", number(2)), gives("a", number(1)))
			fails(t, api.ErrMapsLong, v, gives("a", number(1)), wrong)
		}
	}
	for _, name := range []string{"A", " ", "\x00", "when", "deny", "é", "\"", "\\", "names", strings.Repeat("a", 4000)} { // whether it can be written in a rule is not asked here
		printed, _ := json.Print(object(name, 1))
		makes(t, printed, v, gives(name, number(1)))
	}
	makes(t, `{"a":9007199254740991,"b":-9007199254740991}`, v, gives("a", number(1<<53-1)), gives("b", number(1-1<<53)))
}

// A claim has a value by its kind alone, and that's the whole of it: with fields that its kind does not use it is not right.
func TestClaimsWithFieldsOfOthers(t *testing.T) {
	for _, odd := range []api.Json{{Kind: api.JsonText, Text: "x", Int: 1}, {Kind: api.JsonInt, Int: 1, Text: "x"}, {Kind: api.JsonBool, Bool: true, Names: []string{"x"}}, {Kind: api.JsonList, List: words("x").List, Bool: true}, list(api.Json{Kind: api.JsonText, Text: "x", List: words("x").List})} {
		v := object("odd", odd)
		if x, ok := maps.Value(nodes(claim("odd")), v); !ok || !json.Same(x, odd) {
			t.Errorf("P13.1: the claim %v: %v, %v", odd, x, ok)
		}
		if x, ok := maps.Value(nodes(has("odd")), v); !ok || !json.Same(x, truth(true)) {
			t.Errorf("P13.1: has of the claim %v: %v, %v", odd, x, ok)
		}
		if x, e := maps.Run([]api.Rule{gives("a", claim("odd"))}, v); e != api.ErrMapsLong || !json.Same(x, api.Json{}) {
			t.Errorf("P13.2: the claim %v: %v, %d", odd, x, e)
		}
		if x, e := maps.Run([]api.Rule{denies(has("odd"))}, v); e != api.ErrMapsDeny || !json.Same(x, api.Json{}) {
			t.Errorf("P13.2: denied for the claim %v: %v, %d", odd, x, e)
		}
	}
}

// There may be more rules than those that are read at once.
func TestManyRules(t *testing.T) {
	for _, count := range []int{15, 16, 17, 300} {
		var l []api.Rule
		want := object()
		for i := range count {
			l = append(l, gives("a"+strconv.Itoa(i), number(i)))
			want.Names = append(want.Names, "a"+strconv.Itoa(i))
			want.List = append(want.List, json.Int(i))
		}
		if x, e := runs(t, l, api.Json{}); e != api.OK || !json.Same(x, want) {
			t.Errorf("P13.2: %d rules: %s, %d", count, told(x), e)
		}
		fails(t, api.ErrMapsDeny, samples(), append(l, denies(claim("B")))...)
	}
	var l []api.Rule
	for i := range 2000 {
		l = append(l, gives("a"+strconv.Itoa(i), number(i)))
	}
	fails(t, api.ErrMapsLong, api.Json{}, l...)
	for i := range l {
		l[i].Name = "a"
	}
	makes(t, `{"a":1999}`, api.Json{}, l...)
}

// The document's examples, and others, as texts.
func TestReadRules(t *testing.T) {
	for _, c := range []struct{ rules, claims, want string }{
		{"m = lower($e) + '!'", `{"e":"A"}`, `{"m":"a!"}`},
		{"m = tail($e) else 'none'", `{"e":"a"}`, `{"m":"none"}`},
		{"m = tail($e) else 'none'", `{"e":"a@b"}`, `{"m":"b"}`},
		{"deny when not 'x' in $g", `{"g":["y"]}`, "130"},
		{"deny when not 'x' in $g", `{"g":["y","x"]}`, "{}"},
		{"deny when not 'x' in $g", "{}", "{}"}, // of a list that isn't there it has no value
		{"deny when not has($g)", "{}", "130"},
		{"", `{"a":1}`, "{}"},
		{"a = $a; b = $b else 2; c = $c", `{"a":1,"b":null,"c":{}}`, `{"a":1,"b":2}`},
		{"a = 1; deny when $a == 1", `{"a":2}`, `{"a":1}`},
		{"a = 'x' when $n < 5; a = 'y' when not $n < 5; b = has($n)", `{"n":5}`, `{"a":"y","b":true}`},
		{"a = $g; b = first($g); a = 1; sub = 'x'", `{"g":["y","x"]}`, `{"a":1,"b":"y"}`},
		{"a = $z and $o; b = $z == 1", `{"o":true}`, `{"a":false}`},
	} {
		l, e := rules.Parse(c.rules)
		v, f := json.Parse(c.claims)
		if e != api.OK || f != api.OK {
			t.Fatalf("%s, %s: %d, %d", c.rules, c.claims, e, f)
		}
		x, e := runs(t, l, v)
		got, _ := json.Print(x)
		if e != api.OK {
			got = strconv.Itoa(int(e))
		}
		if got != c.want {
			t.Errorf("P13.2: %s, of %s: %s, want %s", c.rules, c.claims, got, c.want)
		}
	}
}

// rules draws a few, of few names.
func (p pick) rules(v api.Json) []api.Rule {
	var l []api.Rule
	for range p.Intn(7) {
		rule := api.Rule{Name: []string{"a", "b", "c", "d", "sub", "\xff"}[min(p.Intn(24)/4, p.Intn(6))], Expr: p.expression(v, p.Intn(6)), When: p.expression(v, p.Intn(6))}
		switch p.Intn(8) {
		case 0:
			rule.Name = ""
		case 1, 2, 3:
			rule.When = nil
		case 4, 5:
			rule.When = append(rule.When, has("T"))
		}
		l = append(l, rule)
	}
	return l
}

func TestDrawnRules(t *testing.T) {
	p := pick{rand.New(rand.NewSource(3))}
	count := map[api.Errno]int{}
	sizes := map[int]int{}
	for range 10000 {
		v := p.claims()
		x, e := runs(t, p.rules(v), v)
		count[e]++
		sizes[len(x.Names)]++
	}
	if count[api.OK] < 500 || count[api.ErrMapsDeny] < 500 || count[api.ErrMapsLong] < 200 || sizes[1] < 200 || sizes[2] < 200 || sizes[3] < 200 {
		t.Errorf("some results are rare: %v, %v", count, sizes)
	}
}

func copiedRules(l []api.Rule) []api.Rule {
	l = slices.Clone(l)
	for i := range l {
		l[i].Expr, l[i].When = slices.Clone(l[i].Expr), slices.Clone(l[i].When)
	}
	return l
}

func TestRunSharesNothing(t *testing.T) {
	p := pick{rand.New(rand.NewSource(7))}
	for range 2000 {
		v := p.claims()
		l := append(p.rules(v), gives("a", claim("L")), gives("b", claim("L")))
		before, rulesBefore := copied(v), copiedRules(l)
		x, e := maps.Run(l, v)
		if !reflect.DeepEqual(v, before) || !reflect.DeepEqual(l, rulesBefore) {
			t.Fatalf("R5: Run changed its arguments: %v, %v", l, v)
		}
		first := copied(x)
		for i := range x.List { // no two lists of it share memory
			spoil(x.List[i])
			for j := i + 1; j < len(x.List); j++ {
				if !json.Same(x.List[j], first.List[j]) {
					t.Fatalf("R6: the claims %d and %d share memory: %v", i, j, l)
				}
			}
		}
		spoil(x)
		if !reflect.DeepEqual(v, before) || !reflect.DeepEqual(l, rulesBefore) {
			t.Fatalf("R6: writing into what Run answered changed its arguments: %v, %v", l, v)
		}
		again, f := maps.Run(l, v)
		if f != e || !json.Same(again, first) {
			t.Errorf("R7: Run(%v): %v, %d, and then %v, %d", l, first, e, again, f)
		}
		spoil(v)
		if !json.Same(again, first) {
			t.Errorf("R6: what Run answered changes with its argument: %v", l)
		}
	}
}

// fields are declared of what claims has of each type.
func fields() []api.Field {
	return []api.Field{{Name: "T", Type: api.TypeText}, {Name: "I", Type: api.TypeInt}, {Name: "B", Type: api.TypeBool}, {Name: "L", Type: api.TypeTexts}}
}

// mayLack tells whether a node may have no value, although its operands have one.
func mayLack(n api.Node) bool {
	return n.Op == api.OpFirst || n.Op == api.OpHead || n.Op == api.OpTail || n.Op == api.OpJoin
}

// What makes sense has a value of its type, but where there's nothing to be taken, or too much to be joined.
func TestCheckedExpressionsHaveValues(t *testing.T) {
	p := pick{rand.New(rand.NewSource(8))}
	count, lacking := map[int]int{}, 0
	for range 20000 {
		v := object("T", p.text(), "I", p.Intn(5)-2, "B", p.Intn(2) == 0, "L", p.texts())
		var l []api.Node
		for len(l) < 1+p.Intn(12) {
			n := p.node(len(l))
			if _, e := types.Of(append(l, n), fields()); e == api.OK {
				l = append(l, n)
			}
		}
		made, _ := types.Of(l, fields())
		x, ok := check(t, l, v)
		switch {
		case ok && !types.Fits(x, made):
			t.Errorf("P13.3: Value(%v, %v): %v, which is not of the type %d", l, v, x, made)
		case !ok && !slices.ContainsFunc(l, mayLack):
			t.Errorf("P13.3: Value(%v, %v): none, of the type %d", l, v, made)
		case !ok:
			lacking++
		}
		count[made]++
		if e := types.Check([]api.Rule{gives("a", l...)}, fields()); e != api.OK {
			t.Fatalf("P12.2: %v: %d", l, e)
		}
		if made, _ := runs(t, []api.Rule{gives("a", l...)}, v); ok != (len(made.Names) > 0) && json.Right(object("a", x)) {
			t.Errorf("P13.3: Run of %v, %v: %v", l, v, made)
		}
	}
	if count[1] < 1000 || count[2] < 1000 || count[3] < 1000 || count[4] < 200 || lacking < 100 {
		t.Errorf("some results are rare: %v, %d", count, lacking)
	}
}

// named are the claims that rules name.
func named(l []api.Rule) []string {
	var found []string
	for _, rule := range l {
		for _, n := range slices.Concat(rule.Expr, rule.When) {
			if n.Op == api.OpClaim || n.Op == api.OpHas {
				found = append(found, n.Text)
			}
		}
	}
	return found
}

// Claims that no rule names may be there or not, be anything, and stand anywhere.
func TestOtherClaimsDoNotMatter(t *testing.T) {
	p := pick{rand.New(rand.NewSource(9))}
	changed := 0
	for range 5000 {
		v := p.claims()
		l := p.rules(v)
		kept := object()
		for i, name := range v.Names {
			for range p.Intn(3) {
				if other := p.name(); !slices.Contains(named(l), other) {
					kept.Names, kept.List = append(kept.Names, other), append(kept.List, p.value())
				}
			}
			if slices.Contains(named(l), name) {
				kept.Names, kept.List = append(kept.Names, name), append(kept.List, v.List[i])
			}
		}
		x, e := runs(t, l, v)
		if y, f := runs(t, l, kept); f != e || !json.Same(x, y) {
			t.Errorf("P13.4: Run(%v): %v, %d of %v, and %v, %d of %v", l, x, e, v, y, f, kept)
		}
		if !json.Same(v, kept) {
			changed++
		}
	}
	if changed < 1000 {
		t.Errorf("few claims are changed: %d", changed)
	}
}
