package types_test

import (
	"math"
	"math/rand"
	"slices"
	"strings"
	"testing"

	"chatelaine/api"
	"chatelaine/rules"
	"chatelaine/types"
)

// checks holds Check of rules against the second implementation, and that error.
func checks(t *testing.T, want api.Errno, l ...api.Rule) {
	t.Helper()
	if e := types.Check(l, declared()); e != want || wantedCheck(l, declared()) != want {
		t.Errorf("P12.2: Check(%v): %d, want %d (the second implementation: %d)", l, e, want, wantedCheck(l, declared()))
	}
}

func nodes(l ...api.Node) []api.Node { return l }

// faults are expressions that make no sense, by their errors.
func faults() map[api.Errno][]api.Node {
	return map[api.Errno][]api.Node{api.ErrTypesName: nodes(claim("x")), api.ErrTypesKind: nodes(claim("none"))}
}

func TestCheckOfNoRules(t *testing.T) {
	checks(t, api.OK)
	for _, l := range [][]api.Rule{nil, {}} {
		if e := types.Check(l, nil); e != api.OK {
			t.Errorf("P12.2: no rules: %d", e)
		}
	}
}

func TestCheckOfRulesWithANameAlone(t *testing.T) {
	for _, n := range []api.Node{text("x"), number(1), claim("T"), claim("I"), claim("B"), claim("L"), has("none")} { // of any type
		checks(t, api.OK, api.Rule{Name: "a", Expr: nodes(n)})
	}
	for e, expr := range faults() {
		checks(t, e, api.Rule{Name: "a", Expr: expr})
		checks(t, e, api.Rule{Name: "a", Expr: expr, When: []api.Node{}})
	}
	checks(t, api.ErrTypesKind, api.Rule{Name: "a"})
	checks(t, api.ErrTypesKind, api.Rule{Name: "a", Expr: []api.Node{}})
	checks(t, api.ErrTypesKind, api.Rule{Name: "a", When: nodes(claim("B"))})
	checks(t, api.ErrTypesKind, api.Rule{Name: "a", When: nodes(claim("x"))})
}

func TestCheckOfConditions(t *testing.T) {
	for _, rule := range []api.Rule{{Name: "a", Expr: nodes(text("x"))}, {}, {Expr: nodes(text("x"))}, {Expr: nodes(claim("x"))}, {Expr: nodes(claim("none"))}} {
		for want, conditions := range map[api.Errno][][]api.Node{
			api.OK:           {nodes(claim("B")), nodes(has("T")), nodes(has("none")), nodes(number(1), number(2), node(api.OpLess, 0, 1)), nodes(text("x"), claim("B"))},
			api.ErrTypesName: {nodes(claim("x")), nodes(has("x")), nodes(claim("x"), claim("B"))},
			api.ErrTypesKind: {nodes(claim("T")), nodes(claim("I")), nodes(claim("L")), nodes(text("x")), nodes(number(1)), nodes(claim("none")), nodes(api.Node{}), nodes(node(api.OpNot, 0, 0)), nodes(claim("B"), text("x")), nodes(claim("none"), claim("B"))},
		} {
			for _, condition := range conditions {
				rule.When = condition
				checks(t, want, rule)
			}
		}
	}
	for _, rule := range []api.Rule{{}, {When: []api.Node{}}, {Expr: nodes(claim("B"))}, {Expr: nodes(text("x"))}} { // nobody's condition
		checks(t, api.ErrTypesKind, rule)
	}
}

// The expression's error goes ahead of the condition's.
func TestExpressionsGoAheadOfConditions(t *testing.T) {
	for e, expr := range faults() {
		for _, when := range faults() {
			checks(t, e, api.Rule{Name: "a", Expr: expr, When: when})
		}
		checks(t, e, api.Rule{Name: "a", Expr: expr, When: nodes(claim("B"))})
		checks(t, e, api.Rule{Name: "a", Expr: expr, When: nodes(claim("T"))})
		checks(t, api.ErrTypesKind, api.Rule{Name: "a", When: expr})
	}
}

func TestReservedNames(t *testing.T) {
	for _, name := range []string{"iss", "sub", "aud", "exp", "iat", "nbf", "nonce"} {
		checks(t, api.ErrTypesName, api.Rule{Name: name, Expr: nodes(text("x"))})
		checks(t, api.ErrTypesName, api.Rule{Name: name, Expr: nodes(text("x")), When: nodes(claim("B"))})
		checks(t, api.ErrTypesName, api.Rule{Name: name, Expr: nodes(claim("none"))})
		checks(t, api.ErrTypesName, api.Rule{Name: name, When: nodes(claim("T"))})
		checks(t, api.ErrTypesName, api.Rule{Name: name})
		for _, other := range []string{name + "x", "x" + name, name[1:], name[:len(name)-1], strings.ToUpper(name), " " + name, name + "\x00"} {
			checks(t, api.OK, api.Rule{Name: other, Expr: nodes(text("x"))})
		}
		fields := []api.Field{{Name: name, Type: api.TypeText}} // an upstream may make such a claim all the same
		if e := types.Check([]api.Rule{{Name: "a", Expr: nodes(claim(name))}}, fields); e != api.OK {
			t.Errorf("P12.2: the claim %s of an upstream: %d", name, e)
		}
	}
	for _, name := range []string{"a", "A", " ", "\x00", "when", "deny", "\xff", strings.Repeat("a", 5000)} { // whether it can be written is not asked here
		checks(t, api.OK, api.Rule{Name: name, Expr: nodes(text("x"))})
	}
}

func TestFirstRuleCounts(t *testing.T) {
	right, denial := api.Rule{Name: "a", Expr: nodes(claim("L"))}, api.Rule{When: nodes(claim("B"))}
	checks(t, api.OK, right, denial, right, right, denial)
	wrong := map[api.Errno][]api.Rule{
		api.ErrTypesName: {{Name: "sub", Expr: nodes(text("x"))}, {Name: "b", Expr: nodes(claim("x"))}, {When: nodes(has("x"))}, {Name: "b", Expr: nodes(text("x")), When: nodes(claim("x"))}},
		api.ErrTypesKind: {{}, {Name: "b"}, {When: nodes(text("x"))}, {Name: "b", Expr: nodes(text("x")), When: nodes(text("x"))}},
	}
	for e, l := range wrong {
		for _, one := range l {
			checks(t, e, one, right)
			checks(t, e, right, one)
			checks(t, e, right, denial, one, denial)
			for _, others := range wrong {
				for _, other := range others {
					checks(t, e, one, other)
					checks(t, e, denial, one, right, other)
				}
			}
		}
	}
}

// There may be more rules than those that are read at once.
func TestManyRules(t *testing.T) {
	for _, count := range []int{15, 16, 17, 1000} {
		var l []api.Rule
		for range count {
			l = append(l, api.Rule{Name: "a", Expr: nodes(claim("T"))})
		}
		checks(t, api.OK, l...)
		checks(t, api.ErrTypesName, append(l, api.Rule{When: nodes(claim("x"))})...)
		checks(t, api.ErrTypesKind, append(l, api.Rule{}, api.Rule{When: nodes(claim("x"))})...)
	}
}

func TestDrawnRules(t *testing.T) {
	p := pick{rand.New(rand.NewSource(2))}
	count := map[api.Errno]int{}
	for range 4000 {
		var l []api.Rule
		for range p.Intn(4) {
			rule := api.Rule{Name: "a", Expr: p.expression(t, p.Intn(6)), When: p.expression(t, p.Intn(6))}
			switch p.Intn(8) {
			case 0, 1:
				rule.Name = ""
			case 2:
				rule.When = nil
			case 3:
				rule.When = append(rule.When, has("T"))
			case 4:
				rule.Name, rule.When = "sub"[:p.Intn(4)], nil
			}
			l = append(l, rule)
		}
		e := types.Check(l, declared())
		if want := wantedCheck(l, declared()); e != want {
			t.Errorf("P12.2: Check(%v): %d, want %d", l, e, want)
		}
		count[e]++
	}
	if count[api.OK] < 100 || count[api.ErrTypesName] < 100 || count[api.ErrTypesKind] < 100 {
		t.Errorf("some results are rare: %v", count)
	}
}

// The document's examples.
func TestCheckOfReadRules(t *testing.T) {
	fields := []api.Field{{Name: "n", Type: api.TypeInt}, {Name: "g", Type: api.TypeTexts}}
	for s, want := range map[string]api.Errno{
		"a = first($g) when $n < 5": api.OK, "": api.OK, "a = $g; b = $n; deny when not 'x' in $g": api.OK, "deny when has($n) and has($g)": api.OK, "subject = 'x'": api.OK, "a = 1 when $n == 1; a = 2": api.OK,
		"a = $x": api.ErrTypesName, "a = lower($n)": api.ErrTypesKind, "a = 1 when 2": api.ErrTypesKind, "sub = 'x'": api.ErrTypesName, "deny when $g": api.ErrTypesKind, "deny when $x": api.ErrTypesName, "deny when has($x)": api.ErrTypesName,
		"a = $x; a = lower($n)": api.ErrTypesName, "a = lower($n); a = $x": api.ErrTypesKind, "a = 1; sub = lower($n)": api.ErrTypesName, "a = $n when $x": api.ErrTypesName, "a = $x when $n": api.ErrTypesName, "a = lower($n) when $x": api.ErrTypesKind,
	} {
		l, e := rules.Parse(s)
		if e != api.OK {
			t.Fatalf("%s: %d", s, e)
		}
		if got := types.Check(l, fields); got != want || wantedCheck(l, fields) != want {
			t.Errorf("P12.2: %s: %d, want %d", s, got, want)
		}
	}
}

func list(values ...api.Json) api.Json { return api.Json{Kind: api.JsonList, List: values} }

func one(kind int) api.Json { return api.Json{Kind: kind} }

// TestFits has values of each type, and of none.
func TestFits(t *testing.T) {
	word, many := one(api.JsonText), list()
	for range 1000 {
		many.List = append(many.List, word)
	}
	known := map[int][]api.Json{
		api.TypeText:  {word, {Kind: api.JsonText, Text: "x"}, {Kind: api.JsonText, Text: "\xff\x00"}, {Kind: api.JsonText, Bool: true, Int: 1, Names: []string{"a"}, List: values(word)}},
		api.TypeInt:   {one(api.JsonInt), {Kind: api.JsonInt, Int: -5}, {Kind: api.JsonInt, Int: math.MaxInt}, {Kind: api.JsonInt, Int: math.MinInt}, {Kind: api.JsonInt, Text: "x", Bool: true, List: values(word)}},
		api.TypeBool:  {one(api.JsonBool), {Kind: api.JsonBool, Bool: true}, {Kind: api.JsonBool, Text: "x", Int: 1, List: values(word)}},
		api.TypeTexts: {list(), {Kind: api.JsonList, List: []api.Json{}}, list(word), list(word, word), list(api.Json{Kind: api.JsonText, Text: "x"}, word), many, {Kind: api.JsonList, Text: "x", Int: 1, Bool: true}},
		0: {{}, {Text: "x", Int: 1, Bool: true, List: values(word)}, one(api.JsonObject), {Kind: api.JsonObject, Names: []string{"a"}, List: values(word)}, {Kind: api.JsonObject, List: values(word)}, one(-1), one(6), one(7), one(99), one(math.MinInt), one(1<<32 + api.JsonText),
			list(one(api.JsonNull)), list(one(api.JsonInt)), list(one(api.JsonBool)), list(list()), list(list(word)), list(one(api.JsonObject)), list(word, one(api.JsonInt)), list(one(api.JsonInt), word), list(word, one(api.JsonNull), word), list(word, list(word)), list(word, word, one(-3)), list(word, one(4), word), {Kind: api.JsonList, List: append(values(many.List...), one(api.JsonInt))}},
	}
	for is, l := range known {
		for _, v := range l {
			for _, asked := range []int{-2, -1, 0, 1, 2, 3, 4, 5, 6, 7, 99, math.MinInt, math.MaxInt, 1<<32 + 1, 1<<32 + 4} {
				if want := is != 0 && asked == is; types.Fits(v, asked) != want {
					t.Errorf("P12.3: Fits(%v, %d): %v", v, asked, !want)
				}
			}
		}
	}
}

func values(l ...api.Json) []api.Json { return slices.Clone(l) }

// One element that is no text, at each place of a list.
func TestFitsOfMixedLists(t *testing.T) {
	for size := 1; size <= 20; size++ {
		for at := range size {
			for kind := -1; kind <= 6; kind++ {
				v := list()
				for range size {
					v.List = append(v.List, one(api.JsonText))
				}
				v.List[at].Kind = kind
				if got := types.Fits(v, api.TypeTexts); got != (kind == api.JsonText) {
					t.Errorf("P12.3: a list of %d texts, but for one of kind %d at %d: %v", size, kind, at, got)
				}
				if v.List[at].Kind != kind || len(v.List) != size {
					t.Error("R5: Fits changed its argument")
				}
			}
		}
	}
}
