package rules_test

import (
	"slices"
	"strings"
	"testing"

	"chatelaine/api"
	"chatelaine/rules"
)

// numbers is a source of numbers without a short period.
type numbers uint32

func (n *numbers) below(bound int) int {
	x := uint32(*n)
	x ^= x << 13
	x ^= x >> 17
	x ^= x << 5
	*n = numbers(x)
	return int(x>>8) % bound
}

func (n *numbers) one(of []string) string { return of[n.below(len(of))] }

// Makers of nodes.
func text(s string) api.Node          { return api.Node{Op: api.OpText, Text: s} }
func number(n int) api.Node           { return api.Node{Op: api.OpInt, Int: n} }
func claim(s string) api.Node         { return api.Node{Op: api.OpClaim, Text: s} }
func has(s string) api.Node           { return api.Node{Op: api.OpHas, Text: s} }
func node(op int, of ...int) api.Node { return api.Node{Op: op, A: of[0], B: append(of, 0)[1]} }

func rule(name string, nodes ...api.Node) api.Rule { return api.Rule{Name: name, Expr: nodes} }
func denial(nodes ...api.Node) api.Rule            { return api.Rule{When: nodes} }

// equal is what Same must answer.
func equal(a, b []api.Rule) bool {
	if len(a) != len(b) {
		return false
	}
	for i := range a {
		if a[i].Name != b[i].Name || !equalNodes(a[i].Expr, b[i].Expr) || !equalNodes(a[i].When, b[i].When) {
			return false
		}
	}
	return true
}

func equalNodes(a, b []api.Node) bool {
	if len(a) != len(b) {
		return false
	}
	for i := range a {
		if a[i].Op != b[i].Op || a[i].Int != b[i].Int || a[i].A != b[i].A || a[i].B != b[i].B || a[i].Text != b[i].Text {
			return false
		}
	}
	return true
}

// spoil writes into all memory of rules.
func spoil(l []api.Rule) {
	for _, one := range l[:cap(l)] {
		for i := range one.Expr[:cap(one.Expr)] {
			one.Expr[:cap(one.Expr)][i] = text("spoilt")
		}
		for i := range one.When[:cap(one.When)] {
			one.When[:cap(one.When)][i] = text("spoilt")
		}
	}
	for i := range l[:cap(l)] {
		l[:cap(l)][i] = rule("spoilt")
	}
}

// different are lists of rules no two of which are the same, and most of which are not right.
func different() [][]api.Rule {
	l := [][]api.Rule{nil, {{}}, {{}, {}}, {rule("a")}, {rule("b")}, {rule("A")}, {rule("a ")}, {rule("a"), rule("b")}, {rule("b"), rule("a")}, {rule("a"), {}}, {rule("\xff")}}
	for _, n := range []api.Node{
		{}, number(0), number(1), number(-1), number(1 << 60), text(""), text("a"), text("\xff"), claim("a"), claim("b"), has("a"), {Op: 99}, {Op: -1}, {Op: 1 << 40},
		{Op: api.OpInt, A: 1}, {Op: api.OpInt, B: 1}, {Op: api.OpInt, Text: "a"}, {Op: api.OpText, Int: 1}, {A: 1}, {A: -1}, {B: 1}, {B: -1}, {Int: 1}, {Text: "a"}, {A: 1 << 32}, {B: 1 << 32},
	} {
		l = append(l, []api.Rule{rule("", n)}, []api.Rule{denial(n)}, []api.Rule{rule("a", n)}, []api.Rule{{Name: "a", When: []api.Node{n}}}, []api.Rule{{Expr: []api.Node{n}, When: []api.Node{n}}},
			[]api.Rule{rule("a", n, n)}, []api.Rule{rule("a", number(5), n)}, []api.Rule{rule("a", n, number(5))}, []api.Rule{rule("a", number(5)), rule("a", n)}, []api.Rule{denial(n, number(5))}, []api.Rule{denial(number(5), n)})
	}
	return l
}

func TestSameOfDifferentRules(t *testing.T) {
	l := different()
	for i, a := range l {
		for j, b := range l {
			if got := rules.Same(a, b); got != (i == j) {
				t.Errorf("P11.3: Same(%v, %v): %v", a, b, got)
			}
			if got := rules.Same(append(slices.Clone(a), rule("z")), append(slices.Clone(b), rule("z"))); got != (i == j) {
				t.Errorf("P11.3: Same(%v, %v) with one rule more: %v", a, b, got)
			}
			if got := rules.Same(append([]api.Rule{{}}, a...), append([]api.Rule{{}}, b...)); got != (i == j) {
				t.Errorf("P11.3: Same(%v, %v) with one rule ahead: %v", a, b, got)
			}
		}
	}
}

// An empty slice is equivalent to none (R3).
func TestSameOfEmptySlices(t *testing.T) {
	if !rules.Same(nil, []api.Rule{}) || !rules.Same([]api.Rule{}, nil) || !rules.Same(make([]api.Rule, 0, 4), []api.Rule{}) {
		t.Error("P11.3: no rules")
	}
	for _, name := range []string{"", "a"} {
		full := api.Rule{Name: name, Expr: []api.Node{}, When: make([]api.Node, 0, 4)}
		if !rules.Same([]api.Rule{{Name: name}}, []api.Rule{full}) || !rules.Same([]api.Rule{full, full}, []api.Rule{{Name: name}, full}) {
			t.Errorf("P11.3: no nodes of %q", name)
		}
	}
	empty := []api.Rule{{Name: "a", Expr: []api.Node{number(1)}, When: []api.Node{}}, {Expr: []api.Node{}, When: []api.Node{number(1)}}}
	if !rules.Right(empty) || !rules.Right([]api.Rule{}) || rules.Print(empty) != "a = 1; deny when 1" {
		t.Errorf("P11.3: empty slices: %q", rules.Print(empty))
	}
}

const wholeText = "mail = lower($email) else 'x' when has($email) and not 'y' in $groups; deny when starts($name, 'root') or $n < 5; mail = 1"

func whole() []api.Rule {
	return []api.Rule{
		{
			Name: "mail",
			Expr: []api.Node{claim("email"), node(api.OpLower, 0), text("x"), node(api.OpElse, 1, 2)},
			When: []api.Node{has("email"), text("y"), claim("groups"), node(api.OpIn, 1, 2), node(api.OpNot, 3), node(api.OpAnd, 0, 4)},
		},
		denial(claim("name"), text("root"), node(api.OpStarts, 0, 1), claim("n"), number(5), node(api.OpLess, 3, 4), node(api.OpOr, 2, 5)),
		rule("mail", number(1)),
	}
}

func TestArgumentsAreLeftAlone(t *testing.T) {
	l := whole()
	for size := range len(l) + 1 {
		rules.Print(l[:size])
		rules.Right(l[:size])
		rules.Same(l[:size], l)
		rules.Print([]api.Rule{{Name: "a", Expr: l[1].When[:size], When: l[0].When[:size]}})
		rules.Right([]api.Rule{denial(l[1].When[:size]...)})
	}
	if !equal(l, whole()) {
		t.Error("R5: an argument, or what lies behind it, was changed")
	}
}

func TestResultsBelongToCaller(t *testing.T) {
	one, _ := rules.Parse(wholeText)
	two, _ := rules.Parse(wholeText)
	spoil(one)
	three, e := rules.Parse(wholeText)
	if e != api.OK || !equal(two, whole()) || !equal(three, whole()) {
		t.Error("P11.1, R6: writing into what was parsed changes something else")
	}
	s := rules.Print(two)
	spoil(two)
	if s != wholeText {
		t.Errorf("P11.2, R6: what was printed changes with the rules: %q", s)
	}
}

// No two lists of one answer share memory: one may be written to, and appended to, without the others.
func TestListsOfOneResultAreSeparate(t *testing.T) {
	s := "a = 1 + 2 when 1 + 2; deny when 1 + 2; b = 1 + 2 when 1 + 2"
	want, _ := rules.Parse(s)
	lists := func(l []api.Rule) [][]api.Node {
		return [][]api.Node{l[0].Expr, l[0].When, l[1].When, l[2].Expr, l[2].When}
	}
	for i := range lists(want) {
		l, _ := rules.Parse(s)
		one := lists(l)[i]
		_ = append(one, text("spoilt"), text("spoilt"))
		for j := range one[:cap(one)] {
			one[:cap(one)][j] = text("spoilt")
		}
		for j, other := range lists(l) {
			if j != i && !equalNodes(other, lists(want)[j]) {
				t.Errorf("P11.1, R6: writing into list %d changes %d", i, j)
			}
		}
	}
}

func TestSameCallsHaveSameResults(t *testing.T) {
	for range 3 {
		for s, want := range map[string]api.Errno{
			"a =": api.ErrRulesForm, "a = " + strings.Repeat("(", 17): api.ErrRulesDeep, strings.Repeat("a = 1;", 17): api.ErrRulesMany, strings.Repeat("a", 5000): api.ErrRulesLong, wholeText + " 1": api.ErrRulesForm,
		} {
			if l, e := rules.Parse(s); e != want || len(l) != 0 {
				t.Errorf("P11.1: Parse(%.40q): %v, %d, want %d", s, l, e, want)
			}
		}
		if l, e := rules.Parse(wholeText); e != api.OK || !equal(l, whole()) {
			t.Errorf("R7: an error in between changes what is parsed: %v, %d", l, e)
		}
		if s := rules.Print([]api.Rule{rule("a", text(strings.Repeat("a", 5000)))}); s != "" {
			t.Errorf("P11.2: too long: %.40q", s)
		}
		if s := rules.Print(whole()); s != wholeText || !rules.Right(whole()) {
			t.Errorf("R7: an error in between changes what is printed: %q", s)
		}
	}
}
