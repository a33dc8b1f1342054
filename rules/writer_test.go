package rules_test

import (
	"slices"
	"strings"
	"testing"

	"chatelaine/api"
	"chatelaine/rules"
)

// printsAs tells whether rules have that text, and are right if the second reader finds them in it.
func printsAs(t *testing.T, l []api.Rule, want string) bool {
	t.Helper()
	again, e := wanted(want)
	right := e == api.OK && equal(again, l)
	if got := rules.Right(l); got != right {
		t.Errorf("P11.3: Right(%v): %v", l, got)
	}
	if got := rules.Print(l); got != want {
		t.Errorf("P11.2: Print(%v): %q, want %q", l, got, want)
	}
	return right
}

// checkPrint holds Print of rules against the second printer, and tells whether they are right.
func checkPrint(t *testing.T, l []api.Rule) bool {
	t.Helper()
	return printsAs(t, l, printed(l))
}

func TestPrintOfKnownRules(t *testing.T) {
	a, b, c := claim("a"), claim("b"), claim("c")
	for s, l := range map[string][]api.Rule{
		"":                                    {},
		"a = 1":                               {rule("a", number(1))},
		"deny when $a":                        {denial(a)},
		"a = 1 when $a":                       {{Name: "a", Expr: []api.Node{number(1)}, When: []api.Node{a}}},
		"a = 1; b = 2; deny when $c":          {rule("a", number(1)), rule("b", number(2)), denial(c)},
		"a = 'it\\'s \\\\ \" x'":              {rule("a", text(`it's \ " x`))},
		"a = ''":                              {rule("a", text(""))},
		"a = 9007199254740991":                {rule("a", number(mostInt))},
		"a = has($when)":                      {rule("a", has("when"))},
		"a = lower($a)":                       {rule("a", a, node(api.OpLower, 0))},
		"a = first($a)":                       {rule("a", a, node(api.OpFirst, 0))},
		"a = head($a)":                        {rule("a", a, node(api.OpHead, 0))},
		"a = tail($a)":                        {rule("a", a, node(api.OpTail, 0))},
		"a = starts($a, $b)":                  {rule("a", a, b, node(api.OpStarts, 0, 1))},
		"a = starts($a or $b, not $c)":        {rule("a", a, b, node(api.OpOr, 0, 1), c, node(api.OpNot, 3), node(api.OpStarts, 2, 4))},
		"a = lower($a or $b)":                 {rule("a", a, b, node(api.OpOr, 0, 1), node(api.OpLower, 2))},
		"a = $a + $b":                         {rule("a", a, b, node(api.OpJoin, 0, 1))},
		"a = $a == $b":                        {rule("a", a, b, node(api.OpEqual, 0, 1))},
		"a = $a < $b":                         {rule("a", a, b, node(api.OpLess, 0, 1))},
		"a = $a in $b":                        {rule("a", a, b, node(api.OpIn, 0, 1))},
		"a = $a and $b":                       {rule("a", a, b, node(api.OpAnd, 0, 1))},
		"a = $a or $b":                        {rule("a", a, b, node(api.OpOr, 0, 1))},
		"a = $a else $b":                      {rule("a", a, b, node(api.OpElse, 0, 1))},
		"a = not not $a":                      {rule("a", a, node(api.OpNot, 0), node(api.OpNot, 1))},
		"a = not ($a and $b) or not $c == $a": {rule("a", a, b, node(api.OpAnd, 0, 1), node(api.OpNot, 2), c, a, node(api.OpEqual, 4, 5), node(api.OpNot, 6), node(api.OpOr, 3, 7))},
		wholeText:                             whole(),
	} {
		if !printsAs(t, l, s) {
			t.Errorf("P11.3: not right: %q", s)
		}
		checkPrint(t, l)
	}
}

func TestPrintOfRulesThatAreNotRight(t *testing.T) {
	a, b := claim("a"), claim("b")
	for _, c := range []struct {
		want string
		l    []api.Rule
	}{
		{"deny when $a", []api.Rule{{Expr: []api.Node{b}, When: []api.Node{a}}}},
		{"a = ?", []api.Rule{rule("a", api.Node{})}}, {"a = ?", []api.Rule{rule("a", api.Node{Op: 99})}}, {"a = ?", []api.Rule{rule("a", api.Node{Op: 18})}}, {"a = ?", []api.Rule{rule("a", api.Node{Op: -1})}}, {"a = ?", []api.Rule{rule("a", a, api.Node{Op: 1 << 32})}}, {"a = ?", []api.Rule{rule("a", api.Node{Op: 1<<32 + 3, Text: "a"})}},
		{"a = $a", []api.Rule{rule("a", a, a)}}, {"a = $a", []api.Rule{rule("a", b, a)}}, {"a = $b", []api.Rule{rule("a", api.Node{}, b)}}, {"a = lower($a)", []api.Rule{rule("a", a, b, node(api.OpLower, 0))}}, {"a = $a + $a", []api.Rule{rule("a", a, node(api.OpJoin, 0, 0))}}, {"a = $b + $a", []api.Rule{rule("a", a, b, node(api.OpJoin, 1, 0))}},
		{"a = lower(?)", []api.Rule{rule("a", api.Node{}, node(api.OpLower, 0))}}, {"a = not (?)", []api.Rule{rule("a", node(api.OpOr, 1, 2), node(api.OpNot, 0))}}, {"a = (?) + (?)", []api.Rule{rule("a", node(api.OpOr, 0, 0), node(api.OpNot, 7), node(api.OpJoin, 0, 1))}}, {"a = (? or ?) + ?", []api.Rule{rule("a", api.Node{}, node(api.OpOr, 0, 0), node(api.OpJoin, 1, 0))}},
		{"a = -1", []api.Rule{rule("a", number(-1))}}, {"a = 9007199254740992", []api.Rule{rule("a", number(mostInt+1))}}, {"a = -9223372036854775808", []api.Rule{rule("a", number(-1<<63))}}, {"a = 9223372036854775807", []api.Rule{rule("a", number(1<<63-1))}},
		{"a = '\n\xff\x7f'", []api.Rule{rule("a", text("\n\xff\x7f"))}}, {"a = $", []api.Rule{rule("a", claim(""))}}, {"a = $A b", []api.Rule{rule("a", claim("A b"))}}, {"a = has($)", []api.Rule{rule("a", has(""))}}, {"a = has($a))", []api.Rule{rule("a", has("a)"))}}, {"a = $a + $b", []api.Rule{rule("a", claim("a + $b"))}},
		{"a = $" + strings.Repeat("a", 33), []api.Rule{rule("a", claim(strings.Repeat("a", 33)))}}, {strings.Repeat("a", 33) + " = 1", []api.Rule{rule(strings.Repeat("a", 33), number(1))}},
		{"A = 1", []api.Rule{rule("A", number(1))}}, {"deny = 1", []api.Rule{rule("deny", number(1))}}, {"when = 1", []api.Rule{rule("when", number(1))}}, {"a  = 1", []api.Rule{rule("a ", number(1))}}, {"a = 1; b = 1", []api.Rule{rule("a = 1; b", number(1))}},
	} {
		if printsAs(t, c.l, c.want) {
			t.Errorf("P11.3: right: %v", c.l)
		}
		checkPrint(t, c.l)
	}
}

// Where an expression has no nodes, nothing stands.
func TestPrintOfExpressionsWithoutNodes(t *testing.T) {
	a, one := claim("a"), rule("b", number(1))
	for _, c := range []struct {
		want string
		l    []api.Rule
	}{
		{"deny when ", []api.Rule{{}}}, {"deny when ", []api.Rule{denial()}}, {"deny when ", []api.Rule{{Expr: []api.Node{}, When: []api.Node{}}}}, {"deny when ", []api.Rule{rule("", a)}}, {"deny when ", []api.Rule{{When: make([]api.Node, 0, 4)}}},
		{"a = ", []api.Rule{rule("a")}}, {"a = ", []api.Rule{{Name: "a", Expr: []api.Node{}, When: []api.Node{}}}}, {"a =  when $a", []api.Rule{{Name: "a", When: []api.Node{a}}}}, {"a = $a", []api.Rule{rule("a", a)}},
		{"deny when ; deny when ", []api.Rule{{}, {}}}, {"a = ; a = ", []api.Rule{rule("a"), rule("a")}}, {"deny when ; a = ", []api.Rule{{}, rule("a")}}, {"a = ; deny when ", []api.Rule{rule("a"), {}}},
		{"b = 1; deny when ", []api.Rule{one, {}}}, {"deny when ; b = 1", []api.Rule{{}, one}}, {"b = 1; a = ", []api.Rule{one, rule("a")}}, {"a = ; b = 1", []api.Rule{rule("a"), one}}, {"b = 1; a = ; b = 1", []api.Rule{one, rule("a"), one}},
		{"deny when ?", []api.Rule{denial(api.Node{})}}, {"a = ? when ?", []api.Rule{{Name: "a", Expr: []api.Node{{}}, When: []api.Node{{}}}}},
	} {
		if right := printsAs(t, c.l, c.want); right != (c.want == "a = $a") {
			t.Errorf("P11.3: %v is right: %v", c.l, right)
		}
		checkPrint(t, c.l)
	}
	for size, want := range map[int]string{4093: strings.Repeat("x", 4093) + " = ", 4094: ""} {
		if l := []api.Rule{rule(strings.Repeat("x", size))}; printsAs(t, l, want) {
			t.Errorf("P11.3: right: a name of %d bytes without an expression", size)
		}
	}
}

// Operands that are not ahead of their node, at each place.
func TestOperandsThatAreNotAhead(t *testing.T) {
	two := []int{api.OpJoin, api.OpEqual, api.OpLess, api.OpIn, api.OpAnd, api.OpOr, api.OpElse, api.OpStarts}
	one := []int{api.OpLower, api.OpFirst, api.OpHead, api.OpTail, api.OpNot}
	none := []int{api.OpText, api.OpInt, api.OpClaim, api.OpHas}
	for _, ahead := range [][]api.Node{nil, {number(1)}, {number(1), number(2)}, {number(1), {}, number(2)}} {
		for _, a := range []int{-1 << 63, -1 << 32, -2, -1, 0, 1, 2, 3, 4, 1 << 32, 1<<63 - 1} {
			for _, b := range []int{-1 << 63, -1 << 32, -2, -1, 0, 1, 2, 3, 4, 1 << 32, 1<<63 - 1} {
				wrongA, wrongB := a < 0 || a >= len(ahead), b < 0 || b >= len(ahead)
				for op := -1; op < 20; op++ {
					nodes := append(slices.Clone(ahead), api.Node{Op: op, A: a, B: b})
					s := rules.Print([]api.Rule{rule("a", nodes...)})
					isTwo, isOne, isNone := slices.Contains(two, op), slices.Contains(one, op), slices.Contains(none, op)
					if unknown := isTwo && (wrongA || wrongB) || isOne && wrongA || !isTwo && !isOne && !isNone; unknown != (s == "a = ?") {
						t.Errorf("P11.2: %v: %q", nodes, s)
					}
					checkPrint(t, []api.Rule{rule("a", nodes...)})
					checkPrint(t, []api.Rule{denial(append(nodes, node(api.OpNot, len(ahead)))...)})
				}
			}
		}
	}
}

// operations are one of each operator and function, over $a and $b, with their precedences.
var operations = []struct {
	op, own, left, right   int
	ahead, between, behind string
}{
	{api.OpOr, 1, 1, 2, "", " or ", ""}, {api.OpAnd, 2, 2, 3, "", " and ", ""}, {api.OpNot, 3, 3, 0, "not ", "", ""}, {api.OpEqual, 4, 5, 5, "", " == ", ""}, {api.OpLess, 4, 5, 5, "", " < ", ""}, {api.OpIn, 4, 5, 5, "", " in ", ""},
	{api.OpJoin, 5, 5, 6, "", " + ", ""}, {api.OpElse, 6, 6, 7, "", " else ", ""}, {api.OpLower, 7, 0, 0, "lower(", "", ")"}, {api.OpFirst, 7, 0, 0, "first(", "", ")"}, {api.OpHead, 7, 0, 0, "head(", "", ")"}, {api.OpTail, 7, 0, 0, "tail(", "", ")"}, {api.OpStarts, 7, 0, 0, "starts(", ", ", ")"},
}

// around is an operand, in parentheses if its precedence is lower than required.
func around(s string, own, required int) string {
	if own < required {
		return "(" + s + ")"
	}
	return s
}

// Each operation as an operand of each other one, on both sides.
func TestParentheses(t *testing.T) {
	for _, inner := range operations {
		for _, outer := range operations {
			nodes := []api.Node{claim("a")}
			s := inner.ahead + "$a" + inner.behind
			if inner.between == "" {
				nodes = append(nodes, node(inner.op, 0))
			} else {
				nodes = append(nodes, claim("b"), node(inner.op, 0, 1))
				s = inner.ahead + "$a" + inner.between + "$b" + inner.behind
			}
			last := len(nodes) - 1
			left := outer.ahead + around(s, inner.own, outer.left) + outer.behind
			if outer.between == "" {
				if !printsAs(t, []api.Rule{rule("a", append(nodes, node(outer.op, last))...)}, "a = "+left) {
					t.Errorf("P11.3: not right: %q", left)
				}
				continue
			}
			left = outer.ahead + around(s, inner.own, outer.left) + outer.between + "$c" + outer.behind
			right := outer.ahead + "$c" + outer.between + around(s, inner.own, outer.right) + outer.behind
			if !printsAs(t, []api.Rule{rule("a", append(slices.Clone(nodes), claim("c"), node(outer.op, last, last+1))...)}, "a = "+left) {
				t.Errorf("P11.3: not right: %q", left)
			}
			moved := []api.Node{claim("c")}
			for _, n := range nodes {
				if n.Op > api.OpHas {
					n.A++
				}
				if n.Op > api.OpHas && inner.between != "" {
					n.B++
				}
				moved = append(moved, n)
			}
			if !printsAs(t, []api.Rule{denial(append(moved, node(outer.op, 0, last+1))...)}, "deny when "+right) {
				t.Errorf("P11.3: not right: %q", right)
			}
		}
	}
}

// unknown are nodes that are printed as "?" behind one other node, with their precedences: one operand or both are not ahead, or there is no such Op.
func unknown() map[api.Node]int {
	l := map[api.Node]int{}
	for _, one := range operations {
		for _, wrong := range []int{-1 << 63, -1, 1, 2, 3, 99, 1<<63 - 1} {
			l[node(one.op, wrong, wrong)] = one.own
			l[node(one.op, wrong, 0)] = one.own
			if one.between != "" {
				l[node(one.op, 0, wrong)] = one.own
			}
		}
	}
	for _, op := range []int{0, -1, 18, 99, 1 << 32, 1<<32 + api.OpOr} {
		l[node(op, 0, 0)] = 7
		l[node(op, -1, 9)] = 7
	}
	return l
}

// What is printed as "?", as an operand of each operation, on both sides: its Op alone says whether it is in parentheses.
func TestParenthesesOfUnknownNodes(t *testing.T) {
	for inner, own := range unknown() {
		if printsAs(t, []api.Rule{rule("a", claim("c"), inner)}, "a = ?") {
			t.Errorf("P11.3: right: %v", inner)
		}
		for _, outer := range operations {
			left := outer.ahead + around("?", own, outer.left) + outer.between + "$c" + outer.behind
			right := outer.ahead + "$c" + outer.between + around("?", own, outer.right) + outer.behind
			if outer.between == "" {
				left = outer.ahead + around("?", own, outer.left) + outer.behind
				right = outer.ahead + "$c" + outer.behind
			}
			onLeft := []api.Node{claim("c"), inner, node(outer.op, 1, 0)}
			onRight := []api.Node{claim("c"), inner, node(outer.op, 0, 1)}
			if printsAs(t, []api.Rule{rule("a", onLeft...)}, "a = "+left) || printsAs(t, []api.Rule{denial(onRight...)}, "deny when "+right) {
				t.Errorf("P11.3: right: %v in %v", inner, outer)
			}
			checkPrint(t, []api.Rule{{Name: "a", Expr: onRight, When: onLeft}})
		}
	}
}

// Each operation inside 64 others, of which the innermost is each operation: its Op alone says whether it is in parentheses.
func TestParenthesesOfNodesThatAreTooDeep(t *testing.T) {
	for _, inner := range operations {
		for _, outer := range operations {
			nodes := []api.Node{claim("c"), node(inner.op, 0, 0), node(outer.op, 1, 1)}
			want := outer.ahead + around("?", inner.own, outer.left) + outer.between + around("?", inner.own, outer.right) + outer.behind
			if outer.between == "" {
				want = outer.ahead + around("?", inner.own, outer.left) + outer.behind
			}
			for i := range 63 {
				nodes = append(nodes, node(api.OpHead, i+2))
				want = "head(" + want + ")"
			}
			printsAs(t, []api.Rule{rule("a", nodes...)}, "a = "+want)
			checkPrint(t, []api.Rule{rule("a", nodes...)})
		}
	}
	for _, leaf := range []api.Node{text("x"), number(1), claim("x"), has("x"), {}, {Op: 99}} {
		nodes := []api.Node{leaf}
		for i := range 64 {
			nodes = append(nodes, node(api.OpElse, i, i))
			nodes[i+1].B = 0
		}
		if s := rules.Print([]api.Rule{denial(nodes...)}); !strings.HasPrefix(s, "deny when ? else ") || strings.Contains(s, "(?") {
			t.Errorf("P11.2: %v inside 64 others: %q", leaf, s)
		}
	}
}

// Nodes that are inside 64 others.
func TestNodesThatAreTooDeep(t *testing.T) {
	for _, one := range operations {
		for _, side := range []int{0, 1} {
			for levels := 60; levels < 70; levels++ {
				nodes := []api.Node{claim("x")}
				for i := range levels {
					nodes = append(nodes, node(one.op, i, i))
					if one.between != "" && i > 0 && side == 0 {
						nodes[i+1].B = 0
					}
					if one.between != "" && i > 0 && side == 1 {
						nodes[i+1].A = 0
					}
				}
				checkPrint(t, []api.Rule{rule("a", nodes...)})
				deep := strings.Contains(rules.Print([]api.Rule{rule("a", nodes...)}), "?")
				if deep != (levels >= 64) {
					t.Errorf("P11.2: %d levels of %s%s: %v", levels, one.ahead, one.between, deep)
				}
			}
		}
	}
	for levels, want := range map[int]string{63: strings.Repeat("not ", 63) + "$x", 64: strings.Repeat("not ", 64) + "?", 65: strings.Repeat("not ", 64) + "?"} {
		nodes := []api.Node{claim("x")}
		for i := range levels {
			nodes = append(nodes, node(api.OpNot, i))
		}
		if printsAs(t, []api.Rule{denial(nodes...)}, "deny when "+want) {
			t.Errorf("P11.3: %d levels are right", levels)
		}
	}
}

func TestPrintOfLongRules(t *testing.T) {
	for size := 4080; size < 4110; size++ {
		for _, ahead := range [][]api.Rule{nil, {rule("b", number(1))}, {denial(claim("a"))}} {
			base := len(rules.Print(ahead))
			if base > 0 {
				base += len("; ")
			}
			fill := func(other int) string { return strings.Repeat("x", size-base-other) }
			for _, l := range [][]api.Rule{
				{rule("a", text(fill(6)))}, {rule("a", claim(fill(5)))}, {rule("a", has(fill(10)))}, {rule(fill(4), number(1))}, {denial(text(fill(12)))}, {{Name: "a", Expr: []api.Node{number(1)}, When: []api.Node{text(fill(13))}}},
				{rule("a", text(fill(11)), number(1), node(api.OpEqual, 0, 1))}, {rule("a", text(fill(13)), node(api.OpLower, 0))}, {rule("a", text(fill(10)), node(api.OpNot, 0))}, {rule("a", text(fill(21)), text(""), node(api.OpOr, 0, 1), node(api.OpElse, 2, 1))}, {rule("a", text(strings.Repeat("'", 30)+fill(66)))},
				{rule("a", text(fill(13))), denial(number(1))}, {rule("a", text(fill(7)), api.Node{})},
			} {
				all := append(slices.Clone(ahead), l...)
				s := rules.Print(all)
				checkPrint(t, all)
				if full := size > 4096; full && s != "" && len(s) > 100 {
					t.Errorf("P11.2: %d bytes are printed", len(s))
				}
			}
		}
	}
	s := rules.Print([]api.Rule{rule("a", text(strings.Repeat("x", 4090)))})
	if len(s) != 4096 || !rules.Right([]api.Rule{rule("a", text(strings.Repeat("x", 4090)))}) {
		t.Errorf("P11.2: 4096 bytes: %d are printed", len(s))
	}
	if s := rules.Print([]api.Rule{rule("a", text(strings.Repeat("x", 4091)))}); s != "" {
		t.Errorf("P11.2: 4097 bytes: %d are printed", len(s))
	}
}

// Of nodes that are operands many times over, and of very many rules, Print doesn't go through all.
func TestPrintOfWhatIsFarTooLong(t *testing.T) {
	for _, one := range operations {
		nodes := []api.Node{number(1)}
		for i := range 200 {
			nodes = append(nodes, node(one.op, i, i))
		}
		checkPrint(t, []api.Rule{rule("a", nodes...)})
		checkPrint(t, []api.Rule{{Name: "a", Expr: nodes, When: nodes}})
		if s := rules.Print(slices.Repeat([]api.Rule{rule("a", nodes...)}, 1000)); s != "" {
			t.Errorf("P11.2: %d bytes are printed", len(s))
		}
	}
	for _, l := range [][]api.Rule{slices.Repeat([]api.Rule{{}}, 1<<20), slices.Repeat([]api.Rule{rule(strings.Repeat("a", 1<<20), text(strings.Repeat("'", 1<<20)))}, 1<<16)} {
		if s := rules.Print(l); s != "" || rules.Right(l) {
			t.Errorf("P11.2: %d bytes are printed", len(s))
		}
	}
	if l := slices.Repeat([]api.Rule{rule("a", number(1))}, 16); !checkPrint(t, l) || checkPrint(t, append(l, l[0])) {
		t.Error("P11.3: 16 rules are right, 17 are not")
	}
}

// nodes are some, most of which have their operands ahead of them.
func (n *numbers) nodes(most int) []api.Node {
	var l []api.Node
	for i := range 1 + n.below(most) {
		one := api.Node{Op: 1 + n.below(17)}
		if i == 0 || n.below(most/4) == 0 {
			one.Op = 1 + n.below(4)
		}
		switch one.Op {
		case api.OpText:
			one.Text = n.one([]string{"", "x", "it's", `\`, "a or b"})
		case api.OpInt:
			one.Int = n.below(30)
		case api.OpClaim, api.OpHas:
			one.Text = n.one([]string{"a", "when", "b_1"})
		default:
			one.A, one.B = max(0, i-1-n.below(3)), max(0, i-1-n.below(3))
		}
		if n.below(40) == 0 {
			one.Op, one.A, one.B = n.below(20)-1, n.below(most+2)-1, n.below(most+2)-1
		}
		l = append(l, one)
	}
	return l
}

func TestPrintOfManyNodes(t *testing.T) {
	n := numbers(13)
	long := 0
	for range 60000 {
		var l []api.Rule
		for range n.below(4) {
			one := api.Rule{Name: n.one([]string{"", "a", "b_1"}), When: n.nodes(12)}
			if one.Name != "" {
				one.Expr = n.nodes(24 + 30*n.below(2))
			}
			l = append(l, one)
		}
		checkPrint(t, l)
		if len(l) > 0 && rules.Print(l) == "" {
			long++
		}
	}
	if long < 10 || long > 30000 {
		t.Errorf("%d are too long", long)
	}
}

// Rules that were read, and one field of them is another: they are right only if that's read as well.
func TestRightOfChangedRules(t *testing.T) {
	n := numbers(17)
	right := 0
	for range 40000 {
		s := n.spaced(n.program(), false)
		l, e := rules.Parse(s)
		if e != api.OK || len(l) == 0 {
			continue
		}
		if !checkPrint(t, l) {
			t.Errorf("P11.4: not right: %q", s)
		}
		one := &l[n.below(len(l))]
		nodes := one.When
		if len(one.Expr) > 0 && n.below(2) == 0 || len(nodes) == 0 {
			nodes = one.Expr
		}
		switch change := &nodes[n.below(len(nodes))]; n.below(8) {
		case 0:
			change.Op += 1 - 2*n.below(2)
		case 1:
			change.Int++
		case 2:
			change.A++
		case 3:
			change.B++
		case 4:
			change.Text += n.one([]string{"a", " ", "'", "\n", "A", "$"})
		case 5:
			one.Name += n.one([]string{"a", " ", "A", "="})
		case 6:
			one.Expr = append(one.Expr, number(1))
		case 7:
			one.When = one.When[:0]
		}
		if checkPrint(t, l) {
			right++
		}
	}
	if right < 1000 {
		t.Errorf("%d changed ones are right", right)
	}
}
