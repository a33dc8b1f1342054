package types_test

import (
	"math"
	"math/rand"
	"reflect"
	"slices"
	"strconv"
	"strings"
	"testing"

	"chatelaine/api"
	"chatelaine/rules"
	"chatelaine/types"
)

func text(s string) api.Node { return api.Node{Op: api.OpText, Text: s} }

func number(n int) api.Node { return api.Node{Op: api.OpInt, Int: n} }

func claim(name string) api.Node { return api.Node{Op: api.OpClaim, Text: name} }

func has(name string) api.Node { return api.Node{Op: api.OpHas, Text: name} }

func node(op, a, b int) api.Node { return api.Node{Op: op, A: a, B: b} }

// declared has a field of each type, by the type's letter, and some of no type.
func declared() []api.Field {
	return []api.Field{{Name: "T", Type: api.TypeText}, {Name: "I", Type: api.TypeInt}, {Name: "B", Type: api.TypeBool}, {Name: "L", Type: api.TypeTexts}, {Name: "none", Type: 0}, {Name: "more", Type: 5}, {Name: "less", Type: -1}, {Name: "least", Type: math.MinInt}, {Name: "most", Type: math.MaxInt}, {Name: "wrapped", Type: 1<<32 + 1}}
}

// operandsOf are four nodes, one of each type, in the order of the letters.
func operandsOf() []api.Node { return []api.Node{claim("T"), claim("I"), claim("B"), claim("L")} }

// check holds Of against the second implementation, and tells what it answers.
func check(t *testing.T, nodes []api.Node, fields []api.Field) (int, api.Errno) {
	t.Helper()
	made, e := types.Of(nodes, fields)
	if want, f := wanted(nodes, fields); made != want || e != f {
		t.Errorf("P12.1: Of(%v, %v): %d, %d, want %d, %d", nodes, fields, made, e, want, f)
	}
	return made, e
}

func isOf(t *testing.T, want int, nodes ...api.Node) {
	t.Helper()
	if made, e := check(t, nodes, declared()); made != want || e != api.OK {
		t.Errorf("P12.1: Of(%v): %d, %d, want %d", nodes, made, e, want)
	}
}

func isRefused(t *testing.T, want api.Errno, nodes ...api.Node) {
	t.Helper()
	if made, e := check(t, nodes, declared()); made != 0 || e != want {
		t.Errorf("P12.1: Of(%v): %d, %d, want 0, %d", nodes, made, e, want)
	}
}

func TestTypesAndErrorsAreThoseOfTheDocument(t *testing.T) {
	if api.TypeText != 1 || api.TypeInt != 2 || api.TypeBool != 3 || api.TypeTexts != 4 || api.ErrTypesName != 120 || api.ErrTypesKind != 121 {
		t.Error("P12.1: the types, or the errors, are others")
	}
}

func TestNoNode(t *testing.T) {
	isRefused(t, api.ErrTypesKind)
	for _, nodes := range [][]api.Node{nil, {}, operandsOf()[:0]} {
		for _, fields := range [][]api.Field{nil, {}, declared()} {
			if made, e := types.Of(nodes, fields); made != 0 || e != api.ErrTypesKind {
				t.Errorf("P12.1: no node: %d, %d", made, e)
			}
		}
	}
}

func TestTextsAndNumbers(t *testing.T) {
	isOf(t, api.TypeText, text("x"))
	isOf(t, api.TypeText, text(""))
	isOf(t, api.TypeText, text("\x00\xff'\n"))
	isOf(t, api.TypeText, text(strings.Repeat("x", 5000)))
	for _, n := range []int{0, 1, -1, 1<<53 - 1, 1 << 53, math.MaxInt, math.MinInt} {
		isOf(t, api.TypeInt, number(n))
	}
	for _, far := range []int{-1, 0, 1, 99, math.MaxInt, math.MinInt} { // they have no operands, whatever A and B say
		isOf(t, api.TypeText, api.Node{Op: api.OpText, A: far, B: -far, Int: far})
		isOf(t, api.TypeInt, api.Node{Op: api.OpInt, A: far, B: far, Text: "T"})
		isOf(t, api.TypeInt, api.Node{Op: api.OpClaim, A: far, B: far, Int: far, Text: "I"})
		isOf(t, api.TypeBool, api.Node{Op: api.OpHas, A: far, B: far, Int: far, Text: "I"})
	}
}

func TestClaims(t *testing.T) {
	for i, f := range declared() {
		want := f.Type
		if i > 3 {
			want = 0
			isRefused(t, api.ErrTypesKind, claim(f.Name))
		} else {
			isOf(t, want, claim(f.Name))
		}
		isOf(t, api.TypeBool, has(f.Name))
	}
	for _, name := range []string{"", "t", "T ", " T", "TT", "\x00", "T\x00", "non", "nonee", "None", "é"} {
		isRefused(t, api.ErrTypesName, claim(name))
		isRefused(t, api.ErrTypesName, has(name))
	}
	for _, n := range []api.Node{claim("x"), has("x"), claim(""), has("")} {
		if made, e := check(t, []api.Node{n}, nil); made != 0 || e != api.ErrTypesName {
			t.Errorf("P12.1: no fields at all: %v: %d, %d", n, made, e)
		}
	}
}

func TestFirstFieldOfANameCounts(t *testing.T) {
	for first := -1; first <= 6; first++ {
		for second := -1; second <= 6; second++ {
			fields := []api.Field{{Name: "y", Type: api.TypeBool}, {Name: "x", Type: first}, {Name: "x", Type: second}, {Name: "", Type: first}, {Name: "", Type: second}}
			for _, name := range []string{"x", ""} {
				made, e := check(t, []api.Node{claim(name)}, fields)
				if known := 1 <= first && first <= 4; known && (made != first || e != api.OK) || !known && (made != 0 || e != api.ErrTypesKind) {
					t.Errorf("P12.1: the claim %q, of fields with types %d and %d: %d, %d", name, first, second, made, e)
				}
				if made, e := check(t, []api.Node{has(name)}, fields); made != api.TypeBool || e != api.OK {
					t.Errorf("P12.1: has %q, of fields with types %d and %d: %d, %d", name, first, second, made, e)
				}
			}
		}
	}
}

// Each operator, with operands of each two types, by what the document's table says.
func TestOperators(t *testing.T) {
	right := map[string]int{}
	for op := -3; op <= 40; op++ {
		if op == api.OpText || op == api.OpInt || op == api.OpClaim || op == api.OpHas {
			continue
		}
		for a := range letters {
			for b := range letters {
				nodes := append(operandsOf(), node(op, a, b))
				made, e := check(t, nodes, declared())
				if e == api.OK {
					right[strconv.Itoa(op)+letters[a:a+1]+letters[b:b+1]] = made
				} else if made != 0 || e != api.ErrTypesKind {
					t.Errorf("P12.1: the Op %d of %c and %c: %d, %d", op, letters[a], letters[b], made, e)
				}
			}
		}
	}
	const known = "5TT1 6TT1 6TI1 6TB1 6TL1 7LT1 7LI1 7LB1 7LL1 8TT1 8TI1 8TB1 8TL1 9TT1 9TI1 9TB1 9TL1 10TT3 10II3 10BB3 11II3 12TL3 13BT3 13BI3 13BB3 13BL3 14BB3 15BB3 16TT1 16II2 16BB3 16LL4 17TT3"
	for _, one := range strings.Fields(known) {
		operation, made := one[:len(one)-1], int(one[len(one)-1]-'0')
		if right[operation] != made {
			t.Errorf("P12.1: %s: %d, want %d", operation, right[operation], made)
		}
		delete(right, operation)
	}
	if len(right) > 0 {
		t.Errorf("P12.1: other operands that are taken: %v", right)
	}
}

func TestOtherOperators(t *testing.T) {
	for _, op := range []int{0, -1, 18, 19, 99, 1<<32 + api.OpText, 1<<32 + api.OpNot, -api.OpNot, 256 + api.OpText, math.MaxInt, math.MinInt} {
		isRefused(t, api.ErrTypesKind, api.Node{Op: op})
		isRefused(t, api.ErrTypesKind, api.Node{Op: op, Text: "T"})
		for a := range 4 {
			isRefused(t, api.ErrTypesKind, append(operandsOf(), node(op, a, a))...)
		}
	}
}

// Operands stand ahead of their operation: 0 to its own number minus 1.
func TestPlacesOfOperands(t *testing.T) {
	one := map[int]string{api.OpLower: "T", api.OpHead: "T", api.OpTail: "T", api.OpFirst: "L", api.OpNot: "B"}
	two := map[int]string{api.OpJoin: "TT", api.OpEqual: "TT", api.OpLess: "II", api.OpIn: "TL", api.OpStarts: "TT", api.OpAnd: "BB", api.OpOr: "BB", api.OpElse: "LL"}
	places := []int{math.MinInt, -1 << 32, -4, -3, -2, -1, 0, 1, 2, 3, 4, 5, 6, 7, 1 << 32, 1<<32 + 1, math.MaxInt}
	for op, takes := range one {
		nodes := []api.Node{claim(takes), claim(takes), claim(takes), node(op, 0, 0), claim(takes)}
		for _, a := range places {
			for _, b := range places {
				nodes[3] = node(op, a, b)
				if _, e := check(t, nodes, declared()); (e == api.OK) != (0 <= a && a <= 2) || e != api.OK && e != api.ErrTypesKind {
					t.Errorf("P12.1: the operand %d of the Op %d: %d", a, op, e)
				}
			}
		}
	}
	for op, takes := range two {
		first, second := claim(takes[:1]), claim(takes[1:])
		nodes := []api.Node{first, second, first, second, {}, first, second}
		for _, a := range places {
			for _, b := range places {
				nodes[4] = node(op, a, b)
				isA, isB := a == 0 || a == 2, b == 1 || b == 3
				if takes[0] == takes[1] {
					isA, isB = 0 <= a && a <= 3, 0 <= b && b <= 3
				}
				if _, e := check(t, nodes, declared()); (e == api.OK) != (isA && isB) || e != api.OK && e != api.ErrTypesKind {
					t.Errorf("P12.1: the operands %d and %d of the Op %d: %d", a, b, op, e)
				}
			}
		}
	}
	for op := 5; op <= 17; op++ { // no operation is its own operand
		isRefused(t, api.ErrTypesKind, node(op, 0, 0))
	}
}

// The first node that makes no sense counts, and so does one that is no part of the expression.
func TestFirstNodeCounts(t *testing.T) {
	isOf(t, api.TypeInt, text("x"), number(1))
	isOf(t, api.TypeText, number(1), text("x"), claim("T"), node(api.OpJoin, 1, 1))
	isRefused(t, api.ErrTypesName, claim("x"), claim("none"))
	isRefused(t, api.ErrTypesKind, claim("none"), claim("x"))
	isRefused(t, api.ErrTypesName, claim("x"), number(1))
	isRefused(t, api.ErrTypesKind, claim("none"), number(1))
	isRefused(t, api.ErrTypesKind, node(api.OpNot, 1, 0), claim("x"))
	isRefused(t, api.ErrTypesName, has("x"), node(api.OpNot, 1, 0))
	isRefused(t, api.ErrTypesKind, number(1), node(api.OpNot, 0, 0), claim("x"))
	isRefused(t, api.ErrTypesName, number(1), has("x"), node(api.OpNot, 0, 0))
	isRefused(t, api.ErrTypesKind, number(1), api.Node{}, claim("x"), number(2))
	isRefused(t, api.ErrTypesName, number(1), claim("x"), api.Node{}, number(2))
	isRefused(t, api.ErrTypesName, number(1), claim("x"), node(api.OpElse, 0, 1))
	isRefused(t, api.ErrTypesKind, number(1), node(api.OpElse, 0, 1), claim("x"))
}

// There may be more nodes, and fields, than those of rules that are read.
func TestManyNodes(t *testing.T) {
	for _, count := range []int{47, 48, 49, 1000, 100000} {
		nodes := []api.Node{claim("T")}
		for i := 1; i < count; i++ {
			nodes = append(nodes, node(api.OpJoin, i-1, i/2))
		}
		isOf(t, api.TypeText, nodes...)
		isOf(t, api.TypeBool, append(nodes, node(api.OpEqual, count-1, 0))...)
		isRefused(t, api.ErrTypesName, append(nodes, claim("x"))...)
		isRefused(t, api.ErrTypesKind, append(nodes, node(api.OpNot, count-1, 0), claim("x"))...)
	}
	var fields []api.Field
	for i := range 1000 {
		fields = append(fields, api.Field{Name: strconv.Itoa(i), Type: i % 6})
	}
	for i := range 1001 {
		check(t, []api.Node{claim(strconv.Itoa(i))}, fields)
		check(t, []api.Node{has(strconv.Itoa(i))}, fields)
	}
}

// pick has the numbers that are drawn below.
type pick struct{ *rand.Rand }

func (p pick) node(i int) api.Node {
	n := api.Node{Op: p.Intn(18), Int: p.Intn(3), A: p.Intn(i + 1), B: p.Intn(i + 1)}
	if p.Intn(40) == 0 {
		n.A, n.B, n.Op = p.Intn(9)-3, p.Intn(9)-3, p.Intn(24)-3
	}
	if n.Op == api.OpClaim || n.Op == api.OpHas {
		n.Text = letters[p.Intn(4):][:1]
		if p.Intn(3) == 0 {
			n.Text = []string{"none", "more", "x", ""}[p.Intn(4)]
		}
	}
	return n
}

// expression adds nodes that nearly all make sense.
func (p pick) expression(t *testing.T, size int) []api.Node {
	var nodes []api.Node
	for len(nodes) < size {
		n := p.node(len(nodes))
		if _, e := wanted(append(nodes, n), declared()); e == api.OK || e == api.ErrTypesName && p.Intn(3) == 0 || p.Intn(60) == 0 {
			nodes = append(nodes, n)
		}
	}
	return nodes
}

func TestDrawnExpressions(t *testing.T) {
	p := pick{rand.New(rand.NewSource(12))}
	count := map[int]int{}
	for range 4000 {
		made, e := check(t, p.expression(t, p.Intn(20)), declared())
		count[made+int(e)]++
	}
	for _, result := range []int{1, 2, 3, 4, 120, 121} {
		if count[result] < 50 {
			t.Errorf("some results are rare: %v", count)
		}
	}
}

// What the document says of rules as texts.
func TestReadExpressions(t *testing.T) {
	for s, want := range map[string]int{
		"'x'": 1, "1": 2, "$T": 1, "$I": 2, "$B": 3, "$L": 4, "has($L)": 3, "has($none)": 3, "'x'+$T": 1, "lower('X')": 1, "head($T)": 1, "tail(lower($T))": 1, "first($L)": 1, "$T==''": 3, "1==$I": 3, "$B==has($T)": 3, "$I<2": 3, "$T in $L": 3,
		"starts($T,first($L))": 3, "not $B": 3, "$B and has($T)": 3, "$B or 1<2": 3, "$T else 'x'": 1, "$I else 0": 2, "$B else (1==2)": 3, "$L else $L": 4, "first($L else $L)+($T else 'x') in $L and not ($I else 1)<2 or $B==$B": 3,
	} {
		nodes := read(t, s)
		if made, e := check(t, nodes, named()); made != want || e != api.OK {
			t.Errorf("P12.1: %s: %d, %d, want %d", s, made, e, want)
		}
	}
	for s, want := range map[string]api.Errno{
		"$x": 120, "has($x)": 120, "$none": 121, "$T+1": 121, "1+$T": 121, "$L+$T": 121, "lower(1)": 121, "head($L)": 121, "tail($B)": 121, "first($T)": 121, "$L==$L": 121, "$T==1": 121, "$B==1": 121, "$none==$none": 121, "$T<$T": 121, "$B<$B": 121, "1<'x'": 121, "$L in $T": 121, "$T in $T": 121, "$L in $L": 121, "1 in $L": 121,
		"starts($T,1)": 121, "starts($L,$T)": 121, "not $T": 121, "not 1": 121, "not $L": 121, "$B and 1": 121, "$T or $B": 121, "$L else $T": 121, "$T else 1": 121, "$I else $B": 121, "$x + $none": 120, "$none + $x": 121, "1 + 2 + $x": 121, "1 + (2 + $x)": 120, "$x else (not 1)": 120, "(not 1) else $x": 121,
	} {
		if made, e := check(t, read(t, s), named()); made != 0 || e != want {
			t.Errorf("P12.1: %s: %d, %d, want %d", s, made, e, want)
		}
	}
}

// named are the fields of declared, by names that rules can tell.
func named() []api.Field {
	fields := declared()
	for i := range 4 {
		fields[i].Name = strings.ToLower(fields[i].Name)
	}
	return fields
}

// read is the expression that a text says: its claims may have capital letters here.
func read(t *testing.T, s string) []api.Node {
	t.Helper()
	for _, c := range letters {
		s = strings.ReplaceAll(s, "$"+string(c), "$"+strings.ToLower(string(c)))
	}
	l, e := rules.Parse("a = " + s)
	if e != api.OK {
		t.Fatalf("%s: %d", s, e)
	}
	return l[0].Expr
}

func TestOfLeavesItsArgumentsAlone(t *testing.T) {
	p := pick{rand.New(rand.NewSource(5))}
	for range 500 {
		nodes, fields := p.expression(t, 10), declared()
		nodesBefore, fieldsBefore := slices.Clone(nodes), slices.Clone(fields)
		made, e := types.Of(nodes[:9], fields[:4:5])
		if !slices.Equal(nodes, nodesBefore) || !slices.Equal(fields, fieldsBefore) {
			t.Fatalf("R5: Of changed its arguments: %v, %v", nodes, fields)
		}
		if again, f := types.Of(nodes[:9], fields[:4:5]); again != made || f != e {
			t.Errorf("R7: Of(%v): %d, %d, and then %d, %d", nodes, made, e, again, f)
		}
		l := []api.Rule{{Name: "a", Expr: nodes, When: nodes[:9]}, {When: nodes}}
		f := types.Check(l, fields)
		if !slices.Equal(nodes, nodesBefore) || !slices.Equal(fields, fieldsBefore) || !reflect.DeepEqual(l, []api.Rule{{Name: "a", Expr: nodesBefore, When: nodesBefore[:9]}, {When: nodesBefore}}) {
			t.Fatalf("R5: Check changed its arguments: %v, %v", l, fields)
		}
		if again := types.Check(l, fields); again != f {
			t.Errorf("R7: Check(%v): %d, and then %d", l, f, again)
		}
	}
}

// What is valid remains so with fields behind the others.
func TestMoreFields(t *testing.T) {
	p := pick{rand.New(rand.NewSource(4))}
	for range 2000 {
		nodes, fields := p.expression(t, 1+p.Intn(8)), declared()
		fields = fields[:p.Intn(len(fields)+1)]
		more := slices.Clone(fields)
		for range p.Intn(6) {
			more = append(more, api.Field{Name: []string{"T", "I", "B", "L", "none", "x", ""}[p.Intn(7)], Type: p.Intn(7) - 1})
		}
		made, e := check(t, nodes, fields)
		again, f := check(t, nodes, more)
		if e == api.OK && (again != made || f != api.OK) {
			t.Errorf("P12.4: Of(%v): %d with %v, and %d, %d with %v", nodes, made, fields, again, f, more)
		}
		l := []api.Rule{{Name: "a", Expr: nodes}, {When: nodes}}
		for i := range l {
			if e, f := types.Check(l[i:i+1], fields), types.Check(l[i:i+1], more); e == api.OK && f != api.OK {
				t.Errorf("P12.4: Check(%v): OK with %v, and %d with %v", l[i], fields, f, more)
			}
		}
	}
}
