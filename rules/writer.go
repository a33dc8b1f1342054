package rules

import (
	"strconv"

	"chatelaine/api"
)

const (
	unknown = "?" // what stands for a node that can't be written
	tooDeep = 64  // nodes that a node can't be inside of
)

// The precedences of operators, and of all that is none.
const (
	byOr = iota + 1
	byAnd
	byNot
	byComparison
	byJoin
	byElse
	byItself
)

// form is how a node is written: its operands, and what is around and between them. An operand of less than the precedence asked for goes into parentheses.
type form struct {
	operands               int
	ahead, between, behind string
	own, left, right       int
}

func leaf(s string) form { return form{ahead: s, own: byItself} }

func function(operands int, name string) form {
	return form{operands: operands, ahead: name + "(", between: ", ", behind: ")", own: byItself}
}

// chained is the form of an operator whose operands on the left belong together.
func chained(operator string, own int) form {
	return form{operands: 2, between: operator, own: own, left: own, right: own + 1}
}

func compared(operator string) form {
	return form{operands: 2, between: operator, own: byComparison, left: byJoin, right: byJoin}
}

// formOf is the form of a node whose operands can be written.
func formOf(n api.Node) form {
	switch n.Op {
	case api.OpText:
		return leaf(quote(n.Text))
	case api.OpInt:
		return leaf(strconv.Itoa(n.Int))
	case api.OpClaim:
		return leaf("$" + n.Text)
	case api.OpHas:
		return leaf("has($" + n.Text + ")")
	case api.OpJoin:
		return chained(" + ", byJoin)
	case api.OpLower:
		return function(1, "lower")
	case api.OpFirst:
		return function(1, "first")
	case api.OpHead:
		return function(1, "head")
	case api.OpTail:
		return function(1, "tail")
	case api.OpEqual:
		return compared(" == ")
	case api.OpLess:
		return compared(" < ")
	case api.OpIn:
		return compared(" in ")
	case api.OpNot:
		return form{operands: 1, ahead: "not ", own: byNot, left: byNot}
	case api.OpAnd:
		return chained(" and ", byAnd)
	case api.OpOr:
		return chained(" or ", byOr)
	case api.OpElse:
		return chained(" else ", byElse)
	case api.OpStarts:
		return function(2, "starts")
	}
	return leaf(unknown)
}

// quote writes a text between its marks. What no text may have in it is left as it is: reading it will tell.
func quote(s string) string {
	text := []byte{'\''}
	for i := range len(s) {
		if escaped(s[i:]) {
			text = append(text, '\\')
		}
		text = append(text, s[i])
	}
	return string(append(text, '\''))
}

// writer writes rules. It stops where the text gets too long, so that of nodes that are operands many times over, it doesn't go through all.
type writer struct {
	text []byte
	over bool
}

func (w *writer) add(s string) {
	if w.over || len(w.text)+len(s) > api.MaxText {
		w.over = true
		return
	}
	w.text = append(w.text, s...)
}

func (w *writer) rules(l []api.Rule) {
	for i, rule := range l {
		if w.over {
			return
		}
		if i > 0 {
			w.add("; ")
		}
		w.rule(rule)
	}
}

func (w *writer) rule(rule api.Rule) {
	if rule.Name == "" {
		w.add("deny when ")
		w.expression(rule.When)
		return
	}
	w.add(rule.Name)
	w.add(" = ")
	w.expression(rule.Expr)
	if len(rule.When) > 0 {
		w.add(" when ")
		w.expression(rule.When)
	}
}

// expression writes one from its last node on. Where there is no node, none can be written, not even as unknown.
func (w *writer) expression(nodes []api.Node) {
	if len(nodes) > 0 {
		w.node(nodes, 0, 0)
	}
}

// node writes the last one of these, as an operand of which a precedence is required, and which is inside so many others.
func (w *writer) node(nodes []api.Node, required, outer int) {
	if w.over {
		return
	}
	f := lastForm(nodes, outer)
	if f.own < required {
		w.add("(")
	}
	w.form(f, nodes, outer)
	if f.own < required {
		w.add(")")
	}
}

// form writes the last one of these, which has that form.
func (w *writer) form(f form, nodes []api.Node, outer int) {
	n := nodes[len(nodes)-1]
	w.add(f.ahead)
	if f.operands > 0 {
		w.node(nodes[:n.A+1], f.left, outer+1)
	}
	if f.operands > 1 {
		w.add(f.between)
		w.node(nodes[:n.B+1], f.right, outer+1)
	}
	w.add(f.behind)
}

// lastForm is the form of the last one of these, which is inside so many others. One that can't be written keeps its precedence, since parentheses go by the Op alone.
func lastForm(nodes []api.Node, outer int) form {
	last := len(nodes) - 1
	n := nodes[last]
	f := formOf(n)
	isA := f.operands < 1 || 0 <= n.A && n.A < last
	isB := f.operands < 2 || 0 <= n.B && n.B < last
	if !isA || !isB || outer >= tooDeep {
		return form{ahead: unknown, own: f.own}
	}
	return f
}
