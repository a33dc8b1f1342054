package rules_test

import (
	"math/big"
	"regexp"
	"strconv"
	"strings"

	"chatelaine/api"
)

// The limits and the words of the language are written out here, as the document says them.
const (
	mostBytes = 4096
	mostRules = 16
	mostNodes = 48
	mostDeep  = 16
	mostInt   = 9007199254740991
)

var (
	tokenForm  = regexp.MustCompile(`^(?:[a-z][a-z0-9_]*|[0-9]+|'(?:[ -&(-\[\]-~]|\\['\\])*'|==|[(),;=<+$])`)
	numberForm = regexp.MustCompile(`^(?:0|[1-9][0-9]*)$`)
	wordForm   = regexp.MustCompile(`^[a-z][a-z0-9_]{0,31}$`)
)

func isKeyword(s string) bool {
	return strings.Contains(" when deny or and not in else lower first head tail has starts ", " "+s+" ")
}

// levels are the precedences of operators.
var levels = map[string]int{"or": 1, "and": 2, "not": 3, "==": 4, "<": 4, "in": 4, "+": 5, "else": 6}

var opOf = map[string]int{
	"or": api.OpOr, "and": api.OpAnd, "not": api.OpNot, "==": api.OpEqual, "<": api.OpLess, "in": api.OpIn, "+": api.OpJoin, "else": api.OpElse,
	"lower(": api.OpLower, "first(": api.OpFirst, "head(": api.OpHead, "tail(": api.OpTail, "starts,": api.OpStarts,
}

// oracle reads rules by two stacks, of operands and of what waits for them, and panics with the number of an error.
type oracle struct {
	rest, token string
	examined    bool
	nodes       []api.Node
	operands    []int
	waiting     []string
}

// wanted is what Parse must answer.
func wanted(s string) (l []api.Rule, e api.Errno) {
	if len(s) > mostBytes {
		return nil, api.ErrRulesLong
	}
	defer func() {
		if fault := recover(); fault != nil {
			l, e = nil, fault.(api.Errno)
		}
	}()
	o := oracle{rest: s}
	for o.examine() != "" {
		l = append(l, o.rule(len(l)))
		if o.examine() != "" {
			o.need(";")
		}
	}
	return l, api.OK
}

func (o *oracle) examine() string {
	if o.examined {
		return o.token
	}
	for o.rest != "" && (o.rest[0] == ' ' || o.rest[0] == '\n') {
		o.rest = o.rest[1:]
	}
	o.token = tokenForm.FindString(o.rest)
	n, isNumber := new(big.Int).SetString(o.token, 10)
	switch {
	case o.token == "" && o.rest != "",
		o.token != "" && o.token[0] >= 'a' && !wordForm.MatchString(o.token),
		isNumber && (!numberForm.MatchString(o.token) || n.Cmp(big.NewInt(mostInt)) > 0):
		panic(api.ErrRulesForm)
	}
	o.rest = o.rest[len(o.token):]
	o.examined = true
	return o.token
}

func (o *oracle) drop() string {
	o.examined = false
	return o.token
}

func (o *oracle) need(s string) {
	if o.examine() != s {
		panic(api.ErrRulesForm)
	}
	o.drop()
}

func (o *oracle) rule(before int) api.Rule {
	name := o.examine()
	if !wordForm.MatchString(name) {
		panic(api.ErrRulesForm)
	}
	if before == mostRules {
		panic(api.ErrRulesMany)
	}
	if isKeyword(name) && name != "deny" {
		panic(api.ErrRulesForm)
	}
	o.drop()
	if name == "deny" {
		o.need("when")
		return api.Rule{When: o.expression()}
	}
	o.need("=")
	rule := api.Rule{Name: name, Expr: o.expression()}
	if o.examine() == "when" {
		o.drop()
		rule.When = o.expression()
	}
	return rule
}

func (o *oracle) expression() []api.Node {
	o.nodes, o.operands, o.waiting = nil, nil, nil
	for {
		for o.operand(o.examine()) {
		}
		for o.closes(o.examine()) {
		}
		if levels[o.token] == 0 || o.token == "not" {
			break
		}
		o.waiting = append(o.waiting, o.drop())
	}
	if len(o.waiting) > 0 {
		panic(api.ErrRulesForm)
	}
	return o.nodes
}

// operand goes past a token where an operand may begin, and tells whether one has to follow still.
func (o *oracle) operand(t string) bool {
	switch {
	case t == "(":
		o.opens("(")
		return true
	case t == "not":
		if top := o.top(); levels[top] > 3 {
			panic(api.ErrRulesForm)
		}
		o.opens("not")
		return true
	case t == "has":
		o.drop()
		o.function("has")
		name := o.claim()
		o.need(")")
		o.waiting = o.waiting[:len(o.waiting)-1]
		o.leaf(api.Node{Op: api.OpHas, Text: name})
	case t == "lower" || t == "first" || t == "head" || t == "tail" || t == "starts":
		o.function(o.drop())
		return true
	case t == "$":
		o.leaf(api.Node{Op: api.OpClaim, Text: o.claim()})
	case strings.HasPrefix(t, "'"):
		o.drop()
		o.leaf(api.Node{Op: api.OpText, Text: unquoted(t)})
	case numberForm.MatchString(t):
		o.drop()
		n, _ := strconv.Atoi(t)
		o.leaf(api.Node{Op: api.OpInt, Int: n})
	default:
		panic(api.ErrRulesForm)
	}
	return false
}

func unquoted(t string) string {
	t = t[1 : len(t)-1]
	for i := 0; i < len(t); i++ {
		if t[i] == '\\' {
			t = t[:i] + t[i+1:]
		}
	}
	return t
}

func (o *oracle) top() string {
	if len(o.waiting) == 0 {
		return ""
	}
	return o.waiting[len(o.waiting)-1]
}

// opens goes past the token ahead, behind which what is waiting is open.
func (o *oracle) opens(what string) {
	open := 0
	for _, one := range o.waiting {
		if one == "not" || levels[one] == 0 {
			open++
		}
	}
	if open >= mostDeep {
		panic(api.ErrRulesDeep)
	}
	o.drop()
	o.waiting = append(o.waiting, what)
}

func (o *oracle) function(name string) {
	if o.examine() != "(" {
		panic(api.ErrRulesForm)
	}
	o.opens(name + "(")
}

func (o *oracle) claim() string {
	o.need("$")
	name := o.examine()
	if !wordForm.MatchString(name) {
		panic(api.ErrRulesForm)
	}
	return o.drop()
}

// closes ends the operations that are over where the token ahead stands, and goes past it if it closes something. A comparison that follows another one ends all of them.
func (o *oracle) closes(t string) bool {
	level, compared := levels[t], false
	if t == "not" {
		level = 0
	}
	for levels[o.top()] > 0 && levels[o.top()] >= level {
		if levels[o.top()] == 4 && level == 4 {
			level, compared = 0, true
		}
		o.operation(o.top())
	}
	switch top := o.top(); {
	case compared:
		panic(api.ErrRulesForm)
	case t == ")" && top != "" && levels[top] == 0 && top != "starts(":
		o.drop()
		if top == "(" {
			o.waiting = o.waiting[:len(o.waiting)-1]
		} else {
			o.operation(top)
		}
		return true
	case t == "," && top == "starts(":
		o.drop()
		o.waiting[len(o.waiting)-1] = "starts,"
		for o.operand(o.examine()) {
		}
		return true
	}
	return false
}

// operation makes the node of what waits at the top of all.
func (o *oracle) operation(what string) {
	o.waiting = o.waiting[:len(o.waiting)-1]
	n := api.Node{Op: opOf[what]}
	last := len(o.operands) - 1
	n.A = o.operands[last]
	if what != "not" && what != "lower(" && what != "first(" && what != "head(" && what != "tail(" {
		n.A, n.B = o.operands[last-1], o.operands[last]
		last--
	}
	o.operands = o.operands[:last]
	o.leaf(n)
}

func (o *oracle) leaf(n api.Node) {
	if len(o.nodes) == mostNodes {
		panic(api.ErrRulesMany)
	}
	o.operands = append(o.operands, len(o.nodes))
	o.nodes = append(o.nodes, n)
}

// place is a node, and how many others it is inside of.
type place struct{ node, outer int }

// printer says what each node is written as, from the first one on: a text that is too long is nothing but that.
type printer struct {
	nodes []api.Node
	known map[place]string
}

var tooLong = strings.Repeat("!", mostBytes+1)

// printed is what Print must answer.
func printed(l []api.Rule) string {
	s := ""
	for i, rule := range l {
		if i > 0 {
			s += "; "
		}
		if rule.Name == "" {
			s += "deny when " + expression(rule.When)
		} else {
			s += rule.Name + " = " + expression(rule.Expr)
			if len(rule.When) > 0 {
				s += " when " + expression(rule.When)
			}
		}
		if len(s) > mostBytes {
			return ""
		}
	}
	return s
}

func expression(nodes []api.Node) string {
	if len(nodes) == 0 {
		return ""
	}
	p := printer{nodes: nodes, known: map[place]string{}}
	return p.text(len(nodes)-1, 0)
}

func (p *printer) text(i, outer int) string {
	at := place{i, outer}
	if s, ok := p.known[at]; ok {
		return s
	}
	s := p.inner(i, outer)
	if len(s) > mostBytes {
		s = tooLong
	}
	p.known[at] = s
	return s
}

var (
	signOf = map[int]string{api.OpOr: "or", api.OpAnd: "and", api.OpEqual: "==", api.OpLess: "<", api.OpIn: "in", api.OpJoin: "+", api.OpElse: "else"}
	nameOf = map[int]string{api.OpLower: "lower", api.OpFirst: "first", api.OpHead: "head", api.OpTail: "tail", api.OpStarts: "starts"}
	marks  = strings.NewReplacer(`\`, `\\`, `'`, `\'`)
)

func (p *printer) inner(i, outer int) string {
	n := p.nodes[i]
	sign, isSign := signOf[n.Op]
	name, isName := nameOf[n.Op]
	isTwo := isSign || n.Op == api.OpStarts
	isOne := isName || n.Op == api.OpNot
	switch {
	case outer > 63, (isOne || isTwo) && (n.A < 0 || n.A >= i), isTwo && (n.B < 0 || n.B >= i):
		return "?"
	case n.Op == api.OpText:
		return "'" + marks.Replace(n.Text) + "'"
	case n.Op == api.OpInt:
		return strconv.Itoa(n.Int)
	case n.Op == api.OpClaim:
		return "$" + n.Text
	case n.Op == api.OpHas:
		return "has($" + n.Text + ")"
	case n.Op == api.OpStarts:
		return "starts(" + p.text(n.A, outer+1) + ", " + p.text(n.B, outer+1) + ")"
	case isName:
		return name + "(" + p.text(n.A, outer+1) + ")"
	case n.Op == api.OpNot:
		return "not " + p.operand(n.A, outer+1, 3)
	case !isSign:
		return "?"
	}
	left, right := levels[sign], levels[sign]+1
	if left == 4 {
		left = 5
	}
	return p.operand(n.A, outer+1, left) + " " + sign + " " + p.operand(n.B, outer+1, right)
}

// operand is in parentheses where its precedence is too low, also if it is written as a question mark.
func (p *printer) operand(i, outer, required int) string {
	s, own := p.text(i, outer), 7
	if sign, ok := signOf[p.nodes[i].Op]; ok {
		own = levels[sign]
	}
	if p.nodes[i].Op == api.OpNot {
		own = 3
	}
	if own < required {
		return "(" + s + ")"
	}
	return s
}
