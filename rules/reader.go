package rules

import "chatelaine/api"

// reader goes through the tokens of rules. After a fault there is none any more, so that whatever is under way comes to its end.
type reader struct {
	advance func() token
	ahead   token      // unread until it is needed, since a node may have to be made ahead of it
	nodes   []api.Node // of the expression that is read
	deep    int        // how many parentheses and nots are open
	fault   api.Errno  // the first one
}

func (r *reader) fail(e api.Errno) {
	if r.fault == api.OK {
		r.fault = e
	}
}

// next examines the token ahead.
func (r *reader) next() kind {
	if r.fault != api.OK {
		return broken
	}
	if r.ahead.kind == unread {
		r.ahead = r.advance()
	}
	if r.ahead.kind == broken {
		r.fail(api.ErrRulesForm)
	}
	return r.ahead.kind
}

// take goes past the token ahead, which whoever calls has examined.
func (r *reader) take() token {
	t := r.ahead
	r.ahead = token{}
	return t
}

// takes goes past the token ahead if it is of that kind.
func (r *reader) takes(k kind) bool {
	if r.next() != k {
		return false
	}
	r.take()
	return true
}

// must goes past a token that has to be there.
func (r *reader) must(k kind) {
	if !r.takes(k) {
		r.fail(api.ErrRulesForm)
	}
}

// open goes past a parenthesis or a not, so that what comes next is inside it.
func (r *reader) open(k kind) {
	r.must(k)
	if r.deep == api.MaxDeep {
		r.fail(api.ErrRulesDeep)
	}
	r.deep++
}

func (r *reader) close() {
	r.must(closing)
	r.deep--
}

// rules reads all of them.
func (r *reader) rules() []api.Rule {
	var l []api.Rule
	for r.next() != finish {
		if r.next().isWord() && len(l) == api.MaxRules {
			r.fail(api.ErrRulesMany)
		}
		l = append(l, r.rule())
		if !r.takes(semicolon) {
			break
		}
	}
	r.must(finish)
	return l
}

func (r *reader) rule() api.Rule {
	if r.takes(deny) {
		r.must(when)
		return api.Rule{When: r.expression()}
	}
	rule := api.Rule{Name: r.ahead.text}
	r.must(aName)
	r.must(becomes)
	rule.Expr = r.expression()
	if r.takes(when) {
		rule.When = r.expression()
	}
	return rule
}

func (r *reader) expression() []api.Node {
	r.nodes = nil
	r.or()
	return r.nodes
}

func (r *reader) or() int { return r.chain(or, api.OpOr, r.and) }

func (r *reader) and() int { return r.chain(and, api.OpAnd, r.not) }

func (r *reader) not() int {
	if r.next() != not {
		return r.comparison()
	}
	r.open(not)
	a := r.not()
	r.deep--
	return r.operation(api.Node{Op: api.OpNot, A: a})
}

func (r *reader) comparison() int {
	a := r.sum()
	op := compares(r.next())
	if op == 0 {
		return a
	}
	r.take()
	return r.operation(api.Node{Op: op, A: a, B: r.sum()})
}

func (r *reader) sum() int { return r.chain(plus, api.OpJoin, r.choice) }

func (r *reader) choice() int { return r.chain(otherwise, api.OpElse, r.atom) }

// chain reads operands with one operator between them, of which those on the left belong together.
func (r *reader) chain(k kind, op int, operand func() int) int {
	a := operand()
	for r.takes(k) {
		a = r.operation(api.Node{Op: op, A: a, B: operand()})
	}
	return a
}

func (r *reader) atom() int {
	switch k := r.next(); k {
	case aText:
		return r.node(api.Node{Op: api.OpText, Text: r.take().text})
	case aNumber:
		return r.node(api.Node{Op: api.OpInt, Int: r.take().number})
	case dollar:
		return r.node(api.Node{Op: api.OpClaim, Text: r.claim()})
	case opening:
		r.open(opening)
		a := r.or()
		r.close()
		return a
	case has, lower, first, head, tail, starts:
		r.take()
		r.open(opening)
		n := r.arguments(k)
		r.close()
		return r.node(n)
	}
	r.fail(api.ErrRulesForm)
	return 0
}

// arguments reads what is inside the parentheses of a function, and is its node.
func (r *reader) arguments(k kind) api.Node {
	switch k {
	case has:
		return api.Node{Op: api.OpHas, Text: r.claim()}
	case starts:
		a := r.or()
		r.must(comma)
		return api.Node{Op: api.OpStarts, A: a, B: r.or()}
	}
	return api.Node{Op: takesOne(k), A: r.or()}
}

// claim reads a claim's name, from the $ on. It may be a keyword.
func (r *reader) claim() string {
	r.must(dollar)
	if !r.next().isWord() {
		r.fail(api.ErrRulesForm)
	}
	return r.take().text
}

// operation makes the node of an operator. That its last operand has ended, the token behind tells.
func (r *reader) operation(n api.Node) int {
	r.next()
	return r.node(n)
}

// node makes a node, and tells its number.
func (r *reader) node(n api.Node) int {
	if len(r.nodes) == api.MaxNodes {
		r.fail(api.ErrRulesMany)
	}
	r.nodes = append(r.nodes, n)
	return len(r.nodes) - 1
}

// compares is the Op of a token between the two sides of a comparison, or 0.
func compares(k kind) int {
	switch k {
	case equals:
		return api.OpEqual
	case less:
		return api.OpLess
	case in:
		return api.OpIn
	}
	return 0
}

// takesOne is the Op of a function of one operand.
func takesOne(k kind) int {
	switch k {
	case lower:
		return api.OpLower
	case first:
		return api.OpFirst
	case head:
		return api.OpHead
	}
	return api.OpTail
}
