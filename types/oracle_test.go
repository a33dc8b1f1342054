package types_test

import (
	"strings"

	"chatelaine/api"
)

// The types are letters here: T a text, I a number, B a yes or no, L a list of texts.
const letters = "TIBL"

// tableOf has, for each operator with operands, what it takes and makes, as the document says it.
func tableOf() map[int]string {
	return map[int]string{
		api.OpJoin:   "TT=T",
		api.OpLower:  "T=T",
		api.OpHead:   "T=T",
		api.OpTail:   "T=T",
		api.OpFirst:  "L=T",
		api.OpEqual:  "TT=B II=B BB=B",
		api.OpLess:   "II=B",
		api.OpIn:     "TL=B",
		api.OpStarts: "TT=B",
		api.OpNot:    "B=B",
		api.OpAnd:    "BB=B",
		api.OpOr:     "BB=B",
		api.OpElse:   "TT=T II=I BB=B LL=L",
	}
}

// typeOf is the type of a letter.
func typeOf(letter byte) int { return strings.IndexByte(letters, letter) + 1 }

// oracle says what a node is from its number alone: it asks for its operands over and over.
type oracle struct {
	nodes  []api.Node
	fields []api.Field
	table  map[int]string
}

// wanted is what Of must answer.
func wanted(nodes []api.Node, fields []api.Field) (int, api.Errno) {
	o := oracle{nodes, fields, tableOf()}
	made := make([]byte, len(nodes))
	for i := range nodes {
		letter, e := o.letter(i, made)
		if e != api.OK {
			return 0, e
		}
		made[i] = letter
	}
	if len(nodes) == 0 {
		return 0, api.ErrTypesKind
	}
	return typeOf(made[len(made)-1]), api.OK
}

// letter is the type of the node of number i, where those ahead of it have the types that are made.
func (o oracle) letter(i int, made []byte) (byte, api.Errno) {
	n := o.nodes[i]
	switch n.Op {
	case api.OpText:
		return 'T', api.OK
	case api.OpInt:
		return 'I', api.OK
	case api.OpClaim, api.OpHas:
		return o.field(n)
	}
	takes := ""
	for _, number := range []int{n.A, n.B}[:operands(o.table[n.Op])] {
		if number < 0 || number > i-1 {
			return 0, api.ErrTypesKind
		}
		takes += string(made[number])
	}
	for _, line := range strings.Fields(o.table[n.Op]) {
		if before, after, _ := strings.Cut(line, "="); before == takes {
			return after[0], api.OK
		}
	}
	return 0, api.ErrTypesKind
}

// operands is how many there are of an operator with that line of the table.
func operands(line string) int { return max(strings.IndexByte(line, '='), 0) }

func (o oracle) field(n api.Node) (byte, api.Errno) {
	for _, f := range o.fields {
		switch {
		case f.Name != n.Text:
			continue
		case n.Op == api.OpHas:
			return 'B', api.OK
		case f.Type < 1 || f.Type > 4:
			return 0, api.ErrTypesKind
		}
		return letters[f.Type-1], api.OK
	}
	return 0, api.ErrTypesName
}

// wantedCheck is what Check must answer.
func wantedCheck(l []api.Rule, fields []api.Field) api.Errno {
	for _, rule := range l {
		reserved := strings.Contains(" iss sub aud exp iat nbf nonce ", " "+rule.Name+" ") && !strings.Contains(rule.Name, " ")
		_, expr := wanted(rule.Expr, fields)
		made, when := wanted(rule.When, fields)
		switch {
		case rule.Name != "" && reserved:
			return api.ErrTypesName
		case rule.Name != "" && expr != api.OK:
			return expr
		case rule.Name != "" && len(rule.When) == 0:
			continue
		case when != api.OK:
			return when
		case made != api.TypeBool:
			return api.ErrTypesKind
		}
	}
	return api.OK
}
