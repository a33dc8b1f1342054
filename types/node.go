package types

import (
	"slices"

	"chatelaine/api"
)

// operation is what an operator makes of operands of these types: 0 stands for an operand that it doesn't have.
type operation struct{ op, a, b, made int }

// operations are all that make sense, but for those that ask for a field.
var operations = [...]operation{
	{api.OpText, 0, 0, api.TypeText},
	{api.OpInt, 0, 0, api.TypeInt},
	{api.OpJoin, api.TypeText, api.TypeText, api.TypeText},
	{api.OpLower, api.TypeText, 0, api.TypeText},
	{api.OpHead, api.TypeText, 0, api.TypeText},
	{api.OpTail, api.TypeText, 0, api.TypeText},
	{api.OpFirst, api.TypeTexts, 0, api.TypeText},
	{api.OpEqual, api.TypeText, api.TypeText, api.TypeBool},
	{api.OpEqual, api.TypeInt, api.TypeInt, api.TypeBool},
	{api.OpEqual, api.TypeBool, api.TypeBool, api.TypeBool},
	{api.OpLess, api.TypeInt, api.TypeInt, api.TypeBool},
	{api.OpIn, api.TypeText, api.TypeTexts, api.TypeBool},
	{api.OpStarts, api.TypeText, api.TypeText, api.TypeBool},
	{api.OpNot, api.TypeBool, 0, api.TypeBool},
	{api.OpAnd, api.TypeBool, api.TypeBool, api.TypeBool},
	{api.OpOr, api.TypeBool, api.TypeBool, api.TypeBool},
	{api.OpElse, api.TypeText, api.TypeText, api.TypeText},
	{api.OpElse, api.TypeInt, api.TypeInt, api.TypeInt},
	{api.OpElse, api.TypeBool, api.TypeBool, api.TypeBool},
	{api.OpElse, api.TypeTexts, api.TypeTexts, api.TypeTexts},
}

// ofNode is the type of a node behind others, whose types are known.
func ofNode(n api.Node, known []int, fields []api.Field) (int, api.Errno) {
	switch n.Op {
	case api.OpClaim:
		return ofClaim(n.Text, fields)
	case api.OpHas:
		return ofHas(n.Text, fields)
	}
	for _, o := range operations {
		if o.op == n.Op && takes(o.a, n.A, known) && takes(o.b, n.B, known) {
			return o.made, api.OK
		}
	}
	return 0, api.ErrTypesKind
}

// takes tells whether the node of that number will do as an operand of type t.
func takes(t, number int, known []int) bool {
	return t == 0 || 0 <= number && number < len(known) && known[number] == t
}

func ofClaim(name string, fields []api.Field) (int, api.Errno) {
	i := place(name, fields)
	if i < 0 {
		return 0, api.ErrTypesName
	}
	t := fields[i].Type
	if t < api.TypeText || t > api.TypeTexts {
		return 0, api.ErrTypesKind
	}
	return t, api.OK
}

// ofHas is the type of the question whether a claim is there: of which type that would be doesn't matter.
func ofHas(name string, fields []api.Field) (int, api.Errno) {
	if place(name, fields) < 0 {
		return 0, api.ErrTypesName
	}
	return api.TypeBool, api.OK
}

// place is where the first field of that name stands, or -1.
func place(name string, fields []api.Field) int {
	return slices.IndexFunc(fields, func(f api.Field) bool { return f.Name == name })
}
