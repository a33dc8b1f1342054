package maps

import (
	"slices"
	"strings"

	"chatelaine/api"
	"chatelaine/json"
	"chatelaine/types"
)

// values are those of the nodes so far, by their numbers. No node has the value null, so that null stands for none.
type values []api.Json

func (l *values) add(v api.Json) { *l = append(*l, v) }

// has tells whether the node of that number is one of these.
func (l values) has(number int) bool { return 0 <= number && number < len(l) }

// at is the value of the node of that number; none if it is not one of these.
func (l values) at(number int) api.Json {
	if !l.has(number) {
		return api.Json{}
	}
	return l[number]
}

// of is the value of a node behind these, for the claims v.
func (l values) of(n api.Node, v api.Json) api.Json {
	switch n.Op {
	case api.OpText:
		return json.Text(n.Text)
	case api.OpInt:
		return json.Int(n.Int)
	case api.OpClaim:
		return claim(v, n.Text)
	case api.OpHas:
		return truth(!isNone(claim(v, n.Text)))
	case api.OpLower, api.OpFirst, api.OpHead, api.OpTail, api.OpNot:
		return ofOne(n.Op, l.at(n.A))
	}
	if !l.has(n.A) || !l.has(n.B) {
		return api.Json{}
	}
	return ofTwo(n.Op, l[n.A], l[n.B])
}

// claim is a claim of one of the types that an expression may have; none if there is no such claim.
func claim(v api.Json, name string) api.Json {
	value, _ := json.Get(v, name)
	for t := api.TypeText; t <= api.TypeTexts; t++ {
		if types.Fits(value, t) {
			return value
		}
	}
	return api.Json{}
}

// one and two are an operator and the kinds of its operands. The kind tells a value's type: a list is one of texts, since claim lets no other in.
type (
	one struct{ op, a int }
	two struct{ op, a, b int }
)

// ofOne is what an operator makes of one operand.
func ofOne(op int, a api.Json) api.Json {
	switch (one{op, a.Kind}) {
	case one{api.OpLower, api.JsonText}:
		return json.Text(lower(a.Text))
	case one{api.OpHead, api.JsonText}:
		head, _, ok := strings.Cut(a.Text, "@")
		return textIf(ok, head)
	case one{api.OpTail, api.JsonText}:
		_, tail, ok := strings.Cut(a.Text, "@")
		return textIf(ok, tail)
	case one{api.OpFirst, api.JsonList}:
		return values(a.List).at(0)
	case one{api.OpNot, api.JsonBool}:
		return truth(!a.Bool)
	}
	return api.Json{}
}

// ofTwo is what an operator makes of two operands, which may be none.
func ofTwo(op int, a, b api.Json) api.Json {
	switch op {
	case api.OpAnd:
		return truth(isTrue(a) && isTrue(b))
	case api.OpOr:
		return truth(isTrue(a) || isTrue(b))
	case api.OpElse:
		if isNone(a) {
			return b
		}
		return a
	}
	switch (two{op, a.Kind, b.Kind}) {
	case two{api.OpJoin, api.JsonText, api.JsonText}:
		return join(a.Text, b.Text)
	case two{api.OpStarts, api.JsonText, api.JsonText}:
		return truth(strings.HasPrefix(a.Text, b.Text))
	case two{api.OpLess, api.JsonInt, api.JsonInt}:
		return truth(a.Int < b.Int)
	case two{api.OpIn, api.JsonText, api.JsonList}:
		return truth(slices.ContainsFunc(b.List, func(v api.Json) bool { return json.Same(a, v) }))
	case two{api.OpEqual, api.JsonText, api.JsonText}, two{api.OpEqual, api.JsonInt, api.JsonInt}, two{api.OpEqual, api.JsonBool, api.JsonBool}:
		return truth(json.Same(a, b))
	}
	return api.Json{}
}

func isNone(v api.Json) bool { return v.Kind == api.JsonNull }

func isTrue(v api.Json) bool { return v.Kind == api.JsonBool && v.Bool }

func truth(b bool) api.Json { return api.Json{Kind: api.JsonBool, Bool: b} }

// textIf is a text as a value, or none.
func textIf(ok bool, s string) api.Json {
	if !ok {
		return api.Json{}
	}
	return json.Text(s)
}

func join(a, b string) api.Json {
	if len(a)+len(b) > api.MaxText {
		return api.Json{}
	}
	return json.Text(a + b)
}

// lower goes by bytes: letters other than these stay as they are, and so does what is no letter at all.
func lower(s string) string {
	text := []byte(s)
	for i, c := range text {
		if 'A' <= c && c <= 'Z' {
			text[i] = c - 'A' + 'a'
		}
	}
	return string(text)
}
