package maps_test

import (
	"slices"
	"strings"

	"chatelaine/api"
	"chatelaine/json"
)

// The limit is written out here, as the document says it.
const mostBytes = 4096

// oracle is a second implementation: it goes from the last node to those that it needs, and its values are Go's own (nil for none), each named by a letter.
type oracle struct {
	nodes []api.Node
	v     api.Json
	done  map[int]any
}

// absent stands for an operand that is not ahead of its node.
type absent struct{}

func letter(x any) string {
	switch x.(type) {
	case string:
		return "T"
	case int:
		return "I"
	case bool:
		return "B"
	case []string:
		return "L"
	case absent:
		return "?"
	}
	return "-"
}

// plain is a claim as a value of Go's own.
func plain(v api.Json) any {
	switch v.Kind {
	case api.JsonText:
		return v.Text
	case api.JsonInt:
		return v.Int
	case api.JsonBool:
		return v.Bool
	case api.JsonList:
		l := []string{}
		for _, one := range v.List {
			if one.Kind != api.JsonText {
				return nil
			}
			l = append(l, one.Text)
		}
		return l
	}
	return nil
}

// asJson is the other way round.
func asJson(x any) api.Json {
	switch v := x.(type) {
	case string:
		return api.Json{Kind: 3, Text: v}
	case int:
		return api.Json{Kind: 2, Int: v}
	case bool:
		return api.Json{Kind: 1, Bool: v}
	case []string:
		l := api.Json{Kind: 4}
		for _, s := range v {
			l.List = append(l.List, asJson(s))
		}
		return l
	}
	return api.Json{}
}

// wanted is what Value must answer.
func wanted(nodes []api.Node, v api.Json) (api.Json, bool) {
	o := oracle{nodes, v, map[int]any{}}
	x := o.operand(len(nodes)-1, len(nodes))
	return asJson(x), x != nil && x != any(absent{})
}

// operand is the value of the node of number i, as an operand of that of number ahead.
func (o oracle) operand(i, ahead int) any {
	if i < 0 || i >= ahead {
		return absent{}
	}
	x, ok := o.done[i]
	if !ok {
		x = o.node(i)
		o.done[i] = x
	}
	return x
}

func (o oracle) node(i int) any {
	n := o.nodes[i]
	switch n.Op {
	case 1:
		return n.Text
	case 2:
		return n.Int
	case 3:
		return o.claim(n.Text)
	case 4:
		return o.claim(n.Text) != nil
	case 6, 7, 8, 9, 13:
		return single(n.Op, o.operand(n.A, i))
	}
	a, b := o.operand(n.A, i), o.operand(n.B, i)
	if letter(a) == "?" || letter(b) == "?" {
		return nil
	}
	return double(n.Op, a, b)
}

func (o oracle) claim(name string) any {
	if o.v.Kind != api.JsonObject || len(o.v.Names) != len(o.v.List) {
		return nil
	}
	for i := range o.v.Names {
		if o.v.Names[i] == name {
			return plain(o.v.List[i])
		}
	}
	return nil
}

func single(op int, a any) any {
	switch x := a.(type) {
	case bool:
		if op == 13 {
			return !x
		}
	case []string:
		if op == 7 && len(x) > 0 {
			return x[0]
		}
	case string:
		at := strings.IndexByte(x, '@')
		switch {
		case op == 6:
			return lowered(x)
		case op == 8 && at >= 0:
			return x[:at]
		case op == 9 && at >= 0:
			return x[at+1:]
		}
	}
	return nil
}

const (
	capitals = "ABCDEFGHIJKLMNOPQRSTUVWXYZ"
	smalls   = "abcdefghijklmnopqrstuvwxyz"
)

func lowered(s string) string {
	b := []byte(s)
	for i := range b {
		if at := strings.IndexByte(capitals, b[i]); at >= 0 {
			b[i] = smalls[at]
		}
	}
	return string(b)
}

func double(op int, a, b any) any {
	switch {
	case op == 14:
		return a == any(true) && b == any(true)
	case op == 15:
		return a == any(true) || b == any(true)
	case op == 16 && a == nil:
		return b
	case op == 16:
		return a
	}
	switch letter(a) + letter(b) {
	case "TT":
		return texts(op, a.(string), b.(string))
	case "II":
		if op == 11 {
			return a.(int) < b.(int)
		}
		return equalIf(op, a == b)
	case "BB":
		return equalIf(op, a == b)
	case "TL":
		if op == 12 {
			return slices.Contains(b.([]string), a.(string))
		}
	}
	return nil
}

func equalIf(op int, same bool) any {
	if op == 10 {
		return same
	}
	return nil
}

func texts(op int, a, b string) any {
	switch {
	case op == 5 && len(a+b) <= mostBytes:
		return a + b
	case op == 17:
		return len(a) >= len(b) && a[:len(b)] == b
	}
	return equalIf(op, a == b)
}

// wantedRun is what Run must answer.
func wantedRun(l []api.Rule, v api.Json) (api.Json, api.Errno) {
	var order []string
	values := map[string]api.Json{}
	for _, rule := range l {
		when, _ := wanted(rule.When, v)
		isWhen := when.Kind == api.JsonBool && when.Bool
		if rule.Name == "" {
			if isWhen {
				return api.Json{}, 130
			}
			continue
		}
		x, ok := wanted(rule.Expr, v)
		if !ok || len(rule.When) > 0 && !isWhen || slices.Contains(reserved(), rule.Name) {
			continue
		}
		if _, ok := values[rule.Name]; !ok {
			order = append(order, rule.Name)
		}
		values[rule.Name] = x
	}
	made := api.Json{Kind: api.JsonObject}
	for _, name := range order {
		made.Names = append(made.Names, name)
		made.List = append(made.List, values[name])
	}
	if !json.Right(made) {
		return api.Json{}, 131
	}
	return made, 0
}

func reserved() []string { return []string{"iss", "sub", "aud", "exp", "iat", "nbf", "nonce"} }
