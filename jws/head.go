package jws

import (
	"chatelaine/api"
	"chatelaine/json"
)

// alg is the only way of signing: a token can't choose one that is easier to forge.
const alg = "HS256"

// The names in a head, and there are no others.
const (
	algName   = "alg"
	kidName   = "kid"
	headNames = 2
)

// A kid has at most so many bytes, each from the first of these to the last: none of them is a space, or needs more than a byte.
const (
	mostKid  = 64
	firstKid = '!'
	lastKid  = '~'
)

// headOf is the first part of a token, as a text.
func headOf(kid string) string {
	text, _ := json.Print(json.Object([]string{algName, kidName}, []api.Json{json.Text(alg), json.Text(kid)})) // a kid is short, and ASCII
	return text
}

func hasAlg(head api.Json) bool {
	v, ok := json.Get(head, algName)
	return ok && json.Same(v, json.Text(alg))
}

// kidIn is the kid of a head that has an alg, and must have nothing else: what is not known here might change what the token says.
func kidIn(head api.Json) (string, bool) {
	v, ok := json.Get(head, kidName)
	if !ok || v.Kind != api.JsonText || !isKid(v.Text) || len(head.Names) != headNames {
		return "", false
	}
	return v.Text, true
}

func isKid(s string) bool {
	if s == "" || len(s) > mostKid {
		return false
	}
	for i := range len(s) {
		if s[i] < firstKid || s[i] > lastKid {
			return false
		}
	}
	return true
}
