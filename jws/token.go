package jws

import (
	"strings"

	"chatelaine/api"
	"chatelaine/base"
	"chatelaine/digest"
	"chatelaine/json"
)

// mostToken is how many bytes a token has at most, and macSize how many its signature has.
const (
	mostToken = 3 * api.MaxText
	macSize   = len(api.Digest{})
)

// dot stands between the parts of a token: no sign of an encoding is one.
const dot = "."

func encoded(s string) string { return base.Encode([]byte(s)) }

func joined(before, after string) string { return before + dot + after }

// decoded is the bytes that the three parts of a token are encodings of.
func decoded(s string) ([3][]byte, bool) {
	var parts [3][]byte
	if len(s) > mostToken || strings.Count(s, dot) != len(parts)-1 {
		return parts, false
	}
	for i, text := range strings.Split(s, dot) {
		b, ok := base.Decode(text)
		if !ok {
			return [3][]byte{}, false
		}
		parts[i] = b
	}
	return parts, true
}

// signedIn is what is signed of a token: as it came, since it might have been written otherwise than Sign would.
func signedIn(s string) string { return s[:strings.LastIndex(s, dot)] }

// object reads a part of a token.
func object(part []byte) (api.Json, bool) {
	v, e := json.Parse(string(part))
	if e != api.OK || v.Kind != api.JsonObject {
		return api.Json{}, false
	}
	return v, true
}

func macOf(key []byte, signed string) api.Digest { return digest.Mac(key, []byte(signed)) }
