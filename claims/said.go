package claims

import (
	"chatelaine/api"
	"chatelaine/json"
)

// said is what a token says of itself. What it may leave out is zero then: from 0 on it is good at any time, and an empty nonce is never asked for.
type said struct {
	issuer, audience, nonce string
	ends, made, from        int
}

// read takes out of claims what they say of the token; false if something is missing, or of another kind.
func read(v api.Json) (said, bool) {
	issuer, isIssuer := Text(v, "iss")
	subject, _ := Text(v, "sub") // empty, too, if it is missing
	audience, isAudience := Text(v, "aud")
	ends, isEnds := Int(v, "exp")
	made, isMade := Int(v, "iat")
	from, isFrom := Int(v, "nbf")
	nonce, isNonce := Text(v, "nonce")
	isWho := isIssuer && subject != "" && isAudience
	isWhen := isEnds && isMade && (isFrom || !has(v, "nbf"))
	if !isWho || !isWhen || !isNonce && has(v, "nonce") {
		return said{}, false
	}
	return said{issuer, audience, nonce, ends, made, from}, true
}

func has(v api.Json, name string) bool {
	_, ok := json.Get(v, name)
	return ok
}

// start is when the token is good at the earliest.
func (s said) start() int { return max(s.made, s.from) }
