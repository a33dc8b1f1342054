package claims

import (
	"chatelaine/api"
	"chatelaine/json"
)

// own is the claims that each token has.
func own(w api.Want, subject string, life int) api.Json {
	v := api.Json{Kind: api.JsonObject}
	v = with(v, "iss", json.Text(w.Issuer))
	v = with(v, "sub", json.Text(subject))
	v = with(v, "aud", json.Text(w.For))
	v = with(v, "exp", json.Int(Add(w.Now, life)))
	v = with(v, "iat", json.Int(Add(w.Now, 0)))
	if w.Nonce != "" {
		v = with(v, "nonce", json.Text(w.Nonce))
	}
	return v
}

// withOthers has those claims of an object behind its own that are not the tokens' own.
func withOthers(v, more api.Json) api.Json {
	if more.Kind != api.JsonObject || len(more.Names) != len(more.List) {
		return v
	}
	for i, name := range more.Names {
		if !Reserved(name) {
			v = with(v, name, more.List[i])
		}
	}
	return v
}

// with has one claim more at its end.
func with(v api.Json, name string, value api.Json) api.Json {
	v.Names = append(v.Names, name)
	v.List = append(v.List, value)
	return v
}
