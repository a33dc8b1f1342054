package claims_test

import (
	"math"
	"strings"
	"testing"

	"chatelaine/api"
	"chatelaine/claims"
	"chatelaine/json"
)

// checked is what Check must answer, read off the document line by line.
func checked(v api.Json, w api.Want) api.Errno {
	isKind := func(name string, kind int) bool { one := find(v, name); return one != nil && one.Kind == kind }
	for _, name := range []string{"iss", "sub", "aud"} {
		if !isKind(name, api.JsonText) {
			return api.ErrClaimsForm
		}
	}
	for _, name := range []string{"exp", "iat"} {
		if !isKind(name, api.JsonInt) {
			return api.ErrClaimsForm
		}
	}
	nbf, nonce := find(v, "nbf"), find(v, "nonce")
	if find(v, "sub").Text == "" || nbf != nil && nbf.Kind != api.JsonInt || nonce != nil && nonce.Kind != api.JsonText {
		return api.ErrClaimsForm
	}
	if find(v, "iss").Text != w.Issuer {
		return api.ErrClaimsIssuer
	}
	if find(v, "aud").Text != w.For {
		return api.ErrClaimsFor
	}
	if !(sum(find(v, "exp").Int, w.Slack) > sum(w.Now, 0)) {
		return api.ErrClaimsOver
	}
	latest := sum(w.Now, w.Slack)
	if sum(find(v, "iat").Int, 0) > latest || nbf != nil && sum(nbf.Int, 0) > latest {
		return api.ErrClaimsEarly
	}
	if w.Nonce != "" && (nonce == nil || nonce.Text != w.Nonce) {
		return api.ErrClaimsNonce
	}
	return api.OK
}

func check(t *testing.T, v api.Json, w api.Want) api.Errno {
	t.Helper()
	got, want := claims.Check(v, w), checked(v, w)
	if got != want {
		t.Errorf("P10.2: Check(%v, %v): %d, want %d", v, w, got, want)
	}
	return got
}

// checksTo is like check, and the answer is told ahead.
func checksTo(t *testing.T, v api.Json, w api.Want, want api.Errno) {
	t.Helper()
	if got := check(t, v, w); got != want {
		t.Errorf("P10.2: Check(%v, %v): %d, want %d", v, w, got, want)
	}
}

// small is claims that hold from 5 to 9, and whole those with all that may be there.
func small() api.Json {
	return object("iss", "i", "sub", "s", "aud", "c", "exp", 10, "iat", 5)
}

func whole() api.Json {
	return object("x", "y", "nonce", "n", "nbf", 6, "iat", 5, "exp", 10, "aud", "c", "sub", "s", "iss", "i", "z", list())
}

func at(now int) api.Want { return api.Want{Issuer: "i", For: "c", Now: now} }

// put is claims in which a name has another value, or which has it at its end.
func put(v api.Json, name string, value api.Json) api.Json {
	v = json.Object(v.Names, v.List)
	if one := find(v, name); one != nil {
		*one = value
		return v
	}
	return json.Object(append(v.Names, name), append(v.List, value))
}

// without is claims in which a name is missing.
func without(v api.Json, name string) api.Json {
	w := api.Json{Kind: v.Kind}
	for i := range v.Names {
		if v.Names[i] != name {
			w.Names, w.List = append(w.Names, v.Names[i]), append(w.List, v.List[i])
		}
	}
	return w
}

func TestExamplesOfCheck(t *testing.T) {
	checksTo(t, small(), at(9), api.OK)
	checksTo(t, small(), at(10), api.ErrClaimsOver)
	checksTo(t, small(), at(4), api.ErrClaimsEarly)
	for now := range 20 {
		want := api.OK
		if now < 6 {
			want = api.ErrClaimsEarly
		} else if now > 9 {
			want = api.ErrClaimsOver
		}
		checksTo(t, whole(), at(now), want)
	}
}

// kindOf is the kind that a reserved name must have, and whether it must be there.
func kindOf(name string) (int, bool) {
	switch name {
	case "iss", "sub", "aud":
		return api.JsonText, true
	case "exp", "iat":
		return api.JsonInt, true
	case "nbf":
		return api.JsonInt, false
	}
	return api.JsonText, false
}

func TestForm(t *testing.T) {
	for _, name := range reserved() {
		kind, must := kindOf(name)
		want := api.OK
		if must {
			want = api.ErrClaimsForm
		}
		checksTo(t, without(whole(), name), at(7), want)
		checksTo(t, put(without(whole(), name), strings.ToUpper(name), *find(whole(), name)), at(7), want)
		for _, one := range values() {
			got := check(t, put(whole(), name, one), at(7))
			if isForm := one.Kind != kind || name == "sub" && one.Text == ""; isForm != (got == api.ErrClaimsForm) {
				t.Errorf("P10.2: %s %v: %d", name, one, got)
			}
		}
	}
}

func TestCheckOfNoObject(t *testing.T) {
	for _, v := range notObjects() {
		checksTo(t, v, api.Want{}, api.ErrClaimsForm)
	}
	for kind := -1; kind < 8; kind++ {
		v := whole()
		v.Kind = kind
		want := api.ErrClaimsForm
		if kind == api.JsonObject {
			want = api.OK
		}
		checksTo(t, v, at(7), want)
	}
	v := whole()
	v.List = v.List[:len(v.List)-1]
	checksTo(t, v, at(7), api.ErrClaimsForm)
	v = whole()
	v.Names = append(v.Names, "more")
	checksTo(t, v, at(7), api.ErrClaimsForm)
}

// Claims that are not right otherwise, and claims that are twice there: the first counts.
func TestCheckOfWhatIsNotRight(t *testing.T) {
	for _, name := range reserved() {
		kind, _ := kindOf(name)
		v := whole()
		v.Names, v.List = append(v.Names, name), append(v.List, null)
		checksTo(t, v, at(7), api.OK)
		v = object(name, null)
		v.Names, v.List = append(v.Names, whole().Names...), append(v.List, whole().List...)
		checksTo(t, v, at(7), api.ErrClaimsForm)
		odd := *find(whole(), name)
		odd.Bool, odd.Names, odd.List = true, []string{"a"}, []api.Json{null, null}
		if kind == api.JsonText {
			odd.Int = 3
		}
		checksTo(t, put(whole(), name, odd), at(7), api.OK)
	}
	v := put(whole(), "x", api.Json{Kind: 9})
	v.Bool, v.Int, v.Text = true, 5, "a"
	checksTo(t, v, at(7), api.OK)
	checksTo(t, object("iss", "\xff", "sub", "\xff", "aud", "\xff", "exp", 10, "iat", 5, "nonce", "\xff"), api.Want{Issuer: "\xff", For: "\xff", Nonce: "\xff", Now: 7}, api.OK)
	checksTo(t, put(whole(), "x", json.Text(strings.Repeat("a", 5000))), at(7), api.OK)
}

func TestWhoAndNonce(t *testing.T) {
	texts := []string{"", "i", "I", "i ", "ii", "c", "é", "\xff", "i\x00", strings.Repeat("a", 5000)}
	for _, said := range texts {
		for _, wanted := range texts {
			e := check(t, put(whole(), "iss", json.Text(said)), api.Want{Issuer: wanted, For: "c", Now: 7})
			if (e == api.OK) != (said == wanted) || (e == api.ErrClaimsIssuer) != (said != wanted) {
				t.Errorf("P10.2: iss %q and %q: %d", said, wanted, e)
			}
			e = check(t, put(whole(), "aud", json.Text(said)), api.Want{Issuer: "i", For: wanted, Now: 7})
			if (e == api.OK) != (said == wanted) || (e == api.ErrClaimsFor) != (said != wanted) {
				t.Errorf("P10.2: aud %q and %q: %d", said, wanted, e)
			}
			e = check(t, put(whole(), "nonce", json.Text(said)), api.Want{Issuer: "i", For: "c", Nonce: wanted, Now: 7})
			if holds := wanted == "" || said == wanted; (e == api.OK) != holds || (e == api.ErrClaimsNonce) == holds {
				t.Errorf("P10.2: nonce %q and %q: %d", said, wanted, e)
			}
			checksTo(t, put(whole(), "sub", json.Text("s"+said)), api.Want{Issuer: "i", For: "c", Now: 7}, api.OK)
		}
		e := check(t, small(), api.Want{Issuer: "i", For: "c", Nonce: said, Now: 7})
		if (e == api.OK) != (said == "") || (e == api.ErrClaimsNonce) != (said != "") {
			t.Errorf("P10.2: no nonce and %q: %d", said, e)
		}
	}
}

// The two orders of each pair of times, at every edge and with every slack.
func TestTimes(t *testing.T) {
	some := []int{math.MinInt, -clock, -1, 0, 1, 2, 5, clock - 2, clock - 1, clock, clock + 1, math.MaxInt}
	for _, now := range some {
		for _, slack := range some {
			w := at(now)
			w.Slack = slack
			for _, n := range times() {
				check(t, put(small(), "exp", json.Int(n)), w)
				v := put(small(), "exp", json.Int(math.MaxInt))
				check(t, put(v, "iat", json.Int(n)), w)
				check(t, put(v, "nbf", json.Int(n)), w)
				check(t, put(put(v, "iat", json.Int(math.MinInt)), "nbf", json.Int(n)), w)
				check(t, put(put(v, "iat", json.Int(n)), "nbf", json.Int(math.MinInt)), w)
			}
		}
	}
}

func TestTimesOfSmallNumbers(t *testing.T) {
	seen := map[api.Errno]int{}
	for n := range 7 * 7 * 7 * 7 * 7 {
		exp, iat, nbf, now, slack := n%7-1, n/7%7-1, n/49%7-1, n/343%7-1, n/2401-2
		v := object("iss", "i", "sub", "s", "aud", "c", "exp", exp, "iat", iat)
		w := at(now)
		w.Slack = slack
		seen[check(t, v, w)]++
		seen[check(t, put(v, "nbf", json.Int(nbf)), w)]++
	}
	for _, e := range []api.Errno{api.OK, api.ErrClaimsOver, api.ErrClaimsEarly} {
		if seen[e] < 1000 {
			t.Errorf("the answer %d is among them %d times", e, seen[e])
		}
	}
}

// Where the clock stands still nothing is good any more, whatever the slack.
func TestEndOfTheClock(t *testing.T) {
	v := object("iss", "i", "sub", "s", "aud", "c", "exp", math.MaxInt, "iat", math.MaxInt)
	for _, slack := range times() {
		for _, now := range []int{clock, clock + 1, math.MaxInt} {
			checksTo(t, v, api.Want{Issuer: "i", For: "c", Now: now, Slack: slack}, api.ErrClaimsOver)
		}
	}
	checksTo(t, v, at(clock-1), api.ErrClaimsEarly)
	checksTo(t, v, api.Want{Issuer: "i", For: "c", Now: clock - 1, Slack: 1}, api.OK)
	checksTo(t, put(v, "exp", json.Int(clock-1)), api.Want{Issuer: "i", For: "c", Now: clock - 1, Slack: 1}, api.OK)
	checksTo(t, put(v, "exp", json.Int(clock-1)), api.Want{Issuer: "i", For: "c", Now: clock - 1}, api.ErrClaimsOver)
}

// faulty is claims, and what is wanted of them, with those faults that the bits say.
func faulty(faults int) (api.Json, api.Want) {
	v, w := whole(), api.Want{Issuer: "i", For: "c", Nonce: "n", Now: 7}
	for i, change := range []func(){
		func() { v = without(v, "iss") },
		func() { v = put(v, "sub", json.Text("")) },
		func() { v = put(v, "nbf", null) },
		func() { v = put(v, "nonce", json.Int(0)) },
		func() { w.Issuer = "j" },
		func() { w.For = "d" },
		func() { v = put(v, "exp", json.Int(7)) },
		func() { v = put(v, "iat", json.Int(8)) },
		func() { w.Nonce = "m" },
	} {
		if faults>>i&1 == 1 {
			change()
		}
	}
	return v, w
}

func TestOrderOfFaults(t *testing.T) {
	errors := []api.Errno{api.ErrClaimsForm, api.ErrClaimsForm, api.ErrClaimsForm, api.ErrClaimsForm, api.ErrClaimsIssuer, api.ErrClaimsFor, api.ErrClaimsOver, api.ErrClaimsEarly, api.ErrClaimsNonce}
	for faults := range 1 << len(errors) {
		want := api.OK
		for i := len(errors) - 1; i >= 0; i-- {
			if faults>>i&1 == 1 {
				want = errors[i]
			}
		}
		v, w := faulty(faults)
		checksTo(t, v, w, want)
	}
}

// choices are the claims of a name that Check might tell apart; nil: it is not there.
func choices() [][]any {
	return [][]any{
		{"iss", nil, 1, "i", "j"},
		{"sub", nil, null, "", "s"},
		{"aud", nil, list(json.Text("c")), "c", ""},
		{"exp", nil, "10", 6, 7, 8},
		{"iat", nil, truth(true), 6, 7, 8},
		{"nbf", nil, "5", 6, 7, 8},
		{"nonce", nil, 0, "", "n", "m"},
	}
}

func TestAllCombinations(t *testing.T) {
	wants := []api.Want{at(7), {Issuer: "i", For: "c", Nonce: "n", Now: 7}, {Issuer: "i", For: "c", Nonce: "m", Now: 7, Slack: 1}, {Issuer: "j", Now: 6}}
	seen := map[api.Errno]int{}
	var try func(items []any, left [][]any)
	try = func(items []any, left [][]any) {
		if len(left) == 0 {
			v := object(items...)
			for _, w := range wants {
				seen[check(t, v, w)]++
			}
			return
		}
		for _, one := range left[0][1:] {
			if one == nil {
				try(items, left[1:])
			} else {
				try(append(items[:len(items):len(items)], left[0][0], one), left[1:])
			}
		}
	}
	try(nil, choices())
	for _, e := range []api.Errno{api.OK, api.ErrClaimsForm, api.ErrClaimsIssuer, api.ErrClaimsFor, api.ErrClaimsOver, api.ErrClaimsEarly, api.ErrClaimsNonce} {
		if seen[e] < 5 {
			t.Errorf("the answer %d is among them %d times", e, seen[e])
		}
	}
}

// What held once is over some day, and nothing else.
func TestWhatHeldLater(t *testing.T) {
	held := 0
	for _, exp := range times() {
		for _, iat := range times() {
			v := put(put(whole(), "exp", json.Int(exp)), "iat", json.Int(iat))
			for _, slack := range []int{math.MinInt, -1, 0, 1, 60, clock, math.MaxInt} {
				isHeld := false
				for _, now := range times() {
					e := claims.Check(v, api.Want{Issuer: "i", For: "c", Nonce: "n", Now: now, Slack: slack})
					if isHeld && e != api.OK && e != api.ErrClaimsOver {
						t.Errorf("P10.4: exp %d, iat %d, now %d, slack %d: %d", exp, iat, now, slack, e)
					}
					isHeld = isHeld || e == api.OK
				}
				if isHeld {
					held++
				}
			}
		}
	}
	if held < 1000 {
		t.Errorf("%d of the claims held", held)
	}
}
