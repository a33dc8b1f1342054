package claims_test

import (
	"math"
	"slices"
	"strconv"
	"strings"
	"testing"

	"chatelaine/api"
	"chatelaine/claims"
	"chatelaine/json"
)

// longest is how many bytes a text that is printed may have, as the document says it.
const longest = 4096

// made is what Make must answer.
func made(w api.Want, subject string, life int, more api.Json) (api.Json, bool) {
	v := object("iss", w.Issuer, "sub", subject, "aud", w.For, "exp", sum(w.Now, life), "iat", sum(w.Now, 0))
	if w.Nonce != "" {
		v = put(v, "nonce", json.Text(w.Nonce))
	}
	if more.Kind == api.JsonObject && len(more.Names) == len(more.List) {
		for i := range more.Names {
			if !slices.Contains(reserved(), more.Names[i]) {
				v.Names, v.List = append(v.Names, more.Names[i]), append(v.List, more.List[i])
			}
		}
	}
	if _, ok := json.Print(v); subject == "" || !ok {
		return null, false
	}
	return v, true
}

// makes holds Make against made, and Check against what it makes.
func makes(t *testing.T, w api.Want, subject string, life int, more api.Json) (api.Json, bool) {
	t.Helper()
	got, ok := claims.Make(w, subject, life, more)
	if want, is := made(w, subject, life, more); ok != is || !json.Same(got, want) {
		t.Errorf("P10.3: Make(%.200v, %.70q, %d): %v, %v, want %v, %v", w, subject, life, got, ok, want, is)
	}
	if ok {
		want := api.ErrClaimsOver
		if sum(w.Now, 0) < sum(got.List[3].Int, w.Slack) {
			want = api.OK
		}
		if e := claims.Check(got, w); e != want {
			t.Errorf("P10.4: Check of Make(%v, %q, %d): %d, want %d", w, subject, life, e, want)
		}
	}
	return got, ok
}

// makesText is like makes, and the text of what is made is told ahead: an empty one if nothing is made.
func makesText(t *testing.T, w api.Want, subject string, life int, more api.Json, want string) {
	t.Helper()
	v, ok := makes(t, w, subject, life, more)
	if text, _ := json.Print(v); ok != (want != "") || ok && text != want {
		t.Errorf("P10.3: Make(%v, %q, %d): %s, %v, want %s", w, subject, life, text, ok, want)
	}
	if !ok && !json.Same(v, null) {
		t.Errorf("P10.3: beside false stands %v", v)
	}
}

func TestMake(t *testing.T) {
	w := api.Want{Issuer: "i", For: "c", Now: 5, Slack: 3}
	bare := `{"iss":"i","sub":"s","aud":"c","exp":15,"iat":5}`
	makesText(t, w, "s", 10, null, bare)
	makesText(t, w, "s", 10, object(), bare)
	makesText(t, w, "s", 10, object("b", 1, "a", list(null), "", "x"), `{"iss":"i","sub":"s","aud":"c","exp":15,"iat":5,"b":1,"a":[null],"":"x"}`)
	makesText(t, w, "", 10, null, "")
	makesText(t, api.Want{}, "s", 0, null, `{"iss":"","sub":"s","aud":"","exp":0,"iat":0}`)
	w.Nonce = "n"
	makesText(t, w, "s", 10, object("nonce", "m", "z", "y"), `{"iss":"i","sub":"s","aud":"c","exp":15,"iat":5,"nonce":"n","z":"y"}`)
	makesText(t, w, "s", -10, null, `{"iss":"i","sub":"s","aud":"c","exp":5,"iat":5,"nonce":"n"}`)
	w.Now = -7
	makesText(t, w, "s", 10, null, `{"iss":"i","sub":"s","aud":"c","exp":10,"iat":0,"nonce":"n"}`)
	w.Now = math.MaxInt
	makesText(t, w, "s", math.MaxInt, null, `{"iss":"i","sub":"s","aud":"c","exp":1099511627776,"iat":1099511627776,"nonce":"n"}`)
}

// That a reserved name has a value in more counts nowhere, whatever it is.
func TestMakeLeavesReservedNamesOut(t *testing.T) {
	w := api.Want{Issuer: "i", For: "c", Now: 5}
	bare := `{"iss":"i","sub":"s","aud":"c","exp":15,"iat":5`
	all := []any{"b", 1}
	for _, name := range reserved() {
		for _, one := range values() {
			makesText(t, w, "s", 10, object(name, one), bare+"}")
			makesText(t, w, "", 10, object(name, one), "")
			makesText(t, w, "s", 10, object("x", 1, name, one, "y", 2, name, one), bare+`,"x":1,"y":2}`)
			all = append(all, name, one)
		}
		makesText(t, w, "s", 10, object(strings.ToUpper(name), 1, name+" ", 2), bare+`,"`+strings.ToUpper(name)+`":1,"`+name+` ":2}`)
	}
	makesText(t, w, "s", 10, object(append(all, "a", 2)...), bare+`,"b":1,"a":2}`)
}

func TestMakeWithMoreThatIsNoObject(t *testing.T) {
	w := api.Want{Issuer: "i", For: "c", Now: 5}
	bare := `{"iss":"i","sub":"s","aud":"c","exp":15,"iat":5}`
	for _, more := range append(notObjects(), values()...) {
		if find(more, "a") == nil && find(more, "x") == nil {
			makesText(t, w, "s", 10, more, bare)
			makesText(t, w, "", 10, more, "")
		}
	}
	odd := object("x", 1)
	odd.Bool, odd.Int, odd.Text = true, 5, "a"
	makesText(t, w, "s", 10, odd, `{"iss":"i","sub":"s","aud":"c","exp":15,"iat":5,"x":1}`)
}

// What would not be right is not made.
func TestMakeOfWhatIsNotRight(t *testing.T) {
	w := api.Want{Issuer: "i", For: "c", Nonce: "n", Now: 5}
	for _, s := range []string{"\xff", "a\xc3", "\xed\xa0\x80", "\xc0\x80", "\xf4\x90\x80\x80"} {
		makesText(t, api.Want{Issuer: s, For: "c"}, "s", 1, null, "")
		makesText(t, api.Want{Issuer: "i", For: s}, "s", 1, null, "")
		makesText(t, api.Want{Issuer: "i", For: "c", Nonce: s}, "s", 1, null, "")
		makesText(t, w, s, 1, null, "")
		makesText(t, w, "s", 1, object(s, 1), "")
		makesText(t, w, "s", 1, object("a", s), "")
		makesText(t, w, "s", 1, object("a", list(json.Text(s))), "")
	}
	for _, one := range values() {
		_, ok := makes(t, w, "s", 1, object("x", 1, "a", one))
		if ok != json.Right(one) {
			t.Errorf("P10.3: with %v: %v", one, ok)
		}
	}
	makesText(t, w, "s", 1, object("a", 1, "b", 2, "a", 1), "")
	makesText(t, w, "s", 1, object("", 1, "", 2), "")
	makesText(t, w, "s", 1, object("a", object("b", 1, "b", 1)), "")
}

func TestMakeOfDeepValues(t *testing.T) {
	w := api.Want{Issuer: "i", For: "c", Now: 5}
	for deep := range 40 {
		_, ok := makes(t, w, "s", 1, object("a", nested(json.Int(1), deep)))
		if ok != (deep <= 15) {
			t.Errorf("P10.3: with %d levels: %v", deep, ok)
		}
	}
	far := nested(json.Int(1), 1<<16-1)
	if v, ok := claims.Make(w, "s", 1, object("a", far)); ok || !json.Same(v, null) {
		t.Error("P10.3: a deep value is made")
	}
	if _, ok := claims.Make(w, "s", 1, object("nbf", far)); !ok {
		t.Error("P10.3: a deep value that is left out is in the way")
	}
	checksTo(t, put(small(), "x", far), at(7), api.OK)
	checksTo(t, put(small(), "nbf", far), at(7), api.ErrClaimsForm)
	if s, ok := claims.Text(object("a", far), "a"); ok || s != "" {
		t.Error("P10.1: Text of a deep value")
	}
}

func TestMakeOfLongTexts(t *testing.T) {
	left := longest - len(`{"iss":"","sub":"s","aud":"","exp":6,"iat":5,"nonce":"n","a":""}`)
	for more := -2; more < 5; more++ {
		long := strings.Repeat("x", left+more)
		for i, c := range []struct {
			w       api.Want
			subject string
			more    api.Json
		}{
			{api.Want{Issuer: long, Nonce: "n", Now: 5}, "s", object("a", "")},
			{api.Want{For: long, Nonce: "n", Now: 5}, "s", object("a", "")},
			{api.Want{Nonce: "n" + long, Now: 5}, "s", object("a", "")},
			{api.Want{Nonce: "n", Now: 5}, "s" + long, object("a", "")},
			{api.Want{Nonce: "n", Now: 5}, "s", object("a", long)},
			{api.Want{Nonce: "n", Now: 5}, "s", object("a"+long, "")},
		} {
			if _, ok := makes(t, c.w, c.subject, 1, c.more); ok != (more <= 0) {
				t.Errorf("P10.3: text %d with %d bytes too many: %v", i, more, ok)
			}
		}
	}
	long := strings.Repeat("x", 1<<20)
	makesText(t, api.Want{Issuer: long}, "s", 1, null, "")
	makesText(t, api.Want{}, long, 1, null, "")
	makesText(t, api.Want{}, "s", 1, object("sub", long), `{"iss":"","sub":"s","aud":"","exp":1,"iat":0}`)
}

func TestMakeOfManyNames(t *testing.T) {
	var v api.Json
	for i := range 1 << 16 {
		v = api.Json{Kind: api.JsonObject, Names: append(v.Names, strconv.Itoa(i)), List: append(v.List, null)}
	}
	for many, want := range map[int]bool{0: true, 1: true, 300: true, 1 << 9: false, 1 << 16: false} {
		if _, ok := makes(t, at(5), "s", 1, json.Object(v.Names[:many], v.List[:many])); ok != want {
			t.Errorf("P10.3: with %d names: %v", many, ok)
		}
	}
	twice := object()
	for range 1 << 10 {
		twice.Names, twice.List = append(twice.Names, reserved()...), append(twice.List, values()[:len(reserved())]...)
	}
	makesText(t, at(5), "s", 1, twice, `{"iss":"i","sub":"s","aud":"c","exp":6,"iat":5}`)
}

// A value that has one list many times within it has more items than can be gone through.
func TestMakeOfValuesThatAreFarTooGreat(t *testing.T) {
	v := list(null, null)
	for range 12 {
		v = list(v, v, v, v, v, v, v, v, v, v)
	}
	for _, name := range []string{"a", "nbf"} {
		got, ok := claims.Make(at(5), "s", 1, api.Json{Kind: api.JsonObject, Names: []string{name}, List: []api.Json{v}})
		if ok != (name == "nbf") || !ok && !json.Same(got, null) {
			t.Errorf("P10.3: %s: %v", name, ok)
		}
	}
}

func TestMakeAtManyTimes(t *testing.T) {
	for _, now := range times() {
		for _, life := range times() {
			for _, slack := range []int{math.MinInt, -1, 0, 1, clock, math.MaxInt} {
				for _, nonce := range []string{"", "n"} {
					w := api.Want{Issuer: "i", For: "c", Nonce: nonce, Now: now, Slack: slack}
					v, ok := makes(t, w, "s", life, object("nbf", math.MaxInt, "exp", 0, "x", 1))
					if !ok {
						t.Fatalf("P10.3: nothing is made at %d for %d", now, life)
					}
					checkLater(t, v, w)
				}
			}
		}
	}
}

// checkLater holds that what is made is good for a while, and then over, and nothing else.
func checkLater(t *testing.T, v api.Json, w api.Want) {
	t.Helper()
	start, slack := sum(w.Now, 0), w.Slack
	for _, now := range times() {
		if sum(now, 0) < start {
			continue
		}
		want := api.ErrClaimsOver
		if sum(now, 0) < sum(v.List[3].Int, slack) {
			want = api.OK
		}
		w.Now = now
		if e := claims.Check(v, w); e != want {
			t.Errorf("P10.4: Check(%v, %v): %d, want %d", v, w, e, want)
		}
	}
}

// shared is an object with room behind its lists, which has one list in three places.
func shared() api.Json {
	one := api.Json{Kind: api.JsonList, List: append(make([]api.Json, 0, 9), json.Int(1), object("p", "q"))}
	names := append(make([]string, 0, 20), "a", "iss", "b", "c")
	return api.Json{Kind: api.JsonObject, Names: names, List: append(make([]api.Json, 0, 20), one, one, object("d", one), one)}
}

const sharedText = `{"a":[1,{"p":"q"}],"iss":[1,{"p":"q"}],"b":{"d":[1,{"p":"q"}]},"c":[1,{"p":"q"}]}`
const madeText = `{"iss":"i","sub":"s","aud":"c","exp":6,"iat":5,"a":[1,{"p":"q"}],"b":{"d":[1,{"p":"q"}]},"c":[1,{"p":"q"}]}`

func isText(v api.Json, want string) bool {
	s, ok := json.Print(v)
	return ok && s == want
}

func TestArgumentsAreLeftAlone(t *testing.T) {
	more := shared()
	v, _ := claims.Make(at(5), "s", 1, more)
	claims.Make(at(5), "", 1, more)
	spoil(v)
	names, values := more.Names[:cap(more.Names)], more.List[:cap(more.List)]
	for i := len(more.Names); i < len(names); i++ {
		if names[i] != "" || !json.Same(values[i], null) {
			t.Errorf("R5: what lies behind an argument of Make was changed: %q, %v", names[i], values[i])
		}
	}
	if !isText(more, sharedText) {
		t.Errorf("R5: an argument of Make was changed: %v", more)
	}
	all := whole()
	for now := range 20 {
		claims.Check(all, at(now))
		for _, name := range all.Names {
			claims.Text(all, name)
			claims.Int(all, name)
		}
	}
	if !json.Same(all, whole()) {
		t.Errorf("R5: an argument was changed: %v", all)
	}
}

func TestAnswersBelongToTheCaller(t *testing.T) {
	more := shared()
	one, _ := claims.Make(at(5), "s", 1, more)
	two, _ := claims.Make(at(5), "s", 1, more)
	spoil(more)
	if !isText(one, madeText) || !isText(two, madeText) {
		t.Errorf("R6: writing into an argument changes what was made of it: %v", one)
	}
	spoil(one)
	if !isText(two, madeText) {
		t.Errorf("R6: writing into an answer changes another one: %v", two)
	}
}

func TestListsOfAnAnswerShareNothing(t *testing.T) {
	for i := 5; i < 8; i++ {
		v, _ := claims.Make(at(5), "s", 1, shared())
		spoil(v.List[i])
		for j := 5; j < 8; j++ {
			if want, _ := claims.Make(at(5), "s", 1, shared()); j != i && !json.Same(v.List[j], want.List[j]) {
				t.Errorf("R6: writing into list %d changes %d: %v", i, j, v)
			}
		}
	}
}

func TestSameCallsHaveSameAnswers(t *testing.T) {
	for range 3 {
		v, ok := claims.Make(at(5), "s", 1, shared())
		if !ok || !isText(v, madeText) {
			t.Errorf("R7: Make: %v, %v", v, ok)
		}
		checksTo(t, v, at(5), api.OK)
		checksTo(t, v, at(6), api.ErrClaimsOver)
		if claims.Add(3, 4) != 7 || !claims.Reserved("aud") || claims.Reserved("a") {
			t.Error("R7: Add, or Reserved")
		}
	}
}
