package ring_test

import (
	"bytes"
	"fmt"
	"math"
	"math/rand/v2"
	"slices"
	"strings"
	"testing"

	"chatelaine/api"
	"chatelaine/json"
	"chatelaine/jws"
	"chatelaine/ring"
)

func sameToken(a, b api.Token) bool {
	return a.Kid == b.Kid && json.Same(a.Claims, b.Claims) && a.Signed == b.Signed && bytes.Equal(a.Mac, b.Mac)
}

func claimsOf(sub string) api.Json { return json.Object([]string{"sub"}, []api.Json{json.Text(sub)}) }

// signed is a token that names the kid, and is signed with the secret.
func signed(t *testing.T, kid, secret string) string {
	t.Helper()
	s, e := jws.Sign(kid, claimsOf("a"), []byte(secret))
	if e != api.OK {
		t.Fatalf("P8.1: Sign of the kid %.70q: %d", kid, e)
	}
	return s
}

// opened is what Open must answer.
func opened(l []api.Key, s string, now int) (api.Token, api.Errno) {
	x, e := jws.Open(s)
	if e != api.OK {
		return api.Token{}, e
	}
	of := found(l, x.Kid, now)
	if len(of) == 0 {
		return api.Token{}, api.ErrRingKey
	}
	if again, _ := jws.Sign(x.Kid, x.Claims, of[0].Secret); again != s { // so the tokens of these tests must be as Sign writes them
		return api.Token{}, api.ErrJwsMac
	}
	return x, api.OK
}

// opensTo asks for an error, and for the token itself if it is none.
func opensTo(t *testing.T, l []api.Key, s string, now int, want api.Errno) {
	t.Helper()
	wanted, wantE := opened(l, s, now)
	if wantE != want {
		t.Fatalf("the second reader errs at Open(%s, %.200q, %d): %d", told(l...), s, now, wantE)
	}
	if got, e := ring.Open(l, s, now); e != want || !sameToken(got, wanted) {
		t.Errorf("P9.4: Open(%s, %.200q, %d): %.200v, %d, want %.200v, %d", told(l...), s, now, got, e, wanted, want)
	}
}

func TestOpenAtManyTimes(t *testing.T) {
	for _, made := range numbersAbout() {
		for _, ends := range numbersAbout() {
			for _, now := range numbersAbout() {
				want := api.ErrRingKey
				if made <= now && now < ends {
					want = api.OK
				}
				opensTo(t, []api.Key{{Id: "a", Secret: []byte("x"), Made: made, Ends: ends}}, signed(t, "a", "x"), now, want)
			}
		}
	}
}

func TestOpenWithOneOfManyKeys(t *testing.T) {
	l := keys(most) // k0 is good from 0 to 99, k1 from 1 to 100, ..
	for i, k := range l {
		for _, other := range l {
			s := signed(t, k.Id, string(other.Secret))
			for _, now := range []int{-1, 0, i - 1, i, i + 1, 50, i + 99, i + 100, 200} {
				want := api.OK
				if now < i || now >= i+100 {
					want = api.ErrRingKey
				} else if k.Id != other.Id {
					want = api.ErrJwsMac
				}
				opensTo(t, l, s, now, want)
			}
		}
		opensTo(t, slices.Delete(slices.Clone(l), i, i+1), signed(t, k.Id, string(k.Secret)), 50, api.ErrRingKey)
	}
	opensTo(t, l, signed(t, "k8", "secret of k0"), 50, api.ErrRingKey)
	opensTo(t, l, signed(t, "K0", "secret of k0"), 50, api.ErrRingKey)
	opensTo(t, nil, signed(t, "k0", "secret of k0"), 50, api.ErrRingKey)
	opensTo(t, []api.Key{}, signed(t, "k0", ""), 50, api.ErrRingKey)
}

// What is wrong with a token's form comes first, then that no key is found, then the signature.
func TestOrderOfFaults(t *testing.T) {
	lists := map[string][]api.Key{"none": nil, "over": {{Id: "k", Secret: []byte("x"), Ends: 5}}, "good": {{Id: "k", Secret: []byte("x"), Ends: 50}}}
	right := signed(t, "k", "x")
	for s, want := range map[string]api.Errno{
		"": api.ErrJwsForm, "x": api.ErrJwsForm, "a.b": api.ErrJwsForm, "..": api.ErrJwsForm, right + ".": api.ErrJwsForm, right + "=": api.ErrJwsForm, "." + right: api.ErrJwsForm, right[1:]: api.ErrJwsForm,
		"e30.e30.": api.ErrJwsAlg, "e30." + strings.SplitN(right, ".", 2)[1]: api.ErrJwsAlg,
		strings.Repeat("A", 3*api.MaxText+1): api.ErrJwsForm, right[:len(right)-2]: api.ErrJwsForm, right[:len(right)-3]: api.ErrJwsMac, right[:len(right)-43]: api.ErrJwsMac, right + "A": api.ErrJwsMac, right + "AA": api.ErrJwsForm, right + "AAA": api.ErrJwsMac,
	} {
		for name, l := range lists {
			if x, e := ring.Open(l, s, 10); e != want || !sameToken(x, api.Token{}) {
				t.Errorf("P9.4: Open(%s, %.200q): %.200v, %d, want %d", name, s, x, e, want)
			}
		}
	}
	wrong := signed(t, "k", "y")
	for name, want := range map[string][2]api.Errno{"none": {api.ErrRingKey, api.ErrRingKey}, "over": {api.ErrRingKey, api.ErrRingKey}, "good": {api.OK, api.ErrJwsMac}} {
		opensTo(t, lists[name], right, 10, want[0])
		opensTo(t, lists[name], wrong, 10, want[1])
	}
}

// Of several keys of an Id it is the first good one that counts, be the others right or not.
func TestOpenWithKeysOfOneId(t *testing.T) {
	x, y := api.Key{Id: "a", Secret: []byte("x"), Made: 0, Ends: 10}, api.Key{Id: "a", Secret: []byte("y"), Made: 5, Ends: 15}
	for now, want := range map[int][4]api.Errno{ // x's token, y's token, with x ahead; the same with y ahead
		-1: {api.ErrRingKey, api.ErrRingKey, api.ErrRingKey, api.ErrRingKey},
		0:  {api.OK, api.ErrJwsMac, api.OK, api.ErrJwsMac},
		4:  {api.OK, api.ErrJwsMac, api.OK, api.ErrJwsMac},
		5:  {api.OK, api.ErrJwsMac, api.ErrJwsMac, api.OK},
		9:  {api.OK, api.ErrJwsMac, api.ErrJwsMac, api.OK},
		10: {api.ErrJwsMac, api.OK, api.ErrJwsMac, api.OK},
		15: {api.ErrRingKey, api.ErrRingKey, api.ErrRingKey, api.ErrRingKey},
	} {
		for i, l := range [][]api.Key{{x, y}, {y, x}} {
			opensTo(t, l, signed(t, "a", "x"), now, want[2*i])
			opensTo(t, l, signed(t, "a", "y"), now, want[2*i+1])
		}
	}
}

func TestEveryByteOfATokenCounts(t *testing.T) {
	l := []api.Key{{Id: "k", Secret: []byte("x"), Made: 0, Ends: 50}}
	s := signed(t, "k", "x")
	opensTo(t, l, s, 10, api.OK)
	for i := range len(s) {
		for c := range 256 {
			other := s[:i] + string([]byte{byte(c)}) + s[i+1:]
			if x, e := ring.Open(l, other, 10); (e == api.OK) != (other == s) || e != api.OK && !sameToken(x, api.Token{}) {
				t.Errorf("P9.4: Open(%q): %v, %d", other, x, e)
			}
		}
	}
}

// A secret is any bytes, and no key of a ring but its own opens a token.
func TestOpenWithOtherSecrets(t *testing.T) {
	secrets := []string{"x", "y", "xx", "x\x01", "\xff", strings.Repeat("x", 63), strings.Repeat("x", 65), strings.Repeat("x", 10000)}
	for _, a := range secrets {
		for _, b := range secrets {
			want := api.ErrJwsMac
			if a == b {
				want = api.OK
			}
			opensTo(t, []api.Key{{Id: "k", Secret: []byte(a), Ends: 50}}, signed(t, "k", b), 10, want)
		}
		opensTo(t, []api.Key{{Id: "k", Ends: 50}}, signed(t, "k", a), 10, api.ErrJwsMac)
	}
	opensTo(t, []api.Key{{Id: "k", Ends: 50}}, signed(t, "k", ""), 10, api.OK)
}

// one is a token, with the key that it was signed with.
type one struct {
	token string
	key   api.Key
}

// checkTokens asks of all tokens that they can be opened as long as their keys are good, and no longer.
func checkTokens(t *testing.T, l []api.Key, tokens []one, now int) {
	t.Helper()
	for _, x := range tokens {
		want := api.ErrRingKey
		if x.key.Made <= now && now < x.key.Ends {
			want = api.OK
		}
		if _, e := ring.Open(l, x.token, now); e != want {
			t.Fatalf("P9.5: Open(%s, .., %d) of a token of %s: %d, want %d", told(l...), now, told(x.key), e, want)
		}
	}
}

// A ring goes through its time, is rotated now and then, and signs; no key is made ahead of its time, and no Id comes twice.
func TestTokensOutliveRotations(t *testing.T) {
	r := rand.New(rand.NewPCG(9, 2))
	rotations, refusals, signatures := 0, 0, 0
	for range 200 {
		var l []api.Key
		var tokens []one
		now := 0
		for step := range 60 {
			now += r.IntN(5)
			k := key(fmt.Sprint("k", step), now-r.IntN(3), math.MaxInt)
			if m, e := checkRotate(t, l, k, 1+r.IntN(40)); e == api.OK {
				l = m
				rotations++
			} else {
				refusals++
			}
			if !ring.Right(l) {
				t.Fatalf("P9.5: %s is no ring", told(l...))
			}
			if k, ok := ring.Signing(l, now); ok {
				tokens = append(tokens, one{signed(t, k.Id, string(k.Secret)), k})
				signatures++
			}
			checkTokens(t, l, tokens, now)
			now++
			checkTokens(t, l, tokens, now)
		}
	}
	if rotations < 5000 || refusals < 1000 || signatures < 8000 {
		t.Errorf("%d rotations, %d that were refused, %d tokens", rotations, refusals, signatures)
	}
}

// A ring that is rotated as often as it can be is a ring all the time.
func TestRotatedRingsAreRings(t *testing.T) {
	var l []api.Key
	for i := range 2000 {
		made := i * i / 7
		m, e := checkRotate(t, l, key(fmt.Sprint("k", i), made, 0), 1+i%50*i)
		if e == api.ErrRingFull {
			continue
		}
		if e != api.OK || !ring.Right(m) || m[len(m)-1].Made != made {
			t.Fatalf("P9.5: Rotate of %s at %d: %s, %d", told(l...), made, told(m...), e)
		}
		l = m
	}
	last, e := ring.Rotate(l, key("last", clock-1, 0), 1)
	if e != api.OK || !ring.Right(last) || last[len(last)-1].Ends != clock {
		t.Errorf("P9.5: Rotate at the end of the clock: %s, %d", told(last...), e)
	}
	if again, e := ring.Rotate(last, key("more", clock-1, 0), math.MaxInt); e != api.OK || !ring.Right(again) {
		t.Errorf("P9.5: Rotate at the end of the clock: %s, %d", told(again...), e)
	}
}

// wiped writes into all memory of keys, that behind them included.
func wiped(l []api.Key) {
	for i := range l[:cap(l)] {
		secret := l[:cap(l)][i].Secret
		clear(secret[:cap(secret)])
		l[:cap(l)][i] = api.Key{Id: "wiped"}
	}
}

// withRoom is keys behind which, and behind whose secrets, there is room that an answer must not use.
func withRoom() []api.Key {
	l := keys(6)
	for i := range l {
		l[i].Secret = append(make([]byte, 0, 50), l[i].Secret...)
	}
	return l[:4]
}

func TestArgumentsAreLeftAlone(t *testing.T) {
	l := withRoom()
	k := key("n", 101, 7)
	s := signed(t, "k3", "secret of k3")
	for now := range 110 {
		ring.Right(l)
		ring.Drop(l, now)
		ring.Signing(l, now)
		ring.Find(l, "k2", now)
		ring.Open(l, s, now)
	}
	for _, life := range []int{0, 5} {
		wiped(first(ring.Rotate(l, k, life)))
	}
	if !sameKeys(l[:6], keys(6)) || !sameKey(k, key("n", 101, 7)) || s != signed(t, "k3", "secret of k3") {
		t.Errorf("R5: an argument, or what lies behind it, was changed: %s, %s", told(l[:6]...), told(k))
	}
	for _, k := range l[:6] {
		if !bytes.Equal(k.Secret[len(k.Secret):cap(k.Secret)], make([]byte, 50-len(k.Secret))) {
			t.Errorf("R5: what lies behind a secret was changed: %q", k.Secret[:cap(k.Secret)])
		}
	}
}

func first(l []api.Key, _ api.Errno) []api.Key { return l }

func keyOf(k api.Key, _ bool) []api.Key { return []api.Key{k} }

// answers are all that calls with these keys give.
func answers(l []api.Key, k api.Key) [][]api.Key {
	return [][]api.Key{ring.Drop(l, 50), ring.Drop(l, 101), first(ring.Rotate(l, k, 5)), first(ring.Rotate(nil, k, 5)), keyOf(ring.Signing(l, 50)), keyOf(ring.Find(l, "k2", 50))}
}

func TestAnswersBelongToTheCaller(t *testing.T) {
	l, k := withRoom(), key("n", 60, 7)
	want := answers(keys(4), key("n", 60, 7))
	for i := range want {
		got := answers(l, k)
		wiped(got[i])
		for j := range want {
			if j != i && !sameKeys(got[j], want[j]) {
				t.Errorf("R6: writing into the answer %d changes the answer %d: %s", i, j, told(got[j]...))
			}
		}
		if !sameKeys(l[:6], keys(6)) || !sameKey(k, key("n", 60, 7)) {
			t.Errorf("R6: writing into the answer %d changes an argument: %s", i, told(l...))
		}
	}
	got := answers(l, k)
	wiped(l)
	clear(k.Secret)
	for i := range want {
		if !sameKeys(got[i], want[i]) {
			t.Errorf("R6: writing into an argument changes the answer %d: %s", i, told(got[i]...))
		}
	}
}

// Keys that share a secret's memory share none in an answer.
func TestSecretsOfAnAnswerShareNothing(t *testing.T) {
	secret := []byte("of all of them")
	l := []api.Key{{Id: "a", Secret: secret, Ends: 50}, {Id: "b", Secret: secret, Ends: 60}}
	n := api.Key{Id: "c", Secret: secret[:5]}
	m, e := ring.Rotate(l, n, 70)
	if e != api.OK || len(m) != 3 {
		t.Fatalf("P9.2: Rotate(%s): %s, %d", told(l...), told(m...), e)
	}
	d := ring.Drop(l, 40)
	for i := range m {
		clear(m[i].Secret)
		for j := i + 1; j < len(m); j++ {
			if bytes.Contains(m[j].Secret, []byte{0}) {
				t.Errorf("R6: the secrets %d and %d of an answer share memory", i, j)
			}
		}
	}
	clear(d[0].Secret)
	if string(d[1].Secret) != "of all of them" || string(secret) != "of all of them" {
		t.Error("R6: the secrets of an answer of Drop share memory")
	}
}

func TestAnOpenedTokenBelongsToTheCaller(t *testing.T) {
	l, s := keys(1), signed(t, "k0", "secret of k0")
	x, _ := ring.Open(l, s, 5)
	y, _ := ring.Open(l, s, 5)
	clear(x.Mac[:cap(x.Mac)])
	x.Claims.Names[0], x.Claims.List[0] = "wiped", json.Int(1)
	if want, _ := jws.Open(s); !sameToken(y, want) || !sameKeys(l, keys(1)) {
		t.Errorf("R6: writing into a token changes something else: %v", y)
	}
	opensTo(t, l, s, 5, api.OK)
}

func TestSameCallsHaveSameAnswers(t *testing.T) {
	s := signed(t, "k1", "secret of k1")
	for range 3 {
		checkRight(t, keys(4), true)
		checkRight(t, keys(9), false)
		checkSigning(t, keys(4), 50)
		checkFind(t, keys(4), "k1", 50)
		checkDrop(t, keys(4), 101)
		rotatesTo(t, keys(4), key("n", 50, 0), 5, api.OK)
		rotatesTo(t, keys(8), key("n", 50, 0), 5, api.ErrRingFull)
		opensTo(t, keys(4), s, 50, api.OK)
		opensTo(t, keys(4), s, 101, api.ErrRingKey)
	}
}
