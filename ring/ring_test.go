package ring_test

import (
	"bytes"
	"fmt"
	"math"
	"math/rand/v2"
	"regexp"
	"slices"
	"strings"
	"testing"

	"chatelaine/api"
	"chatelaine/ring"
)

// The errors and limits are written out here, as the document says them.
const (
	most  = 8
	clock = 1 << 40
)

var idForm = regexp.MustCompile(`\A[!-~]{1,64}\z`)

func key(id string, made, ends int) api.Key {
	return api.Key{Id: id, Secret: []byte("secret of " + id), Made: made, Ends: ends}
}

// keys are so many that are made one after the other, each good for 100.
func keys(many int) []api.Key {
	var l []api.Key
	for i := range many {
		l = append(l, key(fmt.Sprint("k", i), i, i+100))
	}
	return l
}

func sameKey(a, b api.Key) bool {
	return a.Id == b.Id && bytes.Equal(a.Secret, b.Secret) && a.Made == b.Made && a.Ends == b.Ends
}

func sameKeys(a, b []api.Key) bool { return slices.EqualFunc(a, b, sameKey) }

// told is keys as they are told of in a failure.
func told(l ...api.Key) string {
	var b strings.Builder
	for _, k := range l {
		fmt.Fprintf(&b, "{%.70q %.20q %d %d}", k.Id, k.Secret, k.Made, k.Ends)
	}
	return b.String()
}

// isRing is what Right must answer.
func isRing(l []api.Key) bool {
	ids := map[string]bool{}
	for _, k := range l {
		if !idForm.MatchString(k.Id) || k.Made < 0 || k.Ends <= k.Made || k.Ends > clock {
			return false
		}
		ids[k.Id] = true
	}
	return len(l) <= most && len(ids) == len(l) && slices.IsSortedFunc(l, func(a, b api.Key) int { return a.Made - b.Made })
}

// left is what Drop must answer.
func left(l []api.Key, now int) []api.Key {
	return slices.DeleteFunc(slices.Clone(l), func(k api.Key) bool { return !(k.Ends > now) })
}

// rotated is what Rotate must answer.
func rotated(l []api.Key, k api.Key, life int) ([]api.Key, api.Errno) {
	known := slices.ContainsFunc(l, func(other api.Key) bool { return other.Id == k.Id })
	if life <= 0 || k.Made < 0 || k.Made > clock-1 || !idForm.MatchString(k.Id) || known || len(l) > 0 && k.Made < l[len(l)-1].Made {
		return nil, api.ErrRingKey
	}
	m := left(l, k.Made)
	if len(m) > most-1 {
		return nil, api.ErrRingFull
	}
	k.Ends = clock
	if life < clock-k.Made {
		k.Ends = k.Made + life
	}
	return append(m, k), api.OK
}

// found are the keys of an Id that are good at now, or those of any if it is empty.
func found(l []api.Key, id string, now int) []api.Key {
	var m []api.Key
	for _, k := range l {
		if (id == "" || id == k.Id) && !(now < k.Made) && !(now >= k.Ends) {
			m = append(m, k)
		}
	}
	return m
}

func checkRight(t *testing.T, l []api.Key, want bool) {
	t.Helper()
	if isRing(l) != want {
		t.Fatalf("the second reader errs at %s", told(l...))
	}
	if ring.Right(l) != want {
		t.Errorf("P9.1: Right(%s): %v", told(l...), !want)
	}
}

func checkDrop(t *testing.T, l []api.Key, now int) {
	t.Helper()
	if got, want := ring.Drop(l, now), left(l, now); !sameKeys(got, want) {
		t.Errorf("P9.2: Drop(%s, %d): %s, want %s", told(l...), now, told(got...), told(want...))
	}
}

// checkRotate holds Rotate against rotated, and tells what it answers.
func checkRotate(t *testing.T, l []api.Key, k api.Key, life int) ([]api.Key, api.Errno) {
	t.Helper()
	got, e := ring.Rotate(l, k, life)
	if want, wantE := rotated(l, k, life); e != wantE || !sameKeys(got, want) {
		t.Errorf("P9.2: Rotate(%s, %s, %d): %s, %d, want %s, %d", told(l...), told(k), life, told(got...), e, told(want...), wantE)
	}
	if e == api.OK && isRing(l) && !ring.Right(got) {
		t.Errorf("P9.5: Rotate(%s, %s, %d): %s is no ring", told(l...), told(k), life, told(got...))
	}
	return got, e
}

// rotatesTo is like checkRotate, and the error is told ahead.
func rotatesTo(t *testing.T, l []api.Key, k api.Key, life int, want api.Errno) {
	t.Helper()
	if _, e := checkRotate(t, l, k, life); e != want {
		t.Errorf("P9.2: Rotate(%s, %s, %d): %d, want %d", told(l...), told(k), life, e, want)
	}
}

// checkOne asks for the only one of these that is wanted, and for a zero key and false if there are none.
func checkOne(t *testing.T, call string, got api.Key, ok bool, want []api.Key) {
	t.Helper()
	if len(want) == 0 {
		if ok || !sameKey(got, api.Key{}) {
			t.Errorf("P9.3: %s: %s, %v, want none", call, told(got), ok)
		}
	} else if !ok || !sameKey(got, want[0]) {
		t.Errorf("P9.3: %s: %s, %v, want %s", call, told(got), ok, told(want[0]))
	}
}

func checkSigning(t *testing.T, l []api.Key, now int) {
	t.Helper()
	want := found(l, "", now)
	slices.Reverse(want)
	got, ok := ring.Signing(l, now)
	checkOne(t, fmt.Sprintf("Signing(%s, %d)", told(l...), now), got, ok, want)
}

func checkFind(t *testing.T, l []api.Key, id string, now int) {
	t.Helper()
	got, ok := ring.Find(l, id, now)
	checkOne(t, fmt.Sprintf("Find(%s, %.70q, %d)", told(l...), id, now), got, ok, found(l, id, now))
}

func TestExamples(t *testing.T) {
	a := api.Key{Id: "a", Secret: []byte("x"), Made: 5}
	l, e := ring.Rotate(nil, a, 10)
	if e != api.OK || !sameKeys(l, []api.Key{{Id: "a", Secret: []byte("x"), Made: 5, Ends: 15}}) {
		t.Fatalf("P9.2: the first example: %s, %d", told(l...), e)
	}
	for now, want := range map[int]bool{4: false, 5: true, 14: true, 15: false} {
		if k, ok := ring.Signing(l, now); ok != want || (k.Id == "a") != want {
			t.Errorf("P9.3: Signing at %d: %s, %v", now, told(k), ok)
		}
	}
	m, e := ring.Rotate(l, api.Key{Id: "b", Secret: []byte("y"), Made: 20}, 10)
	if e != api.OK || !sameKeys(m, []api.Key{{Id: "b", Secret: []byte("y"), Made: 20, Ends: 30}}) {
		t.Errorf("P9.2: the last example: %s, %d", told(m...), e)
	}
}

func TestRightOfHowMany(t *testing.T) {
	checkRight(t, nil, true)
	checkRight(t, []api.Key{}, true)
	for many := range 20 {
		checkRight(t, keys(many), many <= 8)
	}
	checkRight(t, keys(100000), false)
}

// ids are some that are right, and some that are not.
func ids() map[string]bool {
	of := map[string]bool{"": false, "a b": false, "a\n": false, "\xff": false, "é": false, "\u2028": false, "a/b": true, `"\`: true}
	for c := range 256 {
		one := string([]byte{byte(c)})
		for _, id := range []string{one, one + one, one + "b", "a" + one, "a" + one + "b", strings.Repeat("a", 63) + one, one + strings.Repeat("a", 63)} {
			of[id] = 33 <= c && c <= 126
		}
	}
	for n := range 200 {
		of[strings.Repeat("k", n)] = 1 <= n && n <= 64
		of[strings.Repeat("~", n)] = 1 <= n && n <= 64
		of[strings.Repeat("é", n)] = false
	}
	of[strings.Repeat("k", 1<<16+1)] = false
	return of
}

func TestIds(t *testing.T) {
	for id, is := range ids() {
		want := api.ErrRingKey
		if is {
			want = api.OK
		}
		rotatesTo(t, nil, key(id, 5, 0), 10, want)
		rotatesTo(t, keys(3), key(id, 5, 0), 10, want)
		for i := range 3 {
			l := keys(3)
			l[i].Id = id
			checkRight(t, l, is)
		}
	}
}

func TestEqualIds(t *testing.T) {
	for i := range most {
		for j := range i {
			l := keys(most)
			l[i].Id = l[j].Id
			checkRight(t, l, false)
			checkRight(t, l[:i], true)
		}
	}
	l := keys(most - 1)
	for _, k := range l {
		rotatesTo(t, l, key(k.Id, 50, 0), 10, api.ErrRingKey)
		rotatesTo(t, l, key(k.Id, 500, 0), 10, api.ErrRingKey) // that the other one is over does not count
	}
	for _, id := range []string{"K0", "k", "k00", "0"} {
		rotatesTo(t, l, key(id, 50, 0), 10, api.OK)
	}
}

// numbersAbout are the numbers at which an answer might change, and those next to them.
func numbersAbout() []int {
	return []int{math.MinInt, math.MinInt + 1, -clock, -2, -1, 0, 1, 2, 3, 4, 5, 6, 7, 1<<31 - 1, 1 << 31, clock - 2, clock - 1, clock, clock + 1, math.MaxInt - 1, math.MaxInt}
}

func TestRightOfTimes(t *testing.T) {
	for _, made := range numbersAbout() {
		for _, ends := range numbersAbout() {
			checkRight(t, []api.Key{key("a", made, ends)}, 0 <= made && made < ends && ends <= clock)
			is := 0 <= made && made < ends && ends <= clock
			checkRight(t, []api.Key{key("a", 0, clock), key("b", made, ends)}, is)
			checkRight(t, []api.Key{key("a", made, ends), key("b", clock-1, clock)}, is)
			checkRight(t, []api.Key{key("a", 3, 4), key("b", made, ends), key("c", 6, 8)}, is && 3 <= made && made <= 6)
			checkRight(t, []api.Key{key("a", 5, 9), key("b", made, ends)}, is && 5 <= made)
		}
	}
}

// Whatever is wrong with any one of the keys, they are no ring.
func TestRightWithOneFault(t *testing.T) {
	for many := 1; many <= most; many++ {
		for i := range many {
			for _, spoil := range []func(k *api.Key){
				func(k *api.Key) { k.Id = "" }, func(k *api.Key) { k.Id = " " }, func(k *api.Key) { k.Id = strings.Repeat("a", 65) }, func(k *api.Key) { k.Made = -1 },
				func(k *api.Key) { k.Made = k.Ends }, func(k *api.Key) { k.Ends = k.Made }, func(k *api.Key) { k.Ends = clock + 1 }, func(k *api.Key) { k.Ends = -1 },
			} {
				l := keys(many)
				spoil(&l[i])
				checkRight(t, l, false)
			}
			l := keys(many)
			l[i].Secret = nil
			l[i].Ends = clock
			checkRight(t, l, true)
			l[i].Secret = make([]byte, 100000)
			checkRight(t, l, true)
		}
	}
}

func TestRightOfOrder(t *testing.T) {
	l := keys(most)
	for i := range l {
		l[i].Made = 7
	}
	checkRight(t, l, true)
	for i := range most - 1 {
		m := keys(most)
		m[i], m[i+1] = m[i+1], m[i]
		checkRight(t, m, false)
		m[i].Made = m[i+1].Made
		checkRight(t, m, true)
	}
	checkRight(t, []api.Key{key("a", 1, 100), key("b", 2, 5)}, true) // the end may come sooner than that of one before
}

func TestDropOfTimes(t *testing.T) {
	for _, ends := range numbersAbout() {
		for _, now := range numbersAbout() {
			checkDrop(t, []api.Key{key("a", 0, ends)}, now)
			if got := ring.Drop([]api.Key{key("a", 0, ends)}, now); (len(got) == 0) != (ends <= now) {
				t.Errorf("P9.2: Drop of a key that ends at %d, at %d: %s", ends, now, told(got...))
			}
			checkDrop(t, []api.Key{key("a", now, ends), key("b", now, 3), key("a", 3, ends)}, now)
		}
	}
	for now := range 120 {
		checkDrop(t, keys(most), now)
		checkDrop(t, keys(20), now)
	}
	for _, l := range [][]api.Key{nil, {}, {{}}, {{}, {}}, {{Ends: 1}, {Ends: 1}}} {
		checkDrop(t, l, 0)
		checkDrop(t, l, -1)
		checkDrop(t, l, 1)
	}
}

func TestRotateOfTimes(t *testing.T) {
	lists := [][]api.Key{nil, {key("a", 0, 5)}, {key("a", 5, 9)}, {key("a", 5, 6), key("b", 5, 9)}, {key("a", clock-1, clock)}, {key("a", 2, clock)}}
	for _, l := range lists {
		for _, made := range numbersAbout() {
			for _, life := range numbersAbout() {
				for _, ends := range []int{math.MinInt, -1, 0, made, 7, clock, math.MaxInt} {
					checkRotate(t, l, key("n", made, ends), life)
				}
			}
		}
	}
	for _, c := range []struct{ made, life, ends int }{{0, 1, 1}, {5, 10, 15}, {0, clock, clock}, {0, clock + 1, clock}, {0, clock - 1, clock - 1}, {clock - 1, 1, clock}, {clock - 1, 2, clock}, {1, math.MaxInt, clock}, {clock - 1, math.MaxInt, clock}, {7, clock - 7, clock}, {7, clock - 8, clock - 1}} {
		if l, e := ring.Rotate(nil, key("a", c.made, 3), c.life); e != api.OK || len(l) != 1 || l[0].Made != c.made || l[0].Ends != c.ends {
			t.Errorf("P9.2: Rotate of a key made at %d, with a life of %d: %s, %d", c.made, c.life, told(l...), e)
		}
	}
}

// It is the last key, and no other one, that a new one may not be older than, be it over or not.
func TestRotateOfAnOlderKey(t *testing.T) {
	l := []api.Key{key("a", 9, 20), key("b", 5, 6)}
	for made := range 30 {
		want := api.OK
		if made < 5 {
			want = api.ErrRingKey
		}
		rotatesTo(t, l, key("c", made, 0), 1, want)
	}
	rotatesTo(t, []api.Key{key("a", 9, 3)}, key("c", 8, 0), 1, api.ErrRingKey)
	rotatesTo(t, []api.Key{key("a", -9, -3)}, key("c", -5, 0), 1, api.ErrRingKey)
	rotatesTo(t, []api.Key{key("a", -9, -3)}, key("c", 0, 0), 1, api.OK)
	rotatesTo(t, []api.Key{key("a", clock, clock)}, key("c", clock, 0), 1, api.ErrRingKey)
	rotatesTo(t, []api.Key{key("a", math.MaxInt, 0)}, key("c", clock-1, 0), 1, api.ErrRingKey)
}

func TestRotateOfFullRings(t *testing.T) {
	for many := range 20 {
		l := keys(many) // they end at 100, 101, ..
		for made := 20; made < 130; made++ {
			over := min(many, max(0, made-99))
			want := api.OK
			if many-over >= 8 {
				want = api.ErrRingFull
			}
			rotatesTo(t, l, key("n", made, 0), 10, want)
		}
	}
	rotatesTo(t, keys(100000), key("n", 100000, 0), 10, api.ErrRingFull)
	rotatesTo(t, keys(100000), key("n", 200000, 0), 10, api.OK)
}

// What is wrong with the new key comes ahead of there being no place for it.
func TestRotateWithSeveralFaults(t *testing.T) {
	for _, many := range []int{most, most + 1, 50} {
		l := keys(many)
		rotatesTo(t, l, key("n", 60, 0), 1, api.ErrRingFull)
		rotatesTo(t, l, key("n", 60, 0), 0, api.ErrRingKey)
		rotatesTo(t, l, key("n", 60, 0), -1, api.ErrRingKey)
		rotatesTo(t, l, key("n", -1, 0), 1, api.ErrRingKey)
		rotatesTo(t, l, key("n", many-2, 0), 1, api.ErrRingKey)
		rotatesTo(t, l, key("", 60, 0), 1, api.ErrRingKey)
		rotatesTo(t, l, key("k0", 60, 0), 1, api.ErrRingKey)
		for i := range l {
			l[i].Ends = math.MaxInt
		}
		rotatesTo(t, l, key("n", clock-1, 0), 1, api.ErrRingFull)
		rotatesTo(t, l, key("n", clock, 0), 1, api.ErrRingKey)
	}
}

// allKeys are all of two Ids and few times.
func allKeys() []api.Key {
	var l []api.Key
	for _, id := range []string{"a", "b"} {
		for made := range 4 {
			for ends := range 4 {
				l = append(l, api.Key{Id: id, Secret: []byte{byte(len(l))}, Made: made, Ends: ends})
			}
		}
	}
	return l
}

// checkAll asks all of these keys at all times.
func checkAll(t *testing.T, l ...api.Key) {
	t.Helper()
	if ring.Right(l) != isRing(l) {
		t.Errorf("P9.1: Right(%s): %v", told(l...), !isRing(l))
	}
	for now := -1; now <= 4; now++ {
		checkSigning(t, l, now)
		checkDrop(t, l, now)
		for _, id := range []string{"a", "b", "c"} {
			checkFind(t, l, id, now)
			checkRotate(t, l, api.Key{Id: id, Made: now}, 2)
		}
	}
}

func TestAllSmallRings(t *testing.T) {
	all := allKeys()
	checkAll(t)
	for _, a := range all {
		checkAll(t, a)
		for _, b := range all {
			checkAll(t, a, b)
			for _, c := range all {
				checkAll(t, a, b, c)
			}
			if t.Failed() {
				return
			}
		}
	}
}

// Keys are found by all of their Id, of whatever form it is.
func TestFindOfOtherIds(t *testing.T) {
	long := strings.Repeat("k", 64)
	l := []api.Key{key("", 0, 9), key("a", 0, 9), key("ab", 0, 9), key("A", 0, 9), key(long, 0, 9), key(long+"k", 0, 9), key("é", 0, 9), key("\xff", 0, 9)}
	for _, k := range l {
		if got, ok := ring.Find(l, k.Id, 5); !ok || !sameKey(got, k) {
			t.Errorf("P9.3: Find(%.70q): %s, %v", k.Id, told(got), ok)
		}
	}
	for _, id := range []string{"b", "abc", "aB", " ", "a ", long[1:], long + "kk", "e", "\xfe", "\ufffd"} {
		checkFind(t, l, id, 5)
	}
	if k, ok := ring.Find(l[1:], "", 5); ok || !sameKey(k, api.Key{}) {
		t.Errorf("P9.3: Find of no Id: %s, %v", told(k), ok)
	}
}

func TestGoodAtManyTimes(t *testing.T) {
	for _, made := range numbersAbout() {
		for _, ends := range numbersAbout() {
			for _, now := range numbersAbout() {
				l := []api.Key{key("a", 0, 3), key("b", made, ends), key("c", 5, 7), key("b", 0, clock)}
				checkSigning(t, l[:2], now)
				checkSigning(t, l, now)
				checkFind(t, l, "b", now)
			}
		}
	}
	for _, now := range numbersAbout() {
		checkSigning(t, nil, now)
		checkFind(t, nil, "a", now)
		checkSigning(t, []api.Key{{}}, now)
		checkFind(t, []api.Key{{}}, "x", now)
	}
}

// someKeys are up to so many, often a ring.
func someKeys(r *rand.Rand, many int) []api.Key {
	var l []api.Key
	made := 0
	for i := range r.IntN(many + 1) {
		made += r.IntN(4)
		k := key(fmt.Sprint("k", i), made, made+1+r.IntN(60))
		if r.IntN(30) == 0 {
			k = key(fmt.Sprint("k", r.IntN(i+1)), made-r.IntN(5), made+r.IntN(3)-1)
		}
		l = append(l, k)
	}
	return l
}

func TestManyRings(t *testing.T) {
	r := rand.New(rand.NewPCG(9, 1))
	rings, fulls, oks := 0, 0, 0
	for range 100000 {
		l := someKeys(r, 12)
		if ring.Right(l) != isRing(l) {
			t.Errorf("P9.1: Right(%s): %v", told(l...), !isRing(l))
		}
		now := r.IntN(45)
		checkDrop(t, l, now)
		checkSigning(t, l, now)
		checkFind(t, l, fmt.Sprint("k", r.IntN(12)), now)
		_, e := checkRotate(t, l, key(fmt.Sprint("k", r.IntN(30)), now, 0), r.IntN(20))
		if isRing(l) {
			rings++
		}
		if e == api.OK {
			oks++
		} else if e == api.ErrRingFull {
			fulls++
		}
		if t.Failed() {
			return
		}
	}
	if rings < 30000 || oks < 30000 || fulls < 1000 {
		t.Errorf("%d rings, %d that were rotated, %d that were full", rings, oks, fulls)
	}
}
