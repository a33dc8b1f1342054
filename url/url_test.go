package url_test

import (
	"regexp"
	"slices"
	"strings"
	"testing"

	"chatelaine/api"
	"chatelaine/pairs"
	"chatelaine/url"
)

// numbers is a source of numbers without a short period.
type numbers uint32

func (n *numbers) below(bound int) int {
	x := uint32(*n)
	x ^= x << 13
	x ^= x >> 17
	x ^= x << 5
	*n = numbers(x)
	return int(x>>8) % bound
}

// text is of at most most of the parts.
func (n *numbers) text(parts []string, most int) string {
	s := ""
	for range n.below(most + 1) {
		s += parts[n.below(len(parts))]
	}
	return s
}

// list makes pairs of names and values in turns.
func list(texts ...string) []api.Pair {
	var l []api.Pair
	for i := 0; i < len(texts); i += 2 {
		l = append(l, api.Pair{Name: texts[i], Value: texts[i+1]})
	}
	return l
}

func equal(a, b api.Url) bool {
	return a.Host == b.Host && a.Path == b.Path && slices.Equal(a.Query, b.Query)
}

func parsesTo(s, host, path string, query []api.Pair) bool {
	u, ok := url.Parse(s)
	return ok && equal(u, api.Url{Host: host, Path: path, Query: query})
}

func refused(s string) bool {
	u, ok := url.Parse(s)
	return !ok && equal(u, api.Url{})
}

// form is that of P4.1, but for the lengths, the port's bound and the query.
var form = regexp.MustCompile(`(?s)^https://((?:[a-z0-9](?:[a-z0-9-]*[a-z0-9])?)(?:\.[a-z0-9](?:[a-z0-9-]*[a-z0-9])?)*(?::[1-9][0-9]{0,3})?)(/(?:[A-Za-z0-9._~/-]|%[0-9A-F]{2})*)(?:\?(.*))?$`)

// wanted is what Parse must answer to a short text.
func wanted(s string) (api.Url, bool) {
	m := form.FindStringSubmatch(s)
	if m == nil {
		return api.Url{}, false
	}
	query, ok := pairs.Parse(m[3])
	if !ok {
		return api.Url{}, false
	}
	return api.Url{Host: m[1], Path: m[2], Query: query}, true
}

func TestParseOfKnownTexts(t *testing.T) {
	cases := []struct {
		in, host, path string
		query          []api.Pair
	}{
		{"https://a.b:8443/c%2F?x=1", "a.b:8443", "/c%2F", list("x", "1")},
		{"https://a/", "a", "/", nil},
		{"https://a/?", "a", "/", nil},
		{"https://a/??", "a", "/", list("?", "")},
		{"https://a/b?c?d=e?f", "a", "/b", list("c?d", "e?f")},
		{"https://a/?x", "a", "/", list("x", "")},
		{"https://a/?=", "a", "/", list("", "")},
		{"https://a/?&", "a", "/", list("", "", "", "")},
		{"https://a/?b+c=%2b%2B", "a", "/", list("b c", "++")},
		{"https://a/?x=/#y", "a", "/", list("x", "/#y")},
		{"https://a/?u=https://b/?c", "a", "/", list("u", "https://b/?c")},
		{"https://a/?x=é\x00\n", "a", "/", list("x", "é\x00\n")},
		{"https://a//b/", "a", "//b/", nil},
		{"https://https/https", "https", "/https", nil},
	}
	for _, c := range cases {
		if !parsesTo(c.in, c.host, c.path, c.query) {
			u, ok := url.Parse(c.in)
			t.Errorf("P4.1: Parse(%q): %q, %v", c.in, u, ok)
		}
	}
}

func TestParseRefuses(t *testing.T) {
	for _, s := range []string{
		"", "a", "/", "a/", "//a/", "https", "https:", "https:/", "https://", "https:///", "https:////", "https://?", "https:///?x=1",
		"http://a/", "HTTPS://a/", "Https://a/", "httpss://a/", "https:a/", "https:/a/", "https//a/", "https:\\\\a/", "ftp://a/",
		" https://a/", "\nhttps://a/", "https://a/ ", "https://a/\n", "https:// a/", "xhttps://a/", "https://https://a/",
		"https://a", "https://a?x=1", "https://a?x=/", "https://a?/", "https://a#/", "https://a:80", "https://a:80?x",
		"https://a/#x", "https://a/b#x?y=1", "https://a/#?x",
		"https://a/?x=%", "https://a/?%4", "https://a/?x=%zz", "https://a/?x=1&y=%2", "https://a/?%=1",
	} {
		if !refused(s) {
			t.Errorf("P4.1: not refused: %q", s)
		}
	}
}

func TestParseOfManyPairs(t *testing.T) {
	for n := 1; n <= 40; n++ {
		s := "https://a/?" + strings.Repeat("x=1&", n-1) + "x=1"
		if n > api.MaxPairs {
			if !refused(s) {
				t.Errorf("P4.1: %d pairs are not refused", n)
			}
		} else if !parsesTo(s, "a", "/", slices.Repeat(list("x", "1"), n)) {
			t.Errorf("P4.1: %d pairs are refused", n)
		}
	}
}

// The bytes of the whole text count.
func TestParseOfLongTexts(t *testing.T) {
	for _, c := range []struct{ path, query, name, value string }{
		{"/", "", "", ""},
		{"/%41", "", "", ""},
		{"/", "?b=", "b", ""},
		{"/", "?%42=%43", "B", "C"},
	} {
		ahead := "https://a" + c.path + c.query
		filler := strings.Repeat("x", api.MaxText-len(ahead))
		want := api.Url{Host: "a", Path: c.path + filler}
		if c.query != "" {
			want = api.Url{Host: "a", Path: c.path, Query: list(c.name, c.value+filler)}
		}
		if u, ok := url.Parse(ahead + filler); !ok || !equal(u, want) || !url.Right(u) {
			t.Errorf("P4.1: MaxText bytes after %q are refused", ahead)
		}
		if !refused(ahead + filler + "x") {
			t.Errorf("P4.1: more than MaxText bytes after %q are not refused", ahead)
		}
	}
}

func TestParseAgainstItsForm(t *testing.T) {
	n := numbers(4)
	anyParts := []string{"https://", "a", "z", "0", "9", "-", ".", ":", "/", "?", "%", "2F", "2f", "=", "&", "+", "A", "_", "~", "#", "@", " ", "é", "\x00", "\xff"}
	hostParts := []string{"a", "b", "0", "a", ".", "-", ":80", "A", "_"}
	pathParts := []string{"/", "a", "Z", "~", "_", "%2F", "%FF", "a", "/", "%2f", "%", "+"}
	queryParts := []string{"a", "=", "&", "+", "%20", "?", "/", "é", "#", "%"}
	read, lost := 0, 0
	for i := range 60000 {
		s := n.text(anyParts, 8)
		switch i % 3 {
		case 1:
			s = "https://" + s
		case 2:
			s = "https://" + n.text(hostParts, 5) + "/" + n.text(pathParts, 6)
			if n.below(2) == 0 {
				s += "?" + n.text(queryParts, 6)
			}
		}
		want, is := wanted(s)
		got, ok := url.Parse(s)
		if ok != is || !equal(got, want) {
			t.Errorf("P4.1: Parse(%q): %q, %v, want %q, %v", s, got, ok, want, is)
		}
		if is {
			read++
			checkRead(t, s, got)
		} else {
			lost++
		}
	}
	if read < 1000 || lost < 1000 {
		t.Errorf("P4.1: %d texts were read, %d refused", read, lost)
	}
}

// checkRead holds a short text against the address that it says.
func checkRead(t *testing.T, s string, u api.Url) {
	if !url.Right(u) {
		t.Errorf("P4.4: what Parse(%q) returns is not right", s)
	}
	if !strings.Contains(s, "?") && url.Print(u) != s {
		t.Errorf("P4.4: %q is printed as %q", s, url.Print(u))
	}
}

func TestDifferentTextsAreDifferentAddresses(t *testing.T) {
	n := numbers(8)
	texts := map[api.Pair]string{}
	parts := []string{"a", "A", "%41", "%61", "/", "//", ".", "..", "~", "%7E"}
	for range 5000 {
		s := "https://" + []string{"a", "a.b", "a:1", "a:443", "a-b", "a:10"}[n.below(6)] + "/" + n.text(parts, 4)
		u, ok := url.Parse(s)
		if !ok || len(u.Query) != 0 {
			t.Fatalf("P4.1: refused: %q", s)
		}
		k := api.Pair{Name: u.Host, Value: u.Path}
		if other, is := texts[k]; is && other != s {
			t.Errorf("P4.4: %q and %q are the same address", s, other)
		}
		texts[k] = s
	}
}

func TestPrintOfKnownAddresses(t *testing.T) {
	cases := []struct {
		in   api.Url
		want string
	}{
		{api.Url{}, "https://"},
		{api.Url{Host: "a", Path: "/"}, "https://a/"},
		{api.Url{Host: "a", Path: "/", Query: []api.Pair{}}, "https://a/"},
		{api.Url{Host: "a.b:8443", Path: "/c%2F", Query: list("x", "1")}, "https://a.b:8443/c%2F?x=1"},
		{api.Url{Host: "a", Path: "/", Query: list("state", "x y")}, "https://a/?state=x%20y"},
		{api.Url{Host: "a", Path: "/", Query: list("", "")}, "https://a/?="},
		{api.Url{Host: "a", Path: "/b", Query: list("x", "", "x", "1+1", "é", "?&=/")}, "https://a/b?x=&x=1%2B1&%C3%A9=%3F%26%3D%2F"},
		{api.Url{Host: "A b", Path: "c?#%", Query: list("d", "e")}, "https://A bc?#%?d=e"}, // as it is, right or not
		{api.Url{Query: list("a", "b")}, "https://?a=b"},
	}
	for _, c := range cases {
		if got := url.Print(c.in); got != c.want {
			t.Errorf("P4.2: Print(%q): %q, want %q", c.in, got, c.want)
		}
	}
}

// The limits are Parse's: Print writes whatever it is given.
func TestPrintKnowsNoLimit(t *testing.T) {
	long := strings.Repeat("a", 2*api.MaxText)
	u := api.Url{Host: long, Path: "/" + long, Query: slices.Repeat(list(long, "1"), 2*api.MaxPairs)}
	want := "https://" + long + "/" + long + "?" + strings.Repeat(long+"=1&", 2*api.MaxPairs)
	if url.Print(u)+"&" != want || url.Right(u) {
		t.Error("P4.2: a long address")
	}
}

func TestRightOfKnownAddresses(t *testing.T) {
	for _, u := range []api.Url{
		{Host: "a", Path: "/"},
		{Host: "a", Path: "/", Query: []api.Pair{}},
		{Host: "a.b:8443", Path: "/c%2F", Query: list("x", "1")},
		{Host: "a", Path: "/", Query: list("", "", "", "")},
		{Host: "a", Path: "/", Query: list("\x00é &=?#%+", "\xff/%41")},
		{Host: "a", Path: "/", Query: slices.Repeat(list("x", "1"), api.MaxPairs)},
	} {
		if !url.Right(u) {
			t.Errorf("P4.2: not right: %q", u)
		}
	}
	for _, u := range []api.Url{
		{},
		{Host: "a"},
		{Path: "/"},
		{Host: "a", Query: list("x", "1")},
		{Host: "a", Path: "b"},
		{Host: "a", Path: "/?"},
		{Host: "a", Path: "/?", Query: list("x", "1")},
		{Host: "a", Path: "/?x=1"},
		{Host: "a/", Path: "/"},
		{Host: "a/b", Path: "/c"},
		{Host: "a/b"},
		{Host: "a", Path: "/", Query: slices.Repeat(list("x", "1"), api.MaxPairs+1)},
		{Host: "a/?", Path: "x=1"},
		{Host: "a", Path: "?x", Query: list("y", "1")},
		{Host: "", Path: "a/"}, // printed as an address, but as another one
		{Host: "A", Path: "/"},
		{Host: "a:0", Path: "/"},
		{Host: "a", Path: "/#x"},
		{Host: "https://a", Path: "/"},
	} {
		if url.Right(u) {
			t.Errorf("P4.2: right: %q", u)
		}
	}
}

func TestRightIsParseOfPrint(t *testing.T) {
	n := numbers(16)
	hosts := []string{"a", "b", "a.b", "c", "0", "/", "?", ":1", "-"}
	paths := []string{"/", "/a", "/%41", "/b", "?", "%", "/", "="}
	names := []string{"x", "", "&", "=", "é", "%", "+"}
	right, wrong := 0, 0
	for range 20000 {
		u := api.Url{Host: n.text(hosts, 2), Path: n.text(paths, 2)}
		for range n.below(3) {
			u.Query = append(u.Query, api.Pair{Name: n.text(names, 2), Value: n.text(names, 2)})
		}
		back, ok := wanted(url.Print(u))
		want := ok && equal(back, u)
		if url.Right(u) != want {
			t.Errorf("P4.2: Right(%q) is not %v", u, want)
		}
		if want {
			right++
		} else {
			wrong++
		}
	}
	if right < 1000 || wrong < 1000 {
		t.Errorf("P4.2: %d addresses are right, %d are not", right, wrong)
	}
}

// An address that is read may be longer once its query is escaped: it is right if it is still no longer than MaxText.
func TestRightOfLongAddresses(t *testing.T) {
	ahead := "https://a/?x="
	for _, c := range []struct {
		filler string
		size   int
	}{{"y", 1}, {"+", 3}, {"/", 3}, {"\xff", 3}} {
		fits := (api.MaxText - len(ahead)) / c.size
		for _, many := range []int{0, 1, fits - 1, fits, fits + 1, api.MaxText - len(ahead)} {
			u, ok := url.Parse(ahead + strings.Repeat(c.filler, many))
			if is := many <= api.MaxText-len(ahead); ok != is {
				t.Errorf("P4.1: %d times %q: %v", many, c.filler, ok)
			}
			if ok && url.Right(u) != (many <= fits) {
				t.Errorf("P4.4: %d times %q: right is not %v", many, c.filler, many <= fits)
			}
		}
	}
}

func TestWith(t *testing.T) {
	cases := []struct{ query, more, want []api.Pair }{
		{nil, nil, nil},
		{nil, list("a", "1"), list("a", "1")},
		{list("a", "1"), nil, list("a", "1")},
		{list("b", "1"), list("a", "2", "b", "1"), list("b", "1", "a", "2", "b", "1")},
		{list("", ""), list("", ""), list("", "", "", "")},
		{slices.Repeat(list("a", "1"), api.MaxPairs), list("b", "2"), append(slices.Repeat(list("a", "1"), api.MaxPairs), api.Pair{Name: "b", Value: "2"})},
	}
	for _, c := range cases {
		u := api.Url{Host: "A?", Path: "x", Query: slices.Clone(c.query)}
		more := slices.Clone(c.more)
		if got := url.With(u, more); !equal(got, api.Url{Host: "A?", Path: "x", Query: c.want}) {
			t.Errorf("P4.3: With(%q, %q): %q", u, c.more, got)
		}
		if !slices.Equal(u.Query, c.query) || !slices.Equal(more, c.more) {
			t.Error("P4.3, R5: an argument was changed")
		}
	}
	u := url.With(api.Url{Host: "a", Path: "/"}, list("state", "x y"))
	if s := url.Print(u); s != "https://a/?state=x%20y" {
		t.Errorf("P4.3: %q", s)
	}
}

// Memory behind a query that has room for more is not written to, and what comes of it is the caller's.
func TestWithSharesNothing(t *testing.T) {
	room := list("a", "1", "b", "2", "c", "3")
	u := api.Url{Host: "a", Path: "/", Query: room[:1]}
	more := list("d", "4")
	first, second := url.With(u, more), url.With(u, list("e", "5"))
	if !slices.Equal(room, list("a", "1", "b", "2", "c", "3")) || !slices.Equal(first.Query, list("a", "1", "d", "4")) || !slices.Equal(second.Query, list("a", "1", "e", "5")) {
		t.Errorf("P4.3, R6: %q, %q, %q", room, first, second)
	}
	for _, got := range []api.Url{first, url.With(u, nil), url.With(api.Url{}, more)} {
		clear(got.Query)
		clear(got.Query[:cap(got.Query)])
	}
	if !slices.Equal(room, list("a", "1", "b", "2", "c", "3")) || !slices.Equal(more, list("d", "4")) {
		t.Errorf("P4.3, R6: %q, %q", room, more)
	}
}
