package pairs_test

import (
	"slices"
	"strings"
	"testing"

	"chatelaine/api"
	"chatelaine/pairs"
)

// list makes pairs of names and values in turns.
func list(texts ...string) []api.Pair {
	var l []api.Pair
	for i := 0; i < len(texts); i += 2 {
		l = append(l, api.Pair{Name: texts[i], Value: texts[i+1]})
	}
	return l
}

func parsesTo(s string, want []api.Pair) bool {
	l, ok := pairs.Parse(s)
	return ok && slices.Equal(l, want)
}

func refused(s string) bool {
	l, ok := pairs.Parse(s)
	return !ok && len(l) == 0
}

func TestParseOfKnownTexts(t *testing.T) {
	cases := []struct {
		in   string
		want []api.Pair
	}{
		{"", nil},
		{"a=1&b&=c=d&", list("a", "1", "b", "", "", "c=d", "", "")},
		{"a", list("a", "")},
		{"a=", list("a", "")},
		{"=a", list("", "a")},
		{"=", list("", "")},
		{"==", list("", "=")},
		{"a==b", list("a", "=b")},
		{"a=b=", list("a", "b=")},
		{"&", list("", "", "", "")},
		{"&&", list("", "", "", "", "", "")},
		{"&a=1", list("", "", "a", "1")},
		{"a=1&", list("a", "1", "", "")},
		{"a=1&&b=2", list("a", "1", "", "", "b", "2")},
		{"a=1&a=2&a=1", list("a", "1", "a", "2", "a", "1")},
		{"b=2&a=1", list("b", "2", "a", "1")},
		{"a+b=c+d", list("a b", "c d")},
		{"a%20b=c%2Bd", list("a b", "c+d")},
		{"%2b=%2B", list("+", "+")},
		{"a%3Db=c%3Dd", list("a=b", "c=d")},
		{"a%3db", list("a=b", "")},
		{"a%26b=c%26d&e", list("a&b", "c&d", "e", "")},
		{"%2541=%2541", list("%41", "%41")},
		{"a;b=c;d", list("a;b", "c;d")},
		{"?a=#b", list("?a", "#b")},
		{"A=1&a=2", list("A", "1", "a", "2")},
		{"%C3%A9=é&\xff=%00", list("é", "é", "\xff", "\x00")},
		{" a = b ", list(" a ", " b ")},
	}
	for _, c := range cases {
		if !parsesTo(c.in, c.want) {
			l, ok := pairs.Parse(c.in)
			t.Errorf("P3.3: Parse(%q): %q, %v, want %q", c.in, l, ok, c.want)
		}
	}
}

func TestParseRefusesBrokenEscapes(t *testing.T) {
	for _, part := range []string{"%", "a%", "%4", "%zz", "a=%4", "a=%zz", "a%4=b", "%=%41", "%41=%", "a=b=%", "%4=1", "a=1%"} {
		for _, s := range []string{part, part + "&a=1", "a=1&" + part, "a=1&" + part + "&b=2", "&" + part + "&"} {
			if !refused(s) {
				t.Errorf("P3.3: not refused: %q", s)
			}
		}
	}
	// The digits behind a separator do not belong to the % ahead of it.
	for _, s := range []string{"%4&1", "%&41", "%4=1", "%=41"} {
		if !refused(s) {
			t.Errorf("P3.3: not refused: %q", s)
		}
	}
}

func TestParseOfManyParts(t *testing.T) {
	for n := 1; n <= 40; n++ {
		for _, part := range []string{"", "a", "=", "a=1", "%41=+"} {
			s := strings.Repeat(part+"&", n-1) + part
			if s == "" {
				continue
			}
			l, ok := pairs.Parse(s)
			if n > api.MaxPairs {
				if ok || len(l) != 0 {
					t.Errorf("P3.3: %d parts %q are not refused", n, part)
				}
			} else if !ok || len(l) != n {
				t.Errorf("P3.3: %d parts %q: %d pairs, %v", n, part, len(l), ok)
			}
		}
	}
}

// Separators that are escaped, or a second =, make no more parts.
func TestParseCountsPartsAlone(t *testing.T) {
	many := strings.Repeat("%26", 100) + strings.Repeat("=", 100)
	if !parsesTo(many, list(strings.Repeat("&", 100), strings.Repeat("=", 99))) {
		t.Error("P3.3: more than MaxPairs escaped separators are refused")
	}
}

func TestParseOfLongTexts(t *testing.T) {
	if api.MaxText != 4096 {
		t.Fatal("MaxText is another one")
	}
	for _, ahead := range []string{"", "a=", "a=1&b=", "=", "&"} {
		whole := ahead + strings.Repeat("x", api.MaxText-len(ahead))
		if l, ok := pairs.Parse(whole); !ok || len(l) == 0 {
			t.Errorf("P3.3: MaxText bytes after %q are refused", ahead)
		}
		if !refused(whole + "x") {
			t.Errorf("P3.3: more than MaxText bytes after %q are not refused", ahead)
		}
	}
	if !parsesTo(strings.Repeat("y", api.MaxText), list(strings.Repeat("y", api.MaxText), "")) {
		t.Error("P3.3: a name of MaxText bytes")
	}
}

// The bytes of the text count, not those that come of it.
func TestParseCountsBytesAheadOfUnescaping(t *testing.T) {
	s := strings.Repeat("%41", api.MaxText/3)
	if !parsesTo(s+"a", list(strings.Repeat("A", api.MaxText/3)+"a", "")) {
		t.Error("P3.3: MaxText bytes of escapes")
	}
	if !refused(s + "ab") {
		t.Error("P3.3: more than MaxText bytes of escapes are not refused")
	}
	if !refused(strings.Repeat("é", api.MaxText/2) + "a") {
		t.Error("P3.3: more than MaxText bytes of fewer characters are not refused")
	}
}

func TestPrintOfKnownPairs(t *testing.T) {
	cases := []struct {
		in   []api.Pair
		want string
	}{
		{nil, ""},
		{[]api.Pair{}, ""},
		{list("", ""), "="},
		{list("a", ""), "a="},
		{list("", "a"), "=a"},
		{list("a", "1", "b", "", "", "c=d", "", ""), "a=1&b=&=c%3Dd&="},
		{list("b", "2", "a", "1", "b", "2"), "b=2&a=1&b=2"},
		{list("a b", "c+d"), "a%20b=c%2Bd"},
		{list("a=b&c", "d=e&f"), "a%3Db%26c=d%3De%26f"},
		{list("é", "\x00\xff%41"), "%C3%A9=%00%FF%2541"},
		{list("-._~", "-._~"), "-._~=-._~"},
	}
	for _, c := range cases {
		if got := pairs.Print(c.in); got != c.want {
			t.Errorf("P3.4: Print(%q): %q, want %q", c.in, got, c.want)
		}
	}
}

// The limits are Parse's: Print writes whatever it is given.
func TestPrintKnowsNoLimit(t *testing.T) {
	long := strings.Repeat("a", 3*api.MaxText)
	if got := pairs.Print(list(long, long)); got != long+"="+long {
		t.Error("P3.4: more than MaxText bytes are not printed")
	}
	many := slices.Repeat(list("a", "1"), 3*api.MaxPairs)
	if got := pairs.Print(many); got+"&" != strings.Repeat("a=1&", 3*api.MaxPairs) {
		t.Error("P3.4: more than MaxPairs pairs are not printed")
	}
}

func TestGet(t *testing.T) {
	l := list("x", "1", "y", "", "x", "2", "", "n", "X", "3", "x", "1", "z", "x", "a b", "4", "w", "", "w", "5")
	cases := []struct {
		name, value string
		count       int
	}{
		{"x", "1", 3},
		{"y", "", 1},
		{"", "n", 1},
		{"X", "3", 1},
		{"z", "x", 1},
		{"a b", "4", 1},
		{"w", "", 2}, // the first one, though it is empty
		{"a+b", "", 0},
		{"a%20b", "", 0},
		{"1", "", 0},
		{"xx", "", 0},
		{"x ", "", 0},
	}
	for _, c := range cases {
		if value, count := pairs.Get(l, c.name); value != c.value || count != c.count {
			t.Errorf("P3.4: Get of %q: %q, %d, want %q, %d", c.name, value, count, c.value, c.count)
		}
	}
	for _, name := range []string{"", "x"} {
		if value, count := pairs.Get(nil, name); value != "" || count != 0 {
			t.Errorf("P3.4: Get of %q from none: %q, %d", name, value, count)
		}
	}
	if value, count := pairs.Get(slices.Repeat(l, 100), "x"); value != "1" || count != 300 {
		t.Errorf("P3.4: Get from many pairs: %q, %d", value, count)
	}
}

func TestPrintedPairsComeBack(t *testing.T) {
	n, bytes := numbers(11), everyByte()
	for range 3000 {
		l := make([]api.Pair, n.below(api.MaxPairs+1))
		for i := range l {
			l[i] = api.Pair{Name: n.text("&=%+ a4", 5), Value: n.text(bytes, 10)}
		}
		s := pairs.Print(l)
		if len(s) > api.MaxText {
			t.Fatalf("%d bytes", len(s))
		}
		if !parsesTo(s, l) {
			t.Errorf("P3.5: %q is printed as %q, and does not come back", l, s)
		}
	}
}

func TestPrintedPairsComeBackUpToTheLimits(t *testing.T) {
	for n := range api.MaxPairs + 1 {
		empty := make([]api.Pair, n)
		if !parsesTo(pairs.Print(empty), empty) {
			t.Errorf("P3.5: %d empty pairs do not come back", n)
		}
	}
	if !refused(pairs.Print(make([]api.Pair, api.MaxPairs+1))) {
		t.Error("P3.3: more than MaxPairs pairs are not refused")
	}
	full := make([]api.Pair, api.MaxPairs)
	for i := range full {
		full[i] = api.Pair{Name: "é", Value: strings.Repeat("&", 40)}
	}
	room := api.MaxText - len(pairs.Print(full))
	full[7].Value += strings.Repeat("a", room)
	if s := pairs.Print(full); len(s) != api.MaxText || !parsesTo(s, full) {
		t.Errorf("P3.5: MaxPairs pairs in %d bytes do not come back", len(s))
	}
	full[7].Value += "a"
	if !refused(pairs.Print(full)) {
		t.Error("P3.3: more than MaxText bytes are not refused")
	}
}

func TestArgumentsAreLeftAlone(t *testing.T) {
	whole := list("a b", "1", "é", "&", "a b", "2", "", "")
	was := slices.Clone(whole)
	pairs.Print(whole)
	pairs.Print(whole[:2])
	pairs.Get(whole, "a b")
	pairs.Get(whole[1:3], "none")
	if !slices.Equal(whole, was) {
		t.Error("R5: an argument, or what lies behind it, was changed")
	}
}

func TestResultsBelongToCaller(t *testing.T) {
	const s = "a=1&b=2"
	first, _ := pairs.Parse(s)
	second, _ := pairs.Parse(s)
	clear(first)
	_ = append(first[:1], list("x", "y")...)
	if !slices.Equal(second, list("a", "1", "b", "2")) || !parsesTo(s, second) {
		t.Error("R6: writing into what was parsed changes something else")
	}
	l := list("a", "1")
	text := pairs.Print(l)
	value, _ := pairs.Get(l, "a")
	l[0] = api.Pair{Name: "b", Value: "2"}
	if text != "a=1" || value != "1" {
		t.Error("R6: a result changes with what was passed in")
	}
}

func TestSameCallsHaveSameResults(t *testing.T) {
	for range 3 {
		if !refused("a=1&b=%") || !parsesTo("a=1&b=%41", list("a", "1", "b", "A")) || !broken("a%") || pairs.Escape("é") != "%C3%A9" {
			t.Error("R7: a call in between changes a result")
		}
	}
}
