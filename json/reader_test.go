package json_test

import (
	library "encoding/json"
	"fmt"
	"math/big"
	"regexp"
	"slices"
	"strconv"
	"strings"
	"testing"
	"unicode/utf8"

	"chatelaine/api"
	"chatelaine/json"
)

func parsesTo(s string, want api.Json) bool {
	v, e := json.Parse(s)
	return e == api.OK && equal(v, want)
}

// failsWith tells whether a text is refused with that error, and nothing beside it.
func failsWith(s string, want api.Errno) bool {
	v, e := json.Parse(s)
	return e == want && equal(v, null)
}

// The forms of numbers and texts, written otherwise than the program reads them.
var (
	numberForm = regexp.MustCompile(`^-?[0-9]*[.eE]?`)
	rightForm  = regexp.MustCompile(`^(0|-?[1-9][0-9]*)$`)
	textForm   = regexp.MustCompile(`^"(?:[^"\\\x00-\x1f]|\\["\\/bfnrt]|\\u(?:[0-9a-cefA-CEF][0-9a-fA-F]{3}|[dD][0-7][0-9a-fA-F]{2})|\\u[dD][89abAB][0-9a-fA-F]{2}\\u[dD][c-fC-F][0-9a-fA-F]{2})*"`)
	wordForm   = regexp.MustCompile(`^(?:null|true|false)`)
)

// oracle goes through a text by a stack of what is open, and by what may come next.
type oracle struct {
	rest, open string
	names      []map[string]int
	may        string // a letter each: v a value, n a name, c a colon, and what stands for itself
}

// wanted is the error that Parse must answer.
func wanted(s string) api.Errno {
	if len(s) > api.MaxText {
		return api.ErrJsonLong
	}
	o := oracle{rest: s, may: "v"}
	for {
		o.rest = strings.TrimLeft(o.rest, " \t\r\n")
		if o.rest == "" {
			if o.may == "" {
				return api.OK
			}
			return api.ErrJsonForm
		}
		if e := o.step(); e != api.OK {
			return e
		}
	}
}

func (o *oracle) step() api.Errno {
	c := o.rest[:1]
	switch {
	case strings.Contains(",]}:", c) && strings.Contains(o.may, c):
		o.rest = o.rest[1:]
		o.sign(c)
		return api.OK
	case strings.Contains(o.may, "n") && c == `"`:
		return o.name()
	case strings.Contains(o.may, "v"):
		return o.value(c)
	}
	return api.ErrJsonForm
}

func (o *oracle) sign(c string) {
	switch c {
	case "]", "}":
		o.open, o.names = o.open[1:], o.names[1:]
		o.ended()
	case ",":
		o.may = map[string]string{"[": "v", "{": "n"}[o.open[:1]]
	case ":":
		o.may = "v"
	}
}

// ended: a value has come to its end.
func (o *oracle) ended() {
	o.may = ""
	if o.open != "" {
		o.may = map[string]string{"[": ",]", "{": ",}"}[o.open[:1]]
	}
}

func (o *oracle) name() api.Errno {
	text, e := o.text()
	if e != api.OK {
		return e
	}
	if o.names[0][text] > 0 {
		return api.ErrJsonTwice
	}
	o.names[0][text] = 1
	o.may = ":"
	return api.OK
}

func (o *oracle) text() (string, api.Errno) {
	form := textForm.FindString(o.rest)
	if form == "" || !utf8.ValidString(form) {
		return "", api.ErrJsonText
	}
	o.rest = o.rest[len(form):]
	var text string
	if library.Unmarshal([]byte(form), &text) != nil {
		panic(form)
	}
	return text, api.OK
}

func (o *oracle) value(c string) api.Errno {
	switch {
	case strings.Contains("[{", c):
		if len(o.open) == 16 {
			return api.ErrJsonDeep
		}
		o.rest = o.rest[1:]
		o.open = c + o.open
		o.names = append([]map[string]int{{}}, o.names...)
		o.may = map[string]string{"[": "v]", "{": "n}"}[c]
		return api.OK
	case c == `"`:
		if _, e := o.text(); e != api.OK {
			return e
		}
	case strings.Contains("-0123456789", c):
		form := numberForm.FindString(o.rest)
		n, _ := new(big.Int).SetString(form, 10)
		if !rightForm.MatchString(form) || n.CmpAbs(big.NewInt(1<<53-1)) > 0 {
			return api.ErrJsonNumber
		}
		o.rest = o.rest[len(form):]
	default:
		form := wordForm.FindString(o.rest)
		if form == "" {
			return api.ErrJsonForm
		}
		o.rest = o.rest[len(form):]
	}
	o.ended()
	return api.OK
}

// read is the value of a text that is right, as the library reads it.
func read(s string) api.Json {
	d := library.NewDecoder(strings.NewReader(s))
	d.UseNumber()
	return readNext(d)
}

func readNext(d *library.Decoder) api.Json {
	token, err := d.Token()
	if err != nil {
		panic(err)
	}
	switch x := token.(type) {
	case bool:
		return truth(x)
	case library.Number:
		n, _ := strconv.Atoi(string(x))
		return json.Int(n)
	case string:
		return json.Text(x)
	case library.Delim:
		v := list()
		for d.More() {
			if x == '{' {
				v.Kind = api.JsonObject
				v.Names = append(v.Names, readNext(d).Text)
			}
			v.List = append(v.List, readNext(d))
		}
		if x == '{' {
			v.Kind = api.JsonObject
		}
		d.Token()
		return v
	}
	return null
}

// check holds Parse of a text against what it must answer, and tells that error.
func check(t *testing.T, s string) api.Errno {
	t.Helper()
	want := wanted(s)
	if want == api.OK && !parsesTo(s, read(s)) {
		v, e := json.Parse(s)
		t.Errorf("P5.1: Parse(%q): %v, %d, want %v", s, v, e, read(s))
	}
	if want != api.OK && !failsWith(s, want) {
		v, e := json.Parse(s)
		t.Errorf("P5.1: Parse(%q): %v, %d, want %d", s, v, e, want)
	}
	return want
}

func TestParseOfKnownTexts(t *testing.T) {
	one, two := json.Int(1), json.Int(2)
	cases := []struct {
		in   string
		want api.Json
	}{
		{"null", null}, {"true", truth(true)}, {"false", truth(false)},
		{"0", json.Int(0)}, {"7", json.Int(7)}, {"-1", json.Int(-1)}, {"10", json.Int(10)}, {"-908", json.Int(-908)},
		{`""`, json.Text("")}, {`"a"`, json.Text("a")}, {`"é😀"`, json.Text("é😀")}, {"\"\x7f\"", json.Text("\x7f")}, {"\"\ufffd\ufeff\u2028\"", json.Text("\ufffd\ufeff\u2028")},
		{`"\"\\\/\b\f\n\r\t"`, json.Text("\"\\/\b\f\n\r\t")}, {`"/'"`, json.Text("/'")},
		{`"\u0041\u00e9\u00E9\u20ac\u0000\uFfFd\uffff"`, json.Text("Aéé€\x00\ufffd\uffff")}, {`"\ud83d\ude00"`, json.Text("😀")}, {`"\uD83D\uDE00x"`, json.Text("😀x")},
		{`"\ud800\udc00\udbff\udfff"`, json.Text("\U00010000\U0010ffff")}, {`"\ud7ff\ue000"`, json.Text("\ud7ff\ue000")}, {`"\u00411"`, json.Text("A1")}, {`"\\u0041"`, json.Text(`\u0041`)},
		{`"\u005c\u0022n"`, json.Text(`\"n`)}, {`"[1,{:"`, json.Text("[1,{:")}, {`"\u00c3\u00a9"`, json.Text("Ã©")},
		{"[]", list()}, {"[ ]", list()}, {"[1]", list(one)}, {"[1,2]", list(one, two)}, {"[[],[1]]", list(list(), list(one))}, {"[null,\"\",{}]", list(null, json.Text(""), object())},
		{"{}", object()}, {"{\t}", object()}, {`{"a":1}`, object("a", one)}, {`{"b":1,"a":2}`, object("b", one, "a", two)}, {`{"":1," ":2}`, object("", one, " ", two)},
		{`{"a":{"a":{"a":1}}}`, object("a", object("a", object("a", one)))}, {`[{"a":1},{"a":2}]`, list(object("a", one), object("a", two))},
		{`{"a":1,"A":2,"a ":1,"\u0061b":2}`, object("a", one, "A", two, "a ", one, "ab", two)}, {`{"\n":"\n"}`, object("\n", json.Text("\n"))},
		{`{"a":[1,-2,"\u00e9\n"],"b":null}`, object("a", list(one, json.Int(-2), json.Text("é\n")), "b", null)},
		{" \t\r\n{ \t\r\n\"a\" \t\r\n: \t\r\n[ \t\r\n1 \t\r\n, \t\r\n2 \t\r\n] \t\r\n, \t\r\n\"b\" : true } \t\r\n", object("a", list(one, two), "b", truth(true))},
		{" 0 ", json.Int(0)}, {"\n\"a\"\r", json.Text("a")},
	}
	for _, c := range cases {
		if !parsesTo(c.in, c.want) {
			v, e := json.Parse(c.in)
			t.Errorf("P5.1: Parse(%q): %v, %d, want %v", c.in, v, e, c.want)
		}
		check(t, c.in)
	}
}

func TestParseRefuses(t *testing.T) {
	for want, texts := range map[api.Errno][]string{
		api.ErrJsonForm: {
			"", " ", "\n\t", "n", "nul", "nulL", "NULL", "nulll", "null x", "t", "tru", "True", "truee", "f", "fals", "FALSE", "nullnull", "n ull", "a", "'a'", "+1", ".5", "Infinity", "NaN", "\x00", "\ufeff1", "\xff", "\v1", "1\v", "1\x00", "\u00a01", "//1", "/**/1",
			"1 2", "1,", ",1", "1]", "1}", "1a", "1-", "1_0", "0x1", "1 .5", "0 1", "\"a\"b", "\"a\"\"b\"", "\"a\" .", "[1]]", "[] []", "{}}", "{}1",
			"[", "[ ", "[1", "[1 ", "[1,", "[1, ", "[,", "[,]", "[,1]", "[1,]", "[1,,2]", "[1 2]", "[1:2]", "[1}", "[}", "[\"a\":1]", "[1;2]", "[[]", "[[],", "[a]", "[1\v]",
			"{", "{ ", "{\"a\"", "{\"a\":", "{\"a\":1", "{\"a\":1,", "{,", "{,}", "{,\"a\":1}", "{\"a\":1,}", "{\"a\":1,,\"b\":2}", "{\"a\"}", "{\"a\",1}", "{\"a\":}", "{\"a\" 1}", "{\"a\"::1}", "{\"a\":1:2}", "{\"a\":1 \"b\":2}", "{\"a\":1]", "{]",
			"{a:1}", "{1:2}", "{-1:2}", "{null:1}", "{[]:1}", "{{}:1}", "{'a':1}", "{\"a\":1,b:2}", "{\"a\":1,2}", "{:1}", "{\"a\":b}", "{\"a\"=1}",
			"[nul]", "[tru", "{\"a\":fals}", "]", "}", ":", ",",
		},
		api.ErrJsonNumber: {
			"01", "00", "000", "-01", "-00", "0123", "09", "1.5", "1.", "1.0", "0.", "0.0", "-1.5", "1e3", "1E3", "0e0", "0E", "1e", "1e+2", "-1e1", "-0", "-0.0", "-0 ", "-0x", "-", "--1", "- 1", "-a", "-.5", "-e", "-\"", "-]", "[-]", "[-x]", "-\x00",
			"9007199254740992", "-9007199254740992", "9007199254740993", "10000000000000000", "9223372036854775807", "9223372036854775808", "-9223372036854775808", "-9223372036854775809", "18446744073709551615", "18446744073709551616", "18446744073709551617", "36893488147419103233",
			strings.Repeat("9", 4000), "-1" + strings.Repeat("0", 4000), strings.Repeat("0", 4000), "0" + strings.Repeat("1", 30),
			"[01]", "[1,02", "{\"a\":1.5}", "{\"a\":-}", "[0.1]", "[1,-0]", "[9007199254740992", "01x", "1.x", "00.", "9007199254740992x",
		},
		api.ErrJsonText: {
			`"`, `"a`, `"a\"`, `"\`, `"\u`, `"\u0`, `"\u00`, `"\u004`, `"\u0041`, `"a\n`, `"\u004"`, `"\u"`, `"\u00g0"`, `"\u 041"`, `"\u+041"`, `"\u-041"`, `"\u0x41"`, `"\u0_41"`, `"\u{41}"`, `"\U0041"`, `"\u00é"`,
			`"\x"`, `"\a"`, `"\0"`, `"\v"`, `"\'"`, `"\ "`, `"\N"`, `"\B"`, `"\é"`, "\"\\\n\"", "\"\\\x00\"", "\"\\", "\"\\\\", "\"\\\\\\\"",
			"\"\n\"", "\"\x00\"", "\"\x1f\"", "\"a\tb\"", "\"\r\"", "\"\x00",
			"\"\xff\"", "\"\x80\"", "\"\xc3\"", "\"\xc3", "\"\xc3\xc3\"", "\"\xc0\x80\"", "\"\xc1\xbf\"", "\"\xe0\x80\x80\"", "\"\xe0\x9f\xbf\"", "\"\xf0\x80\x80\x80\"", "\"\xf0\x8f\xbf\xbf\"", "\"\xed\xa0\x80\"", "\"\xed\xbf\xbf\"", "\"\xed\xa0\xbd\xed\xb8\x80\"", "\"\xf4\x90\x80\x80\"", "\"\xf5\x80\x80\x80\"", "\"\xe2\x82\"", "\"\xf0\x9f\x98\"", "\"é\x80\"", "\"\\\xff\"",
			`"\ud800"`, `"\udbff"`, `"\udc00"`, `"\udfff"`, `"\uDC00"`, `"\ud800x"`, `"\ud800\n"`, `"\ud800\\udc00"`, `"\ud800\u0041"`, `"\ud800\ud800"`, `"\ud800\ud800\udc00"`, `"\ud800\ue000"`, `"\ud800\udbff"`, `"\udc00\ud800"`, `"\udc00\udc00"`, `"\ud83d\ude00\ude00"`, `"\ud800\u"`, `"\ud800\udc0"`, `"\ud800\`, `"\ud800 \udc00"`, `"\ud800udc00"`, `"\ud800\Udc00"`, `"\ud800/udc00"`,
			`["]`, `{"a`, `{"a:1}`, `{"\x":1}`, "{\"\xff\":1}", `{"a":"`, `{"a":1,"`, `{"a":1,"a`, `[1,"\ud800"]`, `{"\ud800":1,`, "[\"\n",
		},
		api.ErrJsonTwice: {
			`{"a":1,"a":2}`, `{"a":1,"a"`, `{"a":1,"a" x`, `{"a":1,"a":01}`, `{"":1,"":1}`, `{"a":1,"\u0061":2}`, `{"\u0061":1,"a":2}`, `{"é":1,"\u00e9":2}`, `{"😀":1,"\ud83d\ude00":2}`, `{"\/":1,"/":2}`, `{"\n":1,"\u000a":2}`,
			`{"a":1,"b":2,"c":3,"a":4}`, `{"a":1,"b":2,"b":3}`, `[{"a":1,"a":1}]`, `{"x":{"a":1,"a":1}}`, `{"a":{"b":1},"a":2}`, `{"a":{"a":1,"a":2}}`, `{"a":[],"a":[]}`, `{"a":1 , "a"`,
		},
	} {
		for _, s := range texts {
			if !failsWith(s, want) {
				v, e := json.Parse(s)
				t.Errorf("P5.1: Parse(%q): %v, %d, want %d", s, v, e, want)
			}
			check(t, s)
		}
	}
}

// The error is that of the first position: what stands behind it does not count.
func TestFirstErrorCounts(t *testing.T) {
	deep := strings.Repeat("[", 17)
	for _, first := range []struct {
		text string
		want api.Errno
	}{
		{"[x", api.ErrJsonForm}, {"[01", api.ErrJsonNumber}, {"[1.", api.ErrJsonNumber}, {"[-x", api.ErrJsonNumber}, {"[\"\\x", api.ErrJsonText}, {"[\"\xff", api.ErrJsonText}, {`[{"a":1,"a"`, api.ErrJsonTwice}, {deep, api.ErrJsonDeep},
		{"[1 2", api.ErrJsonForm}, {"[9007199254740992", api.ErrJsonNumber}, {"[\"\n", api.ErrJsonText}, {`[{"a" "`, api.ErrJsonForm}, {"[1,]", api.ErrJsonForm}, {`[{1`, api.ErrJsonForm},
	} {
		for _, next := range []string{"", "]", " ", "\"", "x", " 01", ",1.5", "\"\\x\"", "\xff", `,{"a":1,"a":2}`, ":" + deep, strings.Repeat(" ", 4000)} {
			if !failsWith(first.text+next, first.want) {
				v, e := json.Parse(first.text + next)
				t.Errorf("P5.1: Parse(%q): %v, %d, want %d", first.text+next, v, e, first.want)
			}
		}
	}
}

// Every byte, and every two, at each kind of place.
func TestEveryByteAtEveryPlace(t *testing.T) {
	places := []string{
		"*", "*1", "1*", "1*2", "0*", "-*", "-*1", "-1*", "0*1", "[*]", "[*1]", "[1*]", "[1*2]", "[1,*]", "[1,*2]", "[]*", "{*}", `{*"a":1}`, `{"a"*1}`, `{"a"*:1}`, `{"a":*}`, `{"a":*1}`, `{"a":1*}`, `{"a":1*"b":2}`, `{"a":1,*}`, `{"a":1,*"b":2}`,
		`"*"`, `"a*`, `"a*b"`, `"\*"`, `"\*`, `"\*0041"`, `"\u*000"`, `"\u0*41"`, `"\u00*1"`, `"\u004*"`, `"\ud83d*ude00"`, `"\ud83d\*de00"`, `"\ud83d\u*e00"`, `"\ud83d\ude0*"`, `"a"*`, "nul*", "*ull", "tr*e", "fals*", "null*", "true*", "false*", "[*", "{*",
	}
	for _, place := range places {
		for x := range 256 {
			check(t, strings.Replace(place, "*", string([]byte{byte(x)}), 1))
		}
	}
	for i := range 1 << 16 {
		two := string([]byte{byte(i >> 8), byte(i)})
		for _, place := range []string{"*", `"*"`, `"\*"`, "[1*]", `{"a"*1}`} {
			check(t, strings.Replace(place, "*", two, 1))
		}
	}
}

func TestSpaceIsFourBytes(t *testing.T) {
	for x := range 256 {
		c := string([]byte{byte(x)})
		want := strings.Contains(" \t\n\r", c)
		for _, s := range []string{c + "null", "null" + c, "{" + c + "}", "[[" + c + "null]]", "[null" + c + "]", "[" + c + "null]", "[null" + c + ",null]", "[null," + c + "null]", `{"a"` + c + `:null}`, `{"a":` + c + `null}`, `{` + c + `"a":null}`, `{"a":null` + c + `}`, `{"a":null,` + c + `"b":null}`} {
			if _, e := json.Parse(s); (e == api.OK) != want {
				t.Errorf("P5.1: Parse(%q): %d", s, e)
			}
		}
	}
}

func TestNumbers(t *testing.T) {
	for n := -3000; n <= 3000; n++ {
		for _, offset := range []int{0, most, -most, 1 << 31, -1 << 31, 1 << 32} {
			m := n + offset
			s := strconv.Itoa(m)
			right := -most <= m && m <= most
			if right && (!parsesTo(s, json.Int(m)) || !parsesTo("["+s+"]", list(json.Int(m)))) || !right && !failsWith(s, api.ErrJsonNumber) {
				t.Errorf("P5.1: %s", s)
			}
			if !failsWith("-0"+strings.TrimPrefix(s, "-"), api.ErrJsonNumber) || !failsWith("0"+strings.TrimPrefix(s, "-"), api.ErrJsonNumber) {
				t.Errorf("P5.1: %s with a 0 ahead", s)
			}
		}
	}
	// No number of more than 16 digits is small again for having gone round.
	for shift := uint(53); shift < 140; shift++ {
		for add := range int64(5) {
			n := new(big.Int).Add(new(big.Int).Lsh(big.NewInt(1), shift), big.NewInt(add))
			if !failsWith(n.String(), api.ErrJsonNumber) || !failsWith("-"+n.String(), api.ErrJsonNumber) {
				t.Errorf("P5.1: %s", n)
			}
		}
	}
}

// Every \u and four digits, in both cases: a rune, but for the halves of others.
func TestEveryEscapedRune(t *testing.T) {
	for unit := range 1 << 16 {
		for _, s := range []string{fmt.Sprintf(`"\u%04x"`, unit), fmt.Sprintf(`"\u%04X"`, unit), fmt.Sprintf(`"a\u%04xd800"`, unit)} {
			if 0xd800 <= unit && unit <= 0xdfff {
				if !failsWith(s, api.ErrJsonText) {
					t.Errorf("P5.1: half a rune alone: %s", s)
				}
				continue
			}
			want := string(rune(unit))
			if strings.HasPrefix(s, `"a`) {
				want = "a" + want + "d800"
			}
			if !parsesTo(s, json.Text(want)) {
				t.Errorf("P5.1: %s", s)
			}
		}
	}
}

// Any first half with some units, and some first halves with any unit.
func TestPairsOfHalves(t *testing.T) {
	pair := func(first, second int) {
		s := fmt.Sprintf(`"\u%04x\u%04X"`, first, second)
		if 0xdc00 <= second && second <= 0xdfff {
			c := rune(0x10000 + 0x400*(first-0xd800) + second - 0xdc00)
			if !parsesTo(s, json.Text(string(c))) {
				t.Errorf("P5.1: %s", s)
			}
		} else if !failsWith(s, api.ErrJsonText) {
			t.Errorf("P5.1: not refused: %s", s)
		}
	}
	for first := 0xd800; first <= 0xdbff; first++ {
		for _, second := range []int{0, 0x41, 0xd7ff, 0xd800, 0xdbff, 0xdc00, 0xdc01, 0xde00, 0xdffe, 0xdfff, 0xe000, 0xffff} {
			pair(first, second)
		}
	}
	for second := range 1 << 16 {
		for _, first := range []int{0xd800, 0xd83d, 0xdbff} {
			pair(first, second)
		}
	}
}

// Every rune stands for itself, but for those below 32, the mark, and the backslash.
func TestEveryRune(t *testing.T) {
	text := ""
	for c := rune(0); c <= utf8.MaxRune; c++ {
		switch {
		case !utf8.ValidRune(c):
			continue
		case c < 32:
			if !failsWith(`"a`+string(c)+`"`, api.ErrJsonText) {
				t.Errorf("P5.1: the byte %d in a text", c)
			}
			continue
		case c != '"' && c != '\\':
			text += string(c)
		}
		if len(text) > 4000 || c == utf8.MaxRune {
			if !parsesTo(`"`+text+`"`, json.Text(text)) {
				t.Errorf("P5.1: runes up to %x", c)
			}
			text = ""
		}
	}
}

func TestDeepTexts(t *testing.T) {
	n := numbers(17)
	for deep := range 40 {
		for range 20 {
			open, end := "", ""
			for range deep {
				if n.below(2) == 0 {
					open, end = open+"[", "]"+end
				} else {
					open, end = open+`{"a":`, "}"+end
				}
			}
			for _, inner := range []string{"1", "[]", "{}", "[1]", "[],[]", `"[[["`} {
				s := open + inner + end
				levels := deep
				if strings.ContainsAny(inner[:1], "[{") {
					levels++
				}
				if levels > 16 && !failsWith(s, api.ErrJsonDeep) {
					t.Errorf("P5.1: %d levels: %s", levels, s)
				}
				check(t, s)
			}
			if deep <= 16 && !parsesTo(open+"1"+end, read(open+"1"+end)) {
				t.Errorf("P5.1: %d levels", deep)
			}
			if want := map[bool]api.Errno{true: api.ErrJsonDeep, false: api.ErrJsonForm}[deep > 16]; !failsWith(open, want) {
				t.Errorf("P5.1: %d levels that are not closed", deep)
			}
		}
	}
}

// Lists that are closed again do not count.
func TestDeepIsNotMany(t *testing.T) {
	full := strings.Repeat("[", 15) + strings.Repeat("]", 15)
	for _, s := range []string{"[" + strings.Repeat("[],", 100) + "[]]", "[" + strings.Repeat(full+",", 50) + full + "]", `{"a":` + full + `,"b":` + full + `}`} {
		if check(t, s) != api.OK {
			t.Errorf("P5.1: refused: %s", s)
		}
	}
}

func TestLongTexts(t *testing.T) {
	if api.MaxText != 4096 {
		t.Fatal("MaxText is another one")
	}
	for _, c := range []struct{ ahead, filler, behind string }{
		{"", " ", "1"}, {"1", "\n", ""}, {`"`, "a", `"`}, {`{"`, "b", `":1}`}, {"[", "\t", "]"}, {"[1", ",1", "]"}, {"", " ", ""}, {"x", "x", ""}, {"\"", "\xff", ""}, {"1", "1", ""}, {"[", "[", ""},
	} {
		for size := 4090; size <= 4100; size++ {
			s := c.ahead
			for len(s)+len(c.filler)+len(c.behind) <= size {
				s += c.filler
			}
			s += strings.Repeat(" ", size-len(s)-len(c.behind)) + c.behind
			if want := check(t, s); len(s) != size || (want == api.ErrJsonLong) != (size > 4096) {
				t.Errorf("P5.1: %d bytes %.5q: %d", len(s), s, want)
			}
		}
	}
	if !failsWith(strings.Repeat("1", 1<<22), api.ErrJsonLong) || !failsWith(strings.Repeat("é", 2049), api.ErrJsonLong) {
		t.Error("P5.1: a text of more than MaxText bytes")
	}
}

func TestManyNames(t *testing.T) {
	v := object()
	for i := range 400 {
		v.Names = append(v.Names, strconv.Itoa(i))
		v.List = append(v.List, json.Int(i))
	}
	s, _ := json.Print(v)
	if len(s) < 3000 || !parsesTo(s, v) {
		t.Errorf("P5.1: %d names", len(v.Names))
	}
	for _, name := range []string{"0", "1", "200", "399"} {
		if !failsWith(s[:len(s)-1]+`,"`+name+`"`, api.ErrJsonTwice) {
			t.Errorf("P5.1: %s twice", name)
		}
	}
	if !parsesTo(s[:len(s)-1]+`,"400":0}`, object(slices.Concat(items(v), []any{"400", json.Int(0)})...)) {
		t.Error("P5.1: one name more")
	}
}

func items(v api.Json) []any {
	var l []any
	for i, name := range v.Names {
		l = append(l, name, v.List[i])
	}
	return l
}

// A text that is cut off has its error where it ends.
func TestTextsThatAreCutOff(t *testing.T) {
	n := numbers(23)
	for range 3000 {
		s, ok := json.Print(n.value(4))
		if !ok {
			t.Fatal("P5.2: not printed")
		}
		for i := range len(s) {
			if e := check(t, s[:i]); e == api.ErrJsonLong || e == api.ErrJsonTwice || e == api.ErrJsonDeep {
				t.Errorf("P5.1: Parse(%q): %d", s[:i], e)
			}
		}
	}
}

var parts = []string{"[", "]", "{", "}", ",", ":", `"a"`, `"b"`, `"\u0061"`, `"`, "1", "0", "-", "-7", "9007199254740991", "null", "true", "false", " ", "\n", ".", "e", "x", `\`, `\n`, `\ud800`, `\udc00`, "é", "\xff", "\x00"}

// change makes a text another one at some place.
func (n *numbers) change(s string) string {
	i := n.below(len(s) + 1)
	j := min(len(s), i+n.below(4))
	switch n.below(4) {
	case 0:
		return s[:i] + s[j:]
	case 1:
		return s[:i] + n.one(parts) + s[i:]
	case 2:
		return s[:i] + s[i:j] + s[i:j] + s[j:]
	}
	return s[:i] + n.one(parts) + s[j:]
}

// members is an object's text, in which a name may be there twice.
func (n *numbers) members() string {
	var l []string
	for range n.below(6) {
		l = append(l, n.one([]string{`"a"`, `"\u0061"`, `"b"`, `"\n"`, `"\u000A"`, `"c"`, `""`})+":"+n.one([]string{"1", `"a"`, "[]", "{}", `{"a":1}`}))
	}
	return "{" + strings.Join(l, ",") + "}"
}

func TestParseOfManyTexts(t *testing.T) {
	n := numbers(31)
	count := map[api.Errno]int{}
	for range 150000 {
		s := n.text(parts, 9)
		switch n.below(4) {
		case 0, 1:
			s, _ = json.Print(n.value(4))
		case 2:
			s = n.members()
		}
		for range n.below(3) {
			s = n.change(s)
		}
		if n.below(8) == 0 {
			s = strings.Repeat("[", n.below(20)) + s
		}
		count[check(t, s)]++
	}
	for _, e := range []api.Errno{api.OK, api.ErrJsonForm, api.ErrJsonNumber, api.ErrJsonText, api.ErrJsonTwice, api.ErrJsonDeep} {
		if count[e] < 500 {
			t.Errorf("P5.1: %d texts with the error %d", count[e], e)
		}
	}
}

// What is read can be printed if it is not too long then, and is read again.
func TestWhatIsReadComesBack(t *testing.T) {
	n := numbers(41)
	spaces := []string{"", "", " ", "\n", "\t\r"}
	for range 5000 {
		v := n.value(4)
		s, _ := json.Print(v)
		if wide := widened(&n, v, spaces); len(wide) <= api.MaxText && (!parsesTo(wide, v) || wanted(wide) != api.OK) {
			t.Errorf("P5.1: Parse(%q) is not %q", wide, s)
		}
	}
	for _, c := range []struct {
		part string
		size int
	}{{`\n`, 6}, {`\u0000`, 6}, {`\u0041`, 1}, {`\/`, 1}, {"é", 2}, {`\\`, 2}} {
		for _, many := range []int{1, 681, 682, 683, 4094} {
			many = min(many, 4094/len(c.part))
			v, e := json.Parse(`"` + strings.Repeat(c.part, many) + `"`)
			if e != api.OK {
				t.Fatalf("P5.1: %d times %s: %d", many, c.part, e)
			}
			s, ok := json.Print(v)
			if want := 2+many*c.size <= api.MaxText; ok != want || json.Right(v) != want {
				t.Errorf("P5.4: %d times %s: printed is %v", many, c.part, ok)
			}
			if ok && !parsesTo(s, v) {
				t.Errorf("P5.4: %d times %s does not come back", many, c.part)
			}
		}
	}
}

// widened writes a value with space between its parts, and its texts escaped in other ways.
func widened(n *numbers, v api.Json, spaces []string) string {
	space := func() string { return n.text(spaces, 2) }
	switch v.Kind {
	case api.JsonText:
		return space() + escaped(n, v.Text) + space()
	case api.JsonList, api.JsonObject:
		var parts []string
		for i, one := range v.List {
			name := ""
			if v.Kind == api.JsonObject {
				name = space() + escaped(n, v.Names[i]) + space() + ":"
			}
			parts = append(parts, name+widened(n, one, spaces))
		}
		brackets := map[int]string{api.JsonList: "[]", api.JsonObject: "{}"}[v.Kind]
		if len(parts) == 0 {
			parts = append(parts, space())
		}
		return space() + brackets[:1] + strings.Join(parts, ",") + brackets[1:] + space()
	}
	s, _ := json.Print(v)
	return space() + s + space()
}

func escaped(n *numbers, s string) string {
	text := ""
	for _, c := range s {
		short := strings.IndexRune("\"\\/\b\f\n\r\t", c)
		switch k := n.below(3); {
		case short >= 0 && k > 0:
			text += `\` + `"\/bfnrt`[short:short+1]
		case c > 0xffff && k > 0:
			text += fmt.Sprintf(`\u%04x\u%04X`, 0xd800+(c-0x10000)/0x400, 0xdc00+(c-0x10000)%0x400)
		case c <= 0xffff && (k > 0 || c < 32 || short >= 0):
			text += fmt.Sprintf(`\u%04x`, c)
		default:
			text += string(c)
		}
	}
	return `"` + text + `"`
}
