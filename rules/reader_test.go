package rules_test

import (
	"strconv"
	"strings"
	"testing"

	"chatelaine/api"
	"chatelaine/rules"
)

func parsesTo(s string, want ...api.Rule) bool {
	l, e := rules.Parse(s)
	return e == api.OK && equal(l, want)
}

// failsWith tells whether a text is refused with that error, and nothing beside it.
func failsWith(s string, want api.Errno) bool {
	l, e := rules.Parse(s)
	return e == want && len(l) == 0
}

// check holds Parse of a text against the second reader, and tells the error.
func check(t *testing.T, s string) api.Errno {
	t.Helper()
	want, e := wanted(s)
	got, f := rules.Parse(s)
	if f != e || !equal(got, want) {
		t.Errorf("P11.1: Parse(%q): %v, %d, want %v, %d", s, got, f, want, e)
	}
	return e
}

func TestParseOfKnownTexts(t *testing.T) {
	for s, want := range map[string][]api.Rule{
		"": nil, " ": nil, "\n \n": nil,
		"a=1":                             {rule("a", number(1))},
		"a=1;":                            {rule("a", number(1))},
		"a=1;b=2":                         {rule("a", number(1)), rule("b", number(2))},
		" a = 1 ;":                        {rule("a", number(1))},
		"mail = lower($email) else 'x'":   {rule("mail", claim("email"), node(api.OpLower, 0), text("x"), node(api.OpElse, 1, 2))},
		"deny when not has($a) or $n < 5": {denial(has("a"), node(api.OpNot, 0), claim("n"), number(5), node(api.OpLess, 2, 3), node(api.OpOr, 1, 4))},
		"a=1when 2;deny when 3":           {{Name: "a", Expr: []api.Node{number(1)}, When: []api.Node{number(2)}}, denial(number(3))},
		"a=first($b)":                     {rule("a", claim("b"), node(api.OpFirst, 0))},
		"a=head($b)":                      {rule("a", claim("b"), node(api.OpHead, 0))},
		"a=tail($b)":                      {rule("a", claim("b"), node(api.OpTail, 0))},
		"a=starts($b,'c')":                {rule("a", claim("b"), text("c"), node(api.OpStarts, 0, 1))},
		"a=starts(1+2,3 or 4)":            {rule("a", number(1), number(2), node(api.OpJoin, 0, 1), number(3), number(4), node(api.OpOr, 3, 4), node(api.OpStarts, 2, 5))},
		"a=1==2":                          {rule("a", number(1), number(2), node(api.OpEqual, 0, 1))},
		"a=1 in 2":                        {rule("a", number(1), number(2), node(api.OpIn, 0, 1))},
		"a=1 or 2 or 3":                   {rule("a", number(1), number(2), node(api.OpOr, 0, 1), number(3), node(api.OpOr, 2, 3))},
		"a=1 or(2 or 3)":                  {rule("a", number(1), number(2), number(3), node(api.OpOr, 1, 2), node(api.OpOr, 0, 3))},
		"a=1 and 2 and 3":                 {rule("a", number(1), number(2), node(api.OpAnd, 0, 1), number(3), node(api.OpAnd, 2, 3))},
		"a=1+2+3":                         {rule("a", number(1), number(2), node(api.OpJoin, 0, 1), number(3), node(api.OpJoin, 2, 3))},
		"a=1 else 2 else 3":               {rule("a", number(1), number(2), node(api.OpElse, 0, 1), number(3), node(api.OpElse, 2, 3))},
		"a=not not 1":                     {rule("a", number(1), node(api.OpNot, 0), node(api.OpNot, 1))},
		"a=not 1==2 and 3":                {rule("a", number(1), number(2), node(api.OpEqual, 0, 1), node(api.OpNot, 2), number(3), node(api.OpAnd, 3, 4))},
		"a=1 or 2 and not 3<4+5 else 6":   {rule("a", number(1), number(2), number(3), number(4), number(5), number(6), node(api.OpElse, 4, 5), node(api.OpJoin, 3, 6), node(api.OpLess, 2, 7), node(api.OpNot, 8), node(api.OpAnd, 1, 9), node(api.OpOr, 0, 10))},
		"a=1 else 2+3<4 and 5 or 6":       {rule("a", number(1), number(2), node(api.OpElse, 0, 1), number(3), node(api.OpJoin, 2, 3), number(4), node(api.OpLess, 4, 5), number(5), node(api.OpAnd, 6, 7), number(6), node(api.OpOr, 8, 9))},
		"a=(((1)))":                       {rule("a", number(1))},
		wholeText:                         whole(),
	} {
		if !parsesTo(s, want...) {
			l, e := rules.Parse(s)
			t.Errorf("P11.1: Parse(%q): %v, %d, want %v", s, l, e, want)
		}
		check(t, s)
	}
}

func TestParseOfWrongTexts(t *testing.T) {
	for _, s := range []string{
		";", ";;", "a", "a=", "a=;", "a=1;;", "a=1;;b=2", "a=1 b=2", "=1", "a==1", "a= =1", "a 1", "1", "'a'", "$a=1", "a=1 2", "a=1 when", "a=1 when;", "a=1 when 2 when 3", "a=1 deny when 2",
		"deny", "deny 1", "deny=1", "deny when", "deny when;", "deny when 1 when 2", "when=1", "when 1", "or=1", "and=1", "not=1", "in=1", "else=1", "lower=1", "first=1", "head=1", "tail=1", "has=1", "starts=1",
		"a=b", "a=deny", "a=when", "a=()", "a=(1", "a=1)", "a=(1))", "a=(1,2)", "a=1,2", "a=lower", "a=lower 1", "a=lower()", "a=lower(1", "a=lower(1,2)", "a=lower(1,", "a=other(1)", "a=has(a)", "a=has()", "a=has($a,$b)", "a=has(($a))", "a=has $a", "a=has('a')",
		"a=starts(1)", "a=starts(1,2,3)", "a=starts(,1)", "a=starts(1,)", "a=starts(1 2)", "a=starts(1;2)", "a=$", "a=$1", "a=$'a'", "a=$$a", "a=$(a)", "a=$A", "a=$_a",
		"a=1+", "a=+1", "a=1 or", "a=or 1", "a=1 and", "a=1 else", "a=1==", "a=1=2", "a=1===2", "a=1<", "a=1 in", "a=1<2<3", "a=1==2==3", "a=1 in 2 in 3", "a=1==2 in 3", "a=1==not 2", "a=1+not 2", "a=1 else not 2", "a=not", "a=1 not", "a=1 not in 2", "a=1 or or 2",
		"a=-1", "a=1-2", "a=1.5", "a=1<=2", "a=1>2", "a=1!=2", "a=\"x\"", "A=1", "aB=1", "_a=1", "0a=1", "a.b=1", "a-b=1", "a=#", "a=1 // 2", "a=true!", "a=\x00", "\xef\xbb\xbfa=1", "a=1 '", "a=1'x", `a=1 '\x'`, `a=1; '\`, "a=1 01", "a=1 A", "a=1;A", "a=1\t", "\ta=1", "a=1\r\n", "é=1",
	} {
		if !failsWith(s, api.ErrRulesForm) {
			l, e := rules.Parse(s)
			t.Errorf("P11.1: Parse(%q): %v, %d", s, l, e)
		}
		check(t, s)
	}
}

// The first error counts, be there others behind it, and what is not needed is not examined.
func TestFirstErrorCounts(t *testing.T) {
	deep := strings.Repeat("(", 17)
	many := strings.Repeat("a=1;", 17)
	terms := "a=1" + strings.Repeat("+1", 23)
	for s, want := range map[string]api.Errno{
		"a=1 2;a=" + deep: api.ErrRulesForm, "a=" + deep + "A": api.ErrRulesDeep, "a=" + deep + " 1 2": api.ErrRulesDeep, "A;" + many: api.ErrRulesForm, many + "A": api.ErrRulesMany, many[:64] + "A=1": api.ErrRulesForm, many[:64] + "a=" + deep: api.ErrRulesMany,
		many[:64] + "aA": api.ErrRulesMany, many[:64] + "when": api.ErrRulesMany, many[:64] + "deny": api.ErrRulesMany, many[:64] + "else=": api.ErrRulesMany, many[:64] + "1": api.ErrRulesForm, many[:64] + ";": api.ErrRulesForm, many[:64] + "$a": api.ErrRulesForm, many[:63] + " a=1": api.ErrRulesForm,
		many[:64] + strings.Repeat("a", 32): api.ErrRulesMany, many[:64] + strings.Repeat("a", 33): api.ErrRulesForm, many[:64]: api.OK, many[:64] + " \n": api.OK, many[:63]: api.OK,
		terms: api.OK, terms + "+": api.ErrRulesForm, terms + "+A": api.ErrRulesForm, terms + "+1": api.ErrRulesMany, terms + "+1 2": api.ErrRulesMany, terms + "+1)": api.ErrRulesMany, terms + "+1A": api.ErrRulesForm, terms + "+1'": api.ErrRulesForm, terms + "+1 01": api.ErrRulesForm,
		terms + "+lower(1": api.ErrRulesForm, terms + "+lower(1A": api.ErrRulesForm, terms + "+lower(1)A": api.ErrRulesMany, terms + "+lower(1,": api.ErrRulesForm, terms + "+(1": api.ErrRulesForm, terms + "+(1+1A": api.ErrRulesMany, terms + "+(1+A": api.ErrRulesForm, terms + "+(1+": api.ErrRulesForm,
		terms + "+has($b)A": api.ErrRulesForm, terms + "+has($b)": api.ErrRulesMany, terms + "+$b A": api.ErrRulesForm, terms + "+$b else $": api.ErrRulesForm, terms + "+$b else $A": api.ErrRulesForm, terms + "+$b else $b A": api.ErrRulesMany,
		"a=1;b=" + terms[2:] + "+" + deep: api.ErrRulesDeep, terms + "+1" + deep: api.ErrRulesMany, terms + "+(1 else" + deep[1:]: api.ErrRulesDeep, terms + "+(1 else" + deep[2:]: api.ErrRulesForm,
		"a='" + strings.Repeat("x", 4092): api.ErrRulesForm, "a='" + strings.Repeat("x", 4094): api.ErrRulesLong, many + strings.Repeat(" ", 4096): api.ErrRulesLong,
	} {
		if !failsWith(s, want) && want != api.OK {
			_, e := rules.Parse(s)
			t.Errorf("P11.1: Parse(%q): %d, want %d", s, e, want)
		}
		if got := check(t, s); got != want {
			t.Errorf("P11.1: %q: the second reader says %d, want %d", s, got, want)
		}
	}
}

// alphabet has each token that matters, and some that none may be.
var alphabet = []string{"a", "deny", "when", "or", "and", "not", "in", "else", "lower", "has", "starts", "(", ")", ",", ";", "=", "==", "<", "+", "$", "1", "'x'", "A", "01"}

// sequences calls with each text of at most so many tokens.
func sequences(most int, tokens []string, call func(string)) {
	l := []string{""}
	for range most + 1 {
		var longer []string
		for _, s := range l {
			call(s)
			for _, one := range tokens {
				longer = append(longer, s+" "+one)
			}
		}
		l = longer
	}
}

func TestAllShortSequencesOfTokens(t *testing.T) {
	for most, ahead := range map[int][]string{
		4: {"", "a = 1"},
		3: {"a =", "deny when", "a = 1 +", "a = (", "a = 1 when 1", "a = not", "a = starts("},
		2: {"a = 1 ;", "a = 1 ==", "a = 1 in 1", "a = 1 or", "a = 1 else", "a = 1 and 1", "a = (1", "a = lower(", "a = lower(1", "a = has(", "a = has($", "a = has($a", "a = starts(1", "a = starts(1,", "a = starts(1,1", "a = $", "a = (1)", "a = not not", "a = not 1", "a = (not", "deny", "deny when 1", "a = 1 when", "a = 1 < (", "a = 1 < (1"},
	} {
		tokens := alphabet
		if most == 4 {
			tokens = []string{"a", "deny", "when", "or", "not", "in", "else", "(", ")", ";", "=", "+", "$", "1"}
		}
		for _, s := range ahead {
			sequences(most, tokens, func(behind string) { check(t, s+behind) })
		}
	}
}

// All short sequences of tokens behind a text that has nearly all the rules, nodes, or levels that are allowed.
func TestSequencesOfTokensNearTheLimits(t *testing.T) {
	var ahead []string
	for n := 15; n < 18; n++ {
		ahead = append(ahead, strings.Repeat("a=1;", n), strings.Repeat("deny when 1;", n)+"a=1", "a=(1)+"+strings.Repeat("(", n), "a="+strings.Repeat("not ", n), "a=1 or "+strings.Repeat("lower(", n), "a="+strings.Repeat("starts(1,", n)+"1", "a="+strings.Repeat("starts(", n), "a=1 and "+strings.Repeat("not (", n/2)+strings.Repeat("not ", n%2)+"1", "a=1 when "+strings.Repeat("(", n)+"1")
	}
	for n := 22; n < 25; n++ {
		terms := strings.Repeat("1+", n)
		ahead = append(ahead, "a="+terms+"1", "a="+terms+"(1", "a="+terms, "a="+terms+"1<1 ", "a="+terms+"lower(1", "a="+terms+"has($a", "a="+terms+"starts(1,1", "a="+terms+"1 else", "a="+terms+"1 else 1", "a=1 when "+terms+"$", "a=not not "+terms+"1", "deny when "+strings.Repeat("1 or ", n)+"not 1", "a="+strings.Repeat("not(", 9)+terms)
	}
	results := map[api.Errno]int{}
	for _, s := range ahead {
		sequences(2, alphabet, func(behind string) { results[check(t, s+behind)]++ })
	}
	if results[api.OK] < 200 || results[api.ErrRulesForm] < 5000 || results[api.ErrRulesMany] < 5000 || results[api.ErrRulesDeep] < 5000 {
		t.Errorf("some results are rare: %v", results)
	}
}

// Every byte, and some two, at each kind of place.
func TestEveryByteAtEveryPlace(t *testing.T) {
	places := []string{
		"*", "*a=1", "a*=1", "a*b=1", "a=*", "a=*1", "a=1*", "a=1*2", "a=0*", "a=1*;", "a=1;*", "a=1;*b=2", "a=1 *2", "a=1 * 2", "a=1*when 2", "a=1 when*2", "deny*when 1", "deny when*1", "a=$*", "a=$*b", "a=$b*", "a=$b*c",
		"a='*'", "a='b*", "a='b*c'", `a='\*'`, `a='\*`, `a='\\*'`, "a='b'*", "a='b'*'c'", "a=(*1)", "a=(1*)", "a=(1)*", "a=lower*(1)", "a=lower(*1)", "a=lower(1*)", "a=starts(1*2)", "a=starts(1,*2)", "a=has(*)", "a=has(*$b)", "a=has($*b)", "a=has($b*)", "a=1*=2", "a=1=*2", "a=1 *= 2", "a=1 '*'", "a=1 '*", "a=1;'b*'", "a=1==*2", "a=not*1", "a=1 in*2", "a=1 o* 2", "a=lowe*(1)",
	}
	for _, place := range places {
		for x := range 256 {
			c := string([]byte{byte(x)})
			check(t, strings.Replace(place, "*", c, 1))
			check(t, strings.Replace(place, "*", c+" ", 1))
			check(t, strings.Replace(place, "*", "\\"+c, 1))
		}
	}
}

func TestNames(t *testing.T) {
	for size := 1; size < 40; size++ {
		for _, name := range []string{strings.Repeat("a", size), "a" + strings.Repeat("0", size-1), "z" + strings.Repeat("_", size-1), "when" + strings.Repeat("9", size)} {
			want := api.OK
			if len(name) > 32 {
				want = api.ErrRulesForm
			}
			for _, s := range []string{name + "=1", "a=$" + name, "a=has($" + name + ")", "a=1;" + name + "=2"} {
				if got := check(t, s); got != want {
					t.Errorf("P11.1: %d bytes of a name: %q: %d", len(name), s, got)
				}
			}
			if want == api.OK && (!parsesTo(name+"=$"+name, rule(name, claim(name))) || !parsesTo("a=has($"+name+")", rule("a", has(name)))) {
				t.Errorf("P11.1: the name %q", name)
			}
		}
	}
	for _, word := range []string{"when", "deny", "or", "and", "not", "in", "else", "lower", "first", "head", "tail", "has", "starts"} {
		if !parsesTo("a=$"+word+"+$ "+word+"\nelse has($"+word+")", rule("a", claim(word), claim(word), has(word), node(api.OpElse, 1, 2), node(api.OpJoin, 0, 3))) {
			t.Errorf("P11.1: the claim %s", word)
		}
		if !failsWith(word+"=1", api.ErrRulesForm) || !failsWith(word+" = 1", api.ErrRulesForm) {
			t.Errorf("P11.1: a rule of the name %s", word)
		}
		for _, name := range []string{word + "s1", word + "_", word[:len(word)-1] + "x", "x" + word, word + word} {
			if !parsesTo(name+"=$"+name+" when$"+name, api.Rule{Name: name, Expr: []api.Node{claim(name)}, When: []api.Node{claim(name)}}) {
				t.Errorf("P11.1: a name like a keyword: %s", name)
			}
		}
	}
}

func TestNumbers(t *testing.T) {
	for near := -300; near <= 300; near++ {
		for _, n := range []int{1000, mostInt, 1 << 31, 1 << 32, 1 << 62} {
			s := strconv.Itoa(n + near)
			if right := n+near <= mostInt; right != parsesTo("a="+s, rule("a", number(n+near))) || !right && !failsWith("a="+s, api.ErrRulesForm) {
				t.Errorf("P11.1: the number %s", s)
			}
			if !failsWith("a=0"+s, api.ErrRulesForm) || !failsWith("a=00"+s, api.ErrRulesForm) || !failsWith("a="+s+strings.Repeat("0", 40), api.ErrRulesForm) {
				t.Errorf("P11.1: the number %s with more digits", s)
			}
		}
	}
	for _, s := range []string{"00", "000", "00000000000000000000000000", "01", "9007199254740992", "9223372036854775807", "9223372036854775808", "18446744073709551616", "18446744073709551617", "99999999999999999999999999999999", "1_0", "1e3", "0x1", "-0", "+1"} {
		if !failsWith("a="+s, api.ErrRulesForm) {
			t.Errorf("P11.1: the number %s", s)
		}
	}
	if !parsesTo("a=0", rule("a", number(0))) || !parsesTo("a=10", rule("a", number(10))) || !parsesTo("a=9007199254740991", rule("a", number(mostInt))) {
		t.Error("P11.1: the numbers 0, 10, and the greatest one")
	}
}

func TestTexts(t *testing.T) {
	all := ""
	for x := range 256 {
		c := string([]byte{byte(x)})
		plain := 32 <= x && x <= 126 && c != "'" && c != `\`
		if plain {
			all += c
		}
		if plain != parsesTo("a='x"+c+"y'", rule("a", text("x"+c+"y"))) || !plain && !failsWith("a='x"+c+"y'", api.ErrRulesForm) {
			t.Errorf("P11.1: the byte %d in a text", x)
		}
		if escaped := c == "'" || c == `\`; escaped != parsesTo(`a='x\`+c+"y'", rule("a", text("x"+c+"y"))) || !escaped && !failsWith(`a='x\`+c+"y'", api.ErrRulesForm) {
			t.Errorf("P11.1: the byte %d behind a backslash", x)
		}
	}
	for s, want := range map[string]string{"": "", all: all, `\'\\`: `'\`, `\\\'`: `\'`, `\\\\`: `\\`, `\'`: "'", `\\`: `\`, "a = 1; -- \" ": "a = 1; -- \" ", "  ": "  "} {
		if !parsesTo("a='"+s+"'", rule("a", text(want))) || !parsesTo("a='"+s+"'+'"+s+"'", rule("a", text(want), text(want), node(api.OpJoin, 0, 1))) {
			t.Errorf("P11.1: the text %q", s)
		}
	}
	for _, s := range []string{"'", "'a", `'\'`, `'\`, `'\\\'`, "'a''", "''a'", "'\n'", "'é'", "'\x7f'", "'\x1f'", "a'", `'\n'`, `"a"`, "'a' 'b'", `\'a'`} {
		if !failsWith("a="+s, api.ErrRulesForm) {
			t.Errorf("P11.1: the text %q", s)
		}
	}
}

func TestLongTexts(t *testing.T) {
	if api.MaxText != mostBytes || api.MaxRules != mostRules || api.MaxNodes != mostNodes || api.MaxDeep != mostDeep {
		t.Fatal("the limits are others")
	}
	for _, c := range []struct{ ahead, filler, behind string }{
		{"", " ", ""}, {"a=1", "\n", ""}, {"", " ", "a=1"}, {"a='", "x", "'"}, {"a='", `\\`, "'"}, {"a='", "x", ""}, {"", "a", ""}, {"a=", "1", ""}, {"a=", "(", ""}, {"a=", "not ", "1"}, {"", "a=1;", ""}, {"a=1", "+1", ""}, {"", "\xff", ""}, {"", ";", ""},
	} {
		for size := 4090; size <= 4100; size++ {
			s := c.ahead
			for len(s)+len(c.filler)+len(c.behind) <= size {
				s += c.filler
			}
			s += strings.Repeat(" ", size-len(s)-len(c.behind)) + c.behind
			if got := check(t, s); len(s) != size || (got == api.ErrRulesLong) != (size > 4096) {
				t.Errorf("P11.1: %d bytes %.5q: %d", len(s), s, got)
			}
		}
	}
	for _, s := range []string{"a", " ", "(", "'", "a=1;", "é"} {
		if !failsWith(strings.Repeat(s, 1<<22), api.ErrRulesLong) {
			t.Errorf("P11.1: %q very often", s)
		}
	}
}

// What is open: parentheses, those of functions, and nots until their operands have been read.
func TestDepth(t *testing.T) {
	n := numbers(3)
	opens := []string{"(", "not ", "not not ", "lower(", "first(", "head(", "tail(", "starts(", "starts(1,", "1+(", "1 or not ", "1 else lower(", "has($a)and not ", "starts((1),"}
	behind := []string{"", "+(1)", " or not not 1", " and has($a)", " else lower(1)", " when (1)"}
	results := map[api.Errno]int{}
	for range 6000 {
		open, closing := "", ""
		for range n.below(19) {
			one := n.one(opens)
			open += one
			switch {
			case strings.HasSuffix(one, "not "):
			case one == "starts(":
				closing = ",1)" + closing
			default:
				closing = ")" + closing
			}
		}
		for _, inner := range []string{"", "(", "not 1", "lower(", "starts(", "has(", "1 (", "1 not", "not (1) and ("} {
			results[check(t, "a="+open+inner)]++
		}
		results[check(t, "a="+open+n.one([]string{"1", "(1)", "not 1", "has($a)"})+closing+n.one(behind))]++
	}
	if results[api.OK] < 1000 || results[api.ErrRulesDeep] < 1000 || results[api.ErrRulesForm] < 1000 {
		t.Errorf("some results are rare: %v", results)
	}
}

func TestDepthOfEachKind(t *testing.T) {
	for open, closing := range map[string]string{"(": ")", "lower(": ")", "first(": ")", "head(": ")", "tail(": ")", "starts(": ",1)", "starts(1,": ")", "not ": "", "not(": ")", "lower(not ": ")"} {
		each := strings.Count(open, "(") + strings.Count(open, "not")
		for deep := range 20 {
			for _, inner := range []string{"1", "(1)", "not 1", "has($a)", "lower(1)", "starts(1,1)"} {
				want := api.OK
				if levels := deep*each + strings.Count(inner, "(") + strings.Count(inner, "not"); levels > 16 {
					want = api.ErrRulesDeep
				}
				for _, s := range []string{"a=", "a=(1)or ", "deny when ", "a=1 when ", "a=not 1 and not ((1)) and "} {
					if got := check(t, s+strings.Repeat(open, deep)+inner+strings.Repeat(closing, deep)); got != want {
						t.Errorf("P11.1: %d times %s and %s: %d, want %d", deep, open, inner, got, want)
					}
				}
			}
		}
	}
	// Where no operand may begin, a parenthesis or a not is none of them.
	for _, s := range []string{"a=" + strings.Repeat("(", 16) + "1(", "a=" + strings.Repeat("(", 16) + "1 not", "a=" + strings.Repeat("(", 16) + "lower 1", "a=" + strings.Repeat("(", 16) + "1+not 1"} {
		if got := check(t, s); got != api.ErrRulesForm {
			t.Errorf("P11.1: %s: %d", s, got)
		}
	}
}

func TestManyRulesAndNodes(t *testing.T) {
	for many := range 20 {
		want := api.OK
		if many > 16 {
			want = api.ErrRulesMany
		}
		for _, one := range []string{"a=1", "deny when 1", "a=1 when 2"} {
			l := make([]string, many)
			for i := range l {
				l[i] = one
			}
			s := strings.Join(l, ";")
			if got := check(t, s); got != want {
				t.Errorf("P11.1: %d rules: %d", many, got)
			}
			if many > 0 && check(t, s+";") != want {
				t.Errorf("P11.1: %d rules, and a semicolon", many)
			}
		}
	}
	for leaves := 1; leaves < 50; leaves++ {
		for _, operator := range []string{"+", " or ", " and ", " else "} {
			for nots := range 4 {
				s := strings.Repeat("not ", nots) + "(1" + strings.Repeat(operator+"1", leaves-1) + ")"
				want := api.OK
				if 2*leaves-1+nots > 48 {
					want = api.ErrRulesMany
				}
				for _, rule := range []string{"a=" + s, "deny when " + s, "a=1 when " + s, "a=" + s + " when " + s, "a=" + s + ";a=" + s + ";deny when " + s} {
					if got := check(t, rule); got != want {
						t.Errorf("P11.1: %d nodes: %s: %d", 2*leaves-1+nots, rule, got)
					}
				}
			}
		}
	}
}

// source is the tokens of what is most often an expression: a not, or a comparison, may stand where none can be.
func (n *numbers) source(deep int) []string {
	if deep == 0 {
		return n.leaf()
	}
	switch n.below(9) {
	case 0:
		return append(append([]string{"("}, n.source(deep-1)...), ")")
	case 1:
		return append([]string{"not"}, n.source(deep-1)...)
	case 2:
		return append(append([]string{n.one([]string{"lower", "first", "head", "tail"}), "("}, n.source(deep-1)...), ")")
	case 3:
		l := append([]string{"starts", "("}, n.source(deep-1)...)
		return append(append(append(l, ","), n.source(deep-1)...), ")")
	case 4, 5, 6, 7:
		l := append(n.source(deep-1), n.one([]string{"or", "and", "==", "<", "in", "+", "else", "or", "and", "+", "else"}))
		return append(l, n.source(deep-1)...)
	}
	return n.leaf()
}

func (n *numbers) leaf() []string {
	switch n.below(4) {
	case 0:
		return []string{n.one([]string{"''", "'x'", `'it\'s'`, `'\\'`, "' ; '"})}
	case 1:
		return []string{n.one([]string{"0", "1", "25", "9007199254740991"})}
	case 2:
		return []string{"has", "(", "$", n.one([]string{"a", "when", "b_1"}), ")"}
	}
	return []string{"$", n.one([]string{"a", "not", "b_1"})}
}

// chain is the tokens of a rule of some 40 to 56 nodes.
func (n *numbers) chain() []string {
	l := append([]string{"a", "="}, n.leaf()...)
	for range 20 + n.below(9) {
		l = append(append(l, n.one([]string{"or", "and", "+", "else"})), n.leaf()...)
	}
	return l
}

// program is the tokens of some rules.
func (n *numbers) program() []string {
	var l []string
	for i := range n.below(4) {
		if i > 0 {
			l = append(l, ";")
		}
		if n.below(3) == 0 {
			l = append(append(l, "deny", "when"), n.source(n.below(5))...)
			continue
		}
		l = append(append(l, n.one([]string{"a", "mail", "b_1"}), "="), n.source(n.below(7))...)
		if n.below(2) == 0 {
			l = append(append(l, "when"), n.source(n.below(4))...)
		}
	}
	return l
}

// spaced writes tokens with white space between them, as little as may be where none is asked for.
func (n *numbers) spaced(tokens []string, wide bool) string {
	s := ""
	for i, one := range tokens {
		if i > 0 && isWordByte(s[len(s)-1]) && isWordByte(one[0]) || i > 0 && s[len(s)-1] == '=' && one[0] == '=' {
			s += n.one([]string{" ", "\n"})
		}
		for wide && n.below(3) == 0 {
			s += n.one([]string{" ", "\n"})
		}
		s += one
	}
	return s
}

func isWordByte(c byte) bool {
	return 'a' <= c && c <= 'z' || '0' <= c && c <= '9' || c == '_' || 'A' <= c && c <= 'Z'
}

// Rules, some of them with tokens put in, left out or cut off, are held against the second reader.
func TestParseOfManyTexts(t *testing.T) {
	n := numbers(7)
	results := map[api.Errno]int{}
	for range 60000 {
		tokens := n.program()
		for range n.below(3) {
			i := n.below(len(tokens) + 1)
			switch n.below(4) {
			case 0:
				tokens = tokens[:i]
			case 1:
				tokens = append(tokens[:i:i], tokens[min(i+1, len(tokens)):]...)
			default:
				tokens = append(append(tokens[:i:i], n.one(alphabet)), tokens[i:]...)
			}
		}
		if n.below(10) == 0 {
			tokens = append(n.chain(), tokens...)
		}
		s := n.spaced(tokens, n.below(2) == 0)
		results[check(t, s)]++
		if i := n.below(len(s) + 1); n.below(4) == 0 {
			check(t, s[:i])
			check(t, s[:i]+string([]byte{byte(n.below(256))})+s[i:])
		}
	}
	for _, e := range []api.Errno{api.OK, api.ErrRulesForm, api.ErrRulesMany} {
		if results[e] < 500 {
			t.Errorf("few results are %d: %v", e, results)
		}
	}
}

// White space between tokens does not matter, and what is read is right.
func TestWhatIsReadIsRight(t *testing.T) {
	n := numbers(11)
	read := 0
	for range 30000 {
		tokens := n.program()
		narrow, wide := n.spaced(tokens, false), n.spaced(tokens, true)
		l, e := rules.Parse(narrow)
		if m, f := rules.Parse(wide); len(wide) <= mostBytes && (e != f || !equal(l, m)) {
			t.Errorf("P11.4: Parse(%q) is not Parse(%q)", wide, narrow)
		}
		if e != api.OK {
			continue
		}
		read++
		s := rules.Print(l)
		if again, f := rules.Parse(s); f != api.OK || !equal(again, l) || !rules.Right(l) || !rules.Same(again, l) || rules.Print(again) != s {
			t.Errorf("P11.4: Print of Parse(%q): %q", narrow, s)
		}
	}
	if read < 5000 {
		t.Errorf("%d texts are read", read)
	}
}
