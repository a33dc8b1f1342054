package ldap_test

import (
	"strings"
	"testing"

	"chatelaine/ldap"
)

// nameOf is what Name must answer.
func nameOf(base [2]string, user string) (string, bool) {
	if len(user) == 0 || len(user) >= 65 {
		return "", false
	}
	for i := range len(user) {
		if user[i] <= ' ' || user[i] >= 0x7f {
			return "", false
		}
	}
	return base[0] + strings.NewReplacer(`,`, `\,`, `+`, `\+`, `"`, `\"`, `\`, `\\`, `<`, `\<`, `>`, `\>`, `;`, `\;`, `=`, `\=`, `#`, `\#`).Replace(user) + base[1], true
}

func checkName(t *testing.T, base [2]string, user string) {
	t.Helper()
	want, ok := nameOf(base, user)
	if got, is := ldap.Name(base, user); got != want || is != ok {
		t.Errorf("P7.3: Name(%.200q, %.200q): %.200q, %v", base, user, got, is)
	}
}

// bases are some of what may stand about a user; it is taken as it is.
func bases() [][2]string {
	return [][2]string{{"cn=", ",dc=x"}, {"", ""}, {"", ",dc=x"}, {"uid=", ""}, {" \\,", "\\"}, {"\x00\xff\u00e9", "\n,+\"\\<>;=#"}, {strings.Repeat("a", 5000), strings.Repeat("b,", 5000)}}
}

func TestKnownNames(t *testing.T) {
	base := [2]string{"cn=", ",dc=x"}
	for user, want := range map[string]string{
		"a": `cn=a,dc=x`, "a,b": `cn=a\,b,dc=x`, `a,b\#`: `cn=a\,b\\\#,dc=x`, `,+"\<>;=#`: `cn=\,\+\"\\\<\>\;\=\#,dc=x`, "!": `cn=!,dc=x`, "~": `cn=~,dc=x`,
		"#a": `cn=\#a,dc=x`, "a#": `cn=a\#,dc=x`, `\`: `cn=\\,dc=x`, `\\`: `cn=\\\\,dc=x`, `\,`: `cn=\\\,,dc=x`, "a'b/c*(d)|&%$@:?[e]^_`{f}-.": "cn=a'b/c*(d)|&%$@:?[e]^_`{f}-.,dc=x",
	} {
		if got, ok := ldap.Name(base, user); got != want || !ok {
			t.Errorf("P7.3: Name(%q): %q, %v", user, got, ok)
		}
	}
}

func TestNamesOfEveryByte(t *testing.T) {
	for _, base := range bases() {
		for c := range 256 {
			one := string([]byte{byte(c)})
			for _, user := range []string{one, one + "a", "a" + one, "a" + one + "b", one + one, "," + one, one + `\`, strings.Repeat("a", 63) + one, one + strings.Repeat("a", 63)} {
				checkName(t, base, user)
			}
		}
	}
}

func TestNamesOfEveryTwoBytes(t *testing.T) {
	for a := range 256 {
		for b := range 256 {
			checkName(t, [2]string{"cn=", ",dc=x"}, string([]byte{byte(a), byte(b)}))
		}
	}
}

func TestNamesOfManyLengths(t *testing.T) {
	for _, base := range bases() {
		checkName(t, base, "")
		for n := range 300 {
			for _, one := range []string{"a", ",", `\`, "~", " ", "\x7f"} {
				checkName(t, base, strings.Repeat(one, n))
			}
		}
		checkName(t, base, strings.Repeat("a", 65536+1))
	}
	if s, ok := ldap.Name([2]string{}, strings.Repeat("=", 64)); !ok || len(s) != 128 {
		t.Errorf("P7.3: 64 bytes with a \\ ahead of each: %q, %v", s, ok)
	}
	if s, ok := ldap.Name([2]string{"cn=", ",dc=x"}, strings.Repeat("a", 65)); ok || s != "" {
		t.Errorf("P7.3: 65 bytes: %q, %v", s, ok)
	}
}

func TestNamesOfOtherUsers(t *testing.T) {
	for _, user := range []string{"", " ", "a b", " a", "a ", "\x00", "a\x00", "\t", "a\n", "\x1f", "\x7f", "\x80", "\xff", "\u00e9", "\u2028", "a\u00a0"} {
		if s, ok := ldap.Name([2]string{"cn=", ",dc=x"}, user); ok || s != "" {
			t.Errorf("P7.3: Name(%q): %q, %v", user, s, ok)
		}
	}
}

func TestManyNames(t *testing.T) {
	n := numbers(17)
	all := "ab!~,+\"\\<>;=#:"
	right := 0
	for range 100000 {
		user := make([]byte, n.below(70))
		for i := range user {
			user[i] = all[n.below(len(all))]
		}
		if n.below(4) == 0 && len(user) > 0 {
			user[n.below(len(user))] = byte(n.below(256))
		}
		base := bases()[n.below(6)]
		checkName(t, base, string(user))
		if _, ok := nameOf(base, string(user)); ok {
			right++
		}
	}
	if right < 10000 {
		t.Errorf("%d of the users have names", right)
	}
}

// users calls a function with every user of up to so many of these characters.
func users(characters string, most int, call func(string)) {
	var longer func(string)
	longer = func(user string) {
		if user != "" {
			call(user)
		}
		for i := range len(characters) {
			if len(user) < most {
				longer(user + characters[i:i+1])
			}
		}
	}
	longer("")
}

// Different users have different names, and a , of one has a \ ahead of it (P7.4).
func TestNamesDiffer(t *testing.T) {
	for _, base := range [][2]string{{"cn=", ",dc=x"}, {"", ""}, {`\`, `\`}, {"a,", ",a"}} {
		of := map[string]string{}
		users(`a\,=#`, 6, func(user string) {
			name, ok := ldap.Name(base, user)
			if !ok {
				t.Fatalf("P7.3: no name of %q", user)
			}
			if other, is := of[name]; is {
				t.Fatalf("P7.4: the name %q is that of %q and of %q", name, other, user)
			}
			of[name] = user
			part := name[len(base[0]) : len(name)-len(base[1])]
			if plain, ok := unescaped(part); !ok || plain != user {
				t.Fatalf("P7.4: the name %q of %q", name, user)
			}
		})
		if len(of) < 15000 {
			t.Errorf("%d names", len(of))
		}
	}
}

// unescaped is what a part of a name says, each \ of it standing for what follows; false at a character that would need a \.
func unescaped(s string) (string, bool) {
	var b strings.Builder
	for i := 0; i < len(s); i++ {
		if s[i] == '\\' {
			if i++; i == len(s) {
				return "", false
			}
		} else if strings.IndexByte(`,+"<>;=#`, s[i]) >= 0 {
			return "", false
		}
		b.WriteByte(s[i])
	}
	return b.String(), true
}

func TestSameNamesAgain(t *testing.T) {
	base := [2]string{"cn=", ",dc=x"}
	for range 3 {
		checkName(t, base, "a,b")
		checkName(t, base, "a b")
		checkName(t, [2]string{"uid=", ""}, "c")
	}
	if base != [2]string{"cn=", ",dc=x"} {
		t.Errorf("R5: %q", base)
	}
}

func FuzzName(f *testing.F) {
	f.Add("cn=", ",dc=x", "a,b")
	f.Add("", "", `,+"\<>;=#`)
	f.Fuzz(func(t *testing.T, left, right, user string) { checkName(t, [2]string{left, right}, user) })
}
