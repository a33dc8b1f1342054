package url_test

import (
	"fmt"
	"strings"
	"testing"

	"chatelaine/api"
	"chatelaine/url"
)

const (
	hostOnes = "abcdefghijklmnopqrstuvwxyz0123456789"
	pathOnes = "ABCDEFGHIJKLMNOPQRSTUVWXYZabcdefghijklmnopqrstuvwxyz0123456789-._~/"
	digits   = "0123456789ABCDEF"
)

// hostOf is a host of that many bytes.
func hostOf(size int) string {
	host := []byte(strings.Repeat("a", size))
	for i := 31; i < size-1; i += 32 {
		host[i] = '.'
	}
	return string(host)
}

func hostIs(host string) bool { return parsesTo("https://"+host+"/", host, "/", nil) }

func hostRefused(host string) bool {
	return refused("https://"+host+"/") && refused("https://"+host+"/a?b=c")
}

func TestEveryByteOfAHost(t *testing.T) {
	for x := range 256 {
		c := string([]byte{byte(x)})
		if strings.Contains("/?", c) {
			continue
		}
		letter := strings.Contains(hostOnes, c)
		cases := []struct {
			host string
			want bool
		}{
			{c, letter},
			{c + "a", letter},
			{"a" + c, letter},
			{"a.b" + c, letter},
			{"a." + c, letter},
			{c + ".b", letter},
			{"a" + c + ".b", letter},
			{"a" + c + ":80", letter},
			{"a" + c + "b", letter || c == "-" || c == "."},
			{"a" + c + "1", letter || c == "-" || c == "." || c == ":"},
			{"a." + c + "b", letter},
		}
		for _, k := range cases {
			if k.want && !hostIs(k.host) {
				t.Errorf("P4.1: host refused: %q", k.host)
			}
			if !k.want && !hostRefused(k.host) {
				t.Errorf("P4.1: host not refused: %q", k.host)
			}
		}
	}
}

func TestHostsThatAreTaken(t *testing.T) {
	for _, host := range []string{
		"a", "0", "a.b", "a.b.c.d.e", "a--b", "xn--bcher-kva.example", "0-0", "127.0.0.1", "1.2", "a:1", "a:80", "a.b:8443",
		"a:65535", "a:10000", "a-b.c-d:9",
	} {
		if !hostIs(host) {
			t.Errorf("P4.1: host refused: %q", host)
		}
	}
}

func TestHostsThatAreRefused(t *testing.T) {
	for _, host := range []string{
		"", ".", "..", "a.", ".a", "a..b", "-", "-a", "a-", "--", "a.-b", "a-.b", "a.-", "a.b-:1", "-a.b",
		"A", "aB", "a_b", "a~b", "a b", " a", "a ", "a\n", "é", "a%41", "u@a", "u:p@a", "[::1]", "a,b", "a#", "a\\b",
		":", ":80", "a:", "a:b", "a::1", "a:1:2", "a:1.b", "a.:1", "a:80.",
	} {
		if !hostRefused(host) {
			t.Errorf("P4.1: host not refused: %q", host)
		}
	}
}

func TestEveryPort(t *testing.T) {
	for n := range 70000 {
		host := fmt.Sprintf("a:%d", n)
		if want := 1 <= n && n <= 65535; want != hostIs(host) || want == hostRefused(host) {
			t.Errorf("P4.1: %q: taken is %v", host, !want)
		}
	}
}

func TestPortsThatAreRefused(t *testing.T) {
	for _, port := range []string{
		"0", "00", "01", "080", "00080", "000000001", "+1", "-1", "+80", " 80", "80 ", "8 0", "8_0", "1e3", "0x50", "0b1", "1.0",
		"65536", "65540", "70000", "99999", "100000", "655350", "4294967297", "18446744073709551617", "9223372036854775808",
		strings.Repeat("9", 200), strings.Repeat("0", 200) + "1", "８０", "a", "1a", "-", "+", "-0",
	} {
		if !hostRefused("a:" + port) {
			t.Errorf("P4.1: port not refused: %q", port)
		}
	}
}

func TestLongNamesOfAHost(t *testing.T) {
	for n := 1; n <= 130; n++ {
		name := strings.Repeat("a", n)
		for _, host := range []string{name, name + ".b", "b." + name, name + ":1", "b." + name + ".c:65535"} {
			if want := n <= 63; want != hostIs(host) || want == hostRefused(host) {
				t.Errorf("P4.1: a name of %d bytes: taken is %v", n, !want)
			}
		}
	}
}

// The port's bytes are among those of the host.
func TestLongHosts(t *testing.T) {
	for size := 240; size <= 260; size++ {
		for _, port := range []string{"", ":1", ":80", ":65535"} {
			host := hostOf(size-len(port)) + port
			if len(host) != size {
				t.Fatalf("a host of %d bytes, not %d", len(host), size)
			}
			if want := size <= 253; want != hostIs(host) || want == hostRefused(host) {
				t.Errorf("P4.1: a host of %d bytes with the port %q: taken is %v", size, port, !want)
			}
		}
	}
	if short := strings.Repeat("a.", 126) + "a"; !hostIs(short) || !hostRefused(short+".a") || !hostRefused(short+"a") {
		t.Error("P4.1: a host of 253 bytes, of names of 1")
	}
}

func pathIs(path string) bool {
	return parsesTo("https://a"+path, "a", path, nil) && parsesTo("https://a"+path+"?b=c", "a", path, list("b", "c"))
}

func pathRefused(path string) bool {
	return refused("https://a"+path) && refused("https://a"+path+"?b=c")
}

func TestEveryByteOfAPath(t *testing.T) {
	for x := range 256 {
		c := string([]byte{byte(x)})
		if c == "?" {
			continue
		}
		want := strings.Contains(pathOnes, c)
		for _, path := range []string{"/" + c, "/" + c + "a", "/a" + c, "/a" + c + "/", "/%41" + c, "/" + c + "%41", "//" + c} {
			if want && !pathIs(path) {
				t.Errorf("P4.1: path refused: %q", path)
			}
			if !want && !pathRefused(path) {
				t.Errorf("P4.1: path not refused: %q", path)
			}
		}
	}
}

// A % and any two bytes: taken if both are digits, upper-case ones alone.
func TestEveryEscapeOfAPath(t *testing.T) {
	for i := range 1 << 16 {
		two := string([]byte{byte(i >> 8), byte(i)})
		if strings.Contains(two, "?") {
			continue
		}
		want := strings.Contains(digits, two[:1]) && strings.Contains(digits, two[1:])
		for _, path := range []string{"/%" + two, "/a%" + two + "/b"} {
			if want && !pathIs(path) {
				t.Errorf("P4.1: path refused: %q", path)
			}
			if !want && !pathRefused(path) {
				t.Errorf("P4.1: path not refused: %q", path)
			}
		}
	}
}

func TestPathsThatAreTaken(t *testing.T) {
	for _, path := range []string{
		"/", "//", "/a", "/a/", "/a//b", "/.", "/..", "/../a", "/-._~", "/%2F", "/c%2F", "/%00%FF", "/%25", "/%2541", "/%41b", "/%411",
		"/%3F", "/%23", "/A/Z/0", "/" + strings.Repeat("%AA", 1000),
	} {
		if !pathIs(path) {
			t.Errorf("P4.1: path refused: %q", path)
		}
	}
}

func TestPathsThatAreRefused(t *testing.T) {
	for _, path := range []string{
		"", "/%", "/%4", "/%F", "/a%", "/a%2", "/%%", "/%%41", "/%2f", "/%f0", "/%fF", "/%Ff", "/%G0", "/%0G", "/%zz", "/%4/1", "/%/41",
		"/#", "/#x", "/a#", "/a b", "/a+b", "/a;b", "/a=b", "/a&b", "/a:b", "/a@b", "/é", "/\x00", "/a\n", "/!", "/*", "/'", "/(", "/,", "/$",
		"/\\", "/\"", "/<", "/^", "/`", "/{", "/|", "/\x7f", "/\xff",
	} {
		if !pathRefused(path) {
			t.Errorf("P4.1: path not refused: %q", path)
		}
	}
	// The digits of the query do not belong to the % ahead of it.
	for _, s := range []string{"https://a/%?41", "https://a/%4?1", "https://a/b%?"} {
		if !refused(s) {
			t.Errorf("P4.1: not refused: %q", s)
		}
	}
}

// What was escaped in a path is left as it was: two ways of writing it are two addresses.
func TestPathIsNotUnescaped(t *testing.T) {
	a, _ := url.Parse("https://a/%41")
	b, _ := url.Parse("https://a/A")
	if a.Path != "/%41" || b.Path != "/A" || url.Print(a) == url.Print(b) {
		t.Errorf("P4.4: %q, %q", a, b)
	}
	if url.Right(api.Url{Host: "a", Path: "/%4a"}) || !url.Right(api.Url{Host: "a", Path: "/%4A"}) {
		t.Error("P4.2: a lower-case digit")
	}
}
