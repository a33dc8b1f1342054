package ldap_test

import (
	"strings"
	"testing"

	"chatelaine/api"
	"chatelaine/ldap"
)

// cut takes the element off whose encoding a text begins with, if its tag is this one.
func cut(s string, tag byte) (inside, rest string, ok bool) {
	if len(s) < 2 || s[0] != tag {
		return "", "", false
	}
	n, from := int(s[1]), 2
	switch {
	case n < 128:
	case n == 129 && len(s) > 2 && s[2] > 127:
		n, from = int(s[2]), 3
	case n == 130 && len(s) > 3 && s[2] > 0:
		n, from = int(s[2])*256+int(s[3]), 4
	default:
		return "", "", false
	}
	if len(s)-from < n {
		return "", "", false
	}
	return s[from : from+n], s[from+n:], true
}

// numberIn is the number that a text is the encoding of.
func numberIn(s string) (int, bool) {
	if s == "" || len(s) > 4 || s[0] > 127 || len(s) > 1 && s[0] == 0 && s[1] < 128 {
		return 0, false
	}
	n := 0
	for i := range len(s) {
		n = n*256 + int(s[i])
	}
	return n, true
}

// partsIn takes a message apart whose second element has the tag, and in it elements of the three others.
func partsIn(s string, tag byte, others [3]byte) (id int, parts [3]string, ok bool) {
	all, rest, ok := cut(s, 48)
	if !ok || rest != "" {
		return 0, parts, false
	}
	number, about, ok := cut(all, 2)
	if !ok {
		return 0, parts, false
	}
	about, rest, ok = cut(about, tag)
	if !ok || rest != "" {
		return 0, parts, false
	}
	for i, other := range others {
		if parts[i], about, ok = cut(about, other); !ok {
			return 0, parts, false
		}
	}
	id, ok = numberIn(number)
	return id, parts, ok && about == ""
}

func bindIn(s string) (api.Bind, bool) {
	id, parts, ok := partsIn(s, 96, [3]byte{2, 4, 128})
	if !ok || parts[0] != "\x03" {
		return api.Bind{}, false
	}
	return api.Bind{Id: id, Dn: parts[1], Password: parts[2]}, true
}

func boundIn(s string) (api.Bound, bool) {
	id, parts, ok := partsIn(s, 97, [3]byte{10, 4, 4})
	code, is := numberIn(parts[0])
	if !ok || !is {
		return api.Bound{}, false
	}
	return api.Bound{Id: id, Code: code, Dn: parts[1], Text: parts[2]}, true
}

// checkRead holds what is read against what the second reader reads; what was read is encoded as the same bytes (P7.4).
func checkRead(t *testing.T, s string) (bool, bool) {
	t.Helper()
	x, isBind := bindIn(s)
	y, isBound := boundIn(s)
	if isBind {
		checkBind(t, x, s)
	} else {
		noBind(t, s)
	}
	if isBound {
		checkBound(t, y, s)
	} else {
		noBound(t, s)
	}
	return isBind, isBound
}

// message is one of the number 1, with these parts in an element of the tag; they need not be those of a bind or a bound.
func message(tag byte, parts ...string) string {
	return element(48, element(2, "\x01"), element(tag, parts...))
}

func TestOtherVersions(t *testing.T) {
	for c := range 256 {
		one := string([]byte{byte(c)})
		for _, version := range []string{one, "\x00" + one, one + "\x03", "\x03" + one, "\x00\x00" + one, one + "\x00"} {
			s := message(96, element(2, version), element(4, "cn=a"), element(128, "p"))
			if is, _ := checkRead(t, s); is != (version == "\x03") {
				t.Errorf("P7.1: the version %x", version)
			}
		}
	}
	noBind(t, message(96, element(2), element(4, "cn=a"), element(128, "p")))
}

// Each of the tags is the only one that may stand where it does.
func TestOtherTags(t *testing.T) {
	for c := range 256 {
		tag := byte(c)
		for _, s := range []string{
			element(tag, element(2, "\x01"), element(96, element(2, "\x03"), element(4, "a"), element(128, "b"))),
			element(48, element(tag, "\x01"), element(96, element(2, "\x03"), element(4, "a"), element(128, "b"))),
			element(48, element(2, "\x01"), element(tag, element(2, "\x03"), element(4, "a"), element(128, "b"))),
			element(48, element(2, "\x01"), element(96, element(tag, "\x03"), element(4, "a"), element(128, "b"))),
			element(48, element(2, "\x01"), element(96, element(2, "\x03"), element(tag, "a"), element(128, "b"))),
			element(48, element(2, "\x01"), element(96, element(2, "\x03"), element(tag), element(128, "b"))),
			element(48, element(2, "\x01"), element(96, element(2, "\x03"), element(4, "a"), element(tag, "b"))),
			element(48, element(2, "\x01"), element(96, element(2, "\x03"), element(4, "a"), element(tag))),
			element(tag, element(2, "\x01"), element(97, element(10, "\x03"), element(4, "a"), element(4, "b"))),
			element(48, element(tag, "\x01"), element(97, element(10, "\x03"), element(4, "a"), element(4, "b"))),
			element(48, element(2, "\x01"), element(tag, element(10, "\x03"), element(4, "a"), element(4, "b"))),
			element(48, element(2, "\x01"), element(97, element(tag, "\x03"), element(4, "a"), element(4, "b"))),
			element(48, element(2, "\x01"), element(97, element(10, "\x03"), element(tag, "a"), element(4, "b"))),
			element(48, element(2, "\x01"), element(97, element(10, "\x03"), element(tag), element(4, "b"))),
			element(48, element(2, "\x01"), element(97, element(10, "\x03"), element(4, "a"), element(tag, "b"))),
			element(48, element(2, "\x01"), element(97, element(10, "\x03"), element(4, "a"), element(tag))),
		} {
			checkRead(t, s)
		}
	}
}

// others are lists of parts of which a message is made: some of them less, more, twice, or in another order than they must be.
func others(l []string) [][]string {
	all := [][]string{nil, l}
	for i := range l {
		for j := range l {
			all = append(all, []string{l[i]}, []string{l[i], l[j]})
			for k := range l {
				all = append(all, []string{l[i], l[j], l[k]})
				for m := range l {
					all = append(all, []string{l[i], l[j], l[k], l[m]})
				}
			}
		}
	}
	return all
}

func TestOtherParts(t *testing.T) {
	parts := []string{element(2, "\x03"), element(4, "a"), element(128, "b"), element(10, "\x03"), element(4), element(128), element(48)}
	for _, tag := range []byte{96, 97} {
		binds, bounds := 0, 0
		for _, l := range others(parts) {
			isBind, isBound := checkRead(t, message(tag, l...))
			if isBind {
				binds++
			}
			if isBound {
				bounds++
			}
		}
		if tag == 96 && (binds != 4 || bounds != 0) || tag == 97 && (binds != 0 || bounds != 4) {
			t.Errorf("of the tag %d: %d binds, %d bounds", tag, binds, bounds)
		}
	}
	bind, bound := element(96, parts[:3]...), element(97, parts[3], parts[1], parts[1])
	for _, l := range others([]string{element(2, "\x01"), bind, bound, element(4, "a"), element(48)}) {
		checkRead(t, element(48, l...))
	}
}

// A number that is not written as Whole writes it is none, in either place.
func TestOtherWaysToWriteNumbers(t *testing.T) {
	numbers := []string{""}
	for c := range 256 {
		one := string([]byte{byte(c)})
		numbers = append(numbers, one, "\x00"+one, "\x01"+one, "\x80"+one, "\xff"+one, one+"\x00", one+"\x80\x00", "\x00\x00"+one, one+"\x01\x02\x03", "\x00"+one+"\x01\x02\x03", one+"\x01\x02\x03\x04", "\x00\x00\x00"+one, "\x00\x00\x00\x00"+one, one+"\x00\x00\x00\x00\x00\x00\x00\x05")
	}
	for _, n := range numbers {
		_, ok := numberIn(n)
		isBind, _ := checkRead(t, element(48, element(2, n), element(96, element(2, "\x03"), element(4, "a"), element(128, "b"))))
		_, isBound := checkRead(t, element(48, element(2, n), element(97, element(10, "\x03"), element(4, "a"), element(4, "b"))))
		_, isCode := checkRead(t, element(48, element(2, "\x03"), element(97, element(10, n), element(4, "a"), element(4, "b"))))
		if isBind != ok || isBound != ok || isCode != ok {
			t.Errorf("P7.1, P7.2: the number %x: %v, %v, %v", n, isBind, isBound, isCode)
		}
	}
}

// messages are some of both kinds.
func messages() []string {
	n := numbers(11)
	l := []string{bindText(api.Bind{Id: 1, Dn: "cn=a", Password: "p"}), bindText(api.Bind{}), boundText(api.Bound{Id: 2, Code: 49, Text: "no"}), boundText(api.Bound{}), bindText(api.Bind{Dn: strings.Repeat("a", 130)}), boundText(api.Bound{Text: strings.Repeat("a", 260)})}
	for range 20 {
		l = append(l, bindText(n.bind()), boundText(n.bound()))
	}
	return l
}

func TestTooLittleAndTooMuch(t *testing.T) {
	noBind(t, "")
	noBound(t, "")
	if x, e := ldap.GetBind(nil); e != api.ErrLdapForm || x != (api.Bind{}) {
		t.Errorf("P7.1: GetBind(nil): %v, %d", x, e)
	}
	if x, e := ldap.GetBound(nil); e != api.ErrLdapForm || x != (api.Bound{}) {
		t.Errorf("P7.2: GetBound(nil): %v, %d", x, e)
	}
	for _, s := range messages() {
		for i := range len(s) {
			noBind(t, s[:i])
			noBound(t, s[:i])
			noBind(t, s[i+1:])
			noBound(t, s[i+1:])
		}
		for c := range 256 {
			noBind(t, s+string([]byte{byte(c)}))
			noBound(t, s+string([]byte{byte(c)}))
		}
		for _, more := range []string{s, element(4, "a"), element(48)} {
			noBind(t, s+more)
			noBound(t, s+more)
			noBind(t, element(48, s, more))
			noBound(t, element(48, s, more))
		}
	}
}

// Every byte of a message is made every other one.
func TestChangedMessages(t *testing.T) {
	for _, s := range messages() {
		b := []byte(s)
		for i := range min(len(b), 60) {
			for c := range 256 {
				b[i] = byte(c)
				checkRead(t, string(b))
			}
			b[i] = s[i]
		}
	}
}

// In messages two bytes are changed, or one is taken out, or put in.
func TestMoreChangedMessages(t *testing.T) {
	n := numbers(13)
	small := []byte{0, 1, 2, 3, 4, 5, 10, 48, 96, 97, 127, 128, 129, 130, 255}
	is := 0
	for range 200000 {
		x, y := api.Bind{Id: n.below(300), Dn: "abc"[:n.below(4)], Password: "def"[:n.below(4)]}, api.Bound{Id: n.below(300), Code: n.below(300), Dn: "abc"[:n.below(4)], Text: "def"[:n.below(4)]}
		b := []byte(bindText(x))
		if n.below(2) == 0 {
			b = []byte(boundText(y))
		}
		i, j := n.below(len(b)), n.below(len(b))
		switch n.below(3) {
		case 0:
			b[i], b[j] = small[n.below(len(small))], byte(int(b[j])+n.below(5)-2)
		case 1:
			b[i]--
			b = append(b[:j], b[j+1:]...)
		case 2:
			b[i]++
			b = append(b[:j], append([]byte{small[n.below(len(small))]}, b[j:]...)...)
		}
		if isBind, isBound := checkRead(t, string(b)); isBind || isBound {
			is++
		}
	}
	if is < 1000 {
		t.Errorf("%d of the texts are messages", is)
	}
}

// What is longer than a length can say, or deeper than elements may be, is refused as all else is.
func TestLongAndDeepBytes(t *testing.T) {
	noBind(t, "\x30\x84\x00\x00\x00\x0c\x02\x01\x00\x60\x07\x02\x01\x03\x04\x00\x80\x00")
	noBound(t, "\x30\x80\x02\x01\x00\x61\x07\x0a\x01\x00\x04\x00\x04\x00\x00\x00")
	noBind(t, "\x30\x81\x0c\x02\x01\x00\x60\x07\x02\x01\x03\x04\x00\x80\x00")
	noBind(t, "\x30\x83\x01\x00\x00"+strings.Repeat("\x04\x00", 1<<15))
	deep := ""
	for range api.MaxDeep + 5 {
		deep = element(48, deep)
		noBind(t, deep)
		noBound(t, message(97, deep))
		noBind(t, message(96, element(2, "\x03"), element(4, "a"), element(128, "b"), deep))
	}
}

func FuzzGet(f *testing.F) {
	for _, s := range messages() {
		f.Add([]byte(s))
	}
	f.Fuzz(func(t *testing.T, b []byte) { checkRead(t, string(b)) })
}
