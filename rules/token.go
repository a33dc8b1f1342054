package rules

import (
	"strconv"
	"strings"
)

const (
	mostName   = 32        // bytes of a name
	mostNumber = 1<<53 - 1 // what a number is may become a claim, and there is none greater
	digits     = "0123456789"
	nameBytes  = "abcdefghijklmnopqrstuvwxyz" + digits + "_"
)

// kind says which token one is.
type kind int

const (
	unread kind = iota // none that was examined yet
	broken             // none that may be there
	finish             // the end of the text
	aText
	aNumber
	dollar
	opening
	closing
	comma
	semicolon
	becomes // =
	equals  // ==
	less
	plus
	aName // and from here on all that are names where no keyword is meant
	when
	deny
	or
	and
	not
	in
	otherwise
	lower
	first
	head
	tail
	has
	starts
)

// keywords are the names that mean something, by their kinds.
var keywords = [...]string{
	when: "when", deny: "deny", or: "or", and: "and", not: "not", in: "in", otherwise: "else",
	lower: "lower", first: "first", head: "head", tail: "tail", has: "has", starts: "starts",
}

// isWord tells whether a token is a name, be it a keyword or not.
func (k kind) isWord() bool { return k >= aName }

type token struct {
	kind   kind
	text   string // a text, or a name
	number int
}

// tokens answers what advances through a text: each call examines one token more.
func tokens(s string) func() token {
	return func() token {
		s = strings.TrimLeft(s, " \n")
		t, size := firstToken(s)
		s = s[size:]
		return t
	}
}

// firstToken is the token with which a text begins, and how many bytes that has.
func firstToken(s string) (token, int) {
	switch {
	case s == "":
		return token{kind: finish}, 0
	case s[0] == '\'':
		return quoted(s)
	case 'a' <= s[0] && s[0] <= 'z':
		return word(s)
	case '0' <= s[0] && s[0] <= '9':
		return number(s)
	case strings.HasPrefix(s, "=="):
		return token{kind: equals}, 2
	}
	return token{kind: sign(s[0])}, 1
}

// sign is the kind of a token of one byte.
func sign(c byte) kind {
	switch c {
	case '$':
		return dollar
	case '(':
		return opening
	case ')':
		return closing
	case ',':
		return comma
	case ';':
		return semicolon
	case '=':
		return becomes
	case '<':
		return less
	case '+':
		return plus
	}
	return broken
}

func word(s string) (token, int) {
	name := s[:len(s)-len(strings.TrimLeft(s, nameBytes))]
	if len(name) > mostName {
		return token{kind: broken}, 0
	}
	for k, keyword := range keywords {
		if keyword == name {
			return token{kind: kind(k), text: name}, len(name)
		}
	}
	return token{kind: aName, text: name}, len(name)
}

func number(s string) (token, int) {
	text := s[:len(s)-len(strings.TrimLeft(s, digits))]
	n, err := strconv.Atoi(text)
	if err != nil || n > mostNumber || strconv.Itoa(n) != text {
		return token{kind: broken}, 0
	}
	return token{kind: aNumber, number: n}, len(text)
}

// quoted reads a text from its mark to the next one.
func quoted(s string) (token, int) {
	var text []byte
	for i := 1; i < len(s); i++ {
		switch c := s[i]; {
		case c == '\'':
			return token{kind: aText, text: string(text)}, i + 1
		case c == '\\':
			i++
			if !escaped(s[i:]) {
				return token{kind: broken}, 0
			}
		case c < ' ' || c > '~':
			return token{kind: broken}, 0
		}
		text = append(text, s[i])
	}
	return token{kind: broken}, 0
}

// escaped tells whether a text begins with a byte that has a backslash ahead of it.
func escaped(s string) bool { return s != "" && (s[0] == '\'' || s[0] == '\\') }
