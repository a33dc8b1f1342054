package pairs

// An escape is a % and two digits. Only upper-case ones are written, so that a text has one escaped form.
const (
	escapeSize = 3
	digits     = "0123456789ABCDEF"
)

// Escape writes a text so that it can stand in a query.
func Escape(s string) string {
	text := make([]byte, 0, len(s))
	for i := range len(s) {
		if c := s[i]; plain(c) {
			text = append(text, c)
		} else {
			text = append(text, '%', digits[c>>4], digits[c&15])
		}
	}
	return string(text)
}

// Unescape reads what Escape writes; with plus, also a + for a space, as forms have it.
func Unescape(s string, plus bool) (string, bool) {
	text := make([]byte, 0, len(s))
	next := 0
	for i := range len(s) {
		switch {
		case i < next: // a digit of an escape that was read as a whole
		case s[i] == '%':
			c, ok := escaped(s[i+1:])
			if !ok {
				return "", false
			}
			text = append(text, c)
			next = i + escapeSize
		case s[i] == '+' && plus:
			text = append(text, ' ')
		default:
			text = append(text, s[i])
		}
	}
	return string(text), true
}

// escaped is the byte that the two digits ahead in s stand for; false if they are not there.
func escaped(s string) (byte, bool) {
	if len(s) < escapeSize-1 {
		return 0, false
	}
	high, ok := digitValue(s[0])
	if !ok {
		return 0, false
	}
	low, ok := digitValue(s[1])
	if !ok {
		return 0, false
	}
	return high<<4 | low, true
}

func digitValue(c byte) (byte, bool) {
	switch {
	case '0' <= c && c <= '9':
		return c - '0', true
	case 'A' <= c && c <= 'F':
		return c - 'A' + 10, true
	case 'a' <= c && c <= 'f':
		return c - 'a' + 10, true
	}
	return 0, false
}

// plain tells whether a byte stands for itself.
func plain(c byte) bool {
	switch c {
	case '-', '.', '_', '~':
		return true
	}
	return 'A' <= c && c <= 'Z' || 'a' <= c && c <= 'z' || '0' <= c && c <= '9'
}
