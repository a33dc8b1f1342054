package url

import (
	"strconv"
	"strings"

	"chatelaine/pairs"
)

const (
	maxHost    = 253 // bytes, the port's among them
	maxName    = 63  // bytes of a name in a host
	maxPort    = 65535
	escapeSize = 3 // a % and two digits
)

// rightHost tells whether a text is names with dots between them, and maybe a port.
func rightHost(host string) bool {
	if len(host) > maxHost {
		return false
	}
	names, port, has := strings.Cut(host, ":")
	if has && !rightPort(port) {
		return false
	}
	for _, name := range strings.Split(names, ".") {
		if !rightName(name) {
			return false
		}
	}
	return true
}

func rightName(name string) bool {
	if name == "" || len(name) > maxName {
		return false
	}
	if strings.HasPrefix(name, "-") || strings.HasSuffix(name, "-") {
		return false
	}
	return nameSize(name) == len(name)
}

// rightPort takes only the one text of a number: a sign or a 0 ahead of it would make a second one of the same address.
func rightPort(port string) bool {
	n, err := strconv.Atoi(port)
	return err == nil && 1 <= n && n <= maxPort && strconv.Itoa(n) == port
}

// nameSize is how far a text has none but characters of a name.
func nameSize(s string) int {
	size := 0
name:
	for size < len(s) {
		switch c := s[size]; {
		case 'a' <= c && c <= 'z', '0' <= c && c <= '9', c == '-':
			size++
		default:
			break name
		}
	}
	return size
}

// pathSize is how far a text has none but characters and whole escapes of a path.
func pathSize(s string) int {
	size := 0
path:
	for size < len(s) {
		switch {
		case s[size] == '/' || plain(s[size:size+1]):
			size++
		case escapeAhead(s[size:]):
			size += escapeSize
		default:
			break path
		}
	}
	return size
}

// plain asks the layer below, so that there is one account of which characters are.
func plain(c string) bool { return pairs.Escape(c) == c }

// escapeAhead tells whether a text begins with an escape. Its digits are upper-case ones alone, unlike those of a query.
func escapeAhead(s string) bool {
	return len(s) >= escapeSize && s[0] == '%' && upperDigit(s[1]) && upperDigit(s[2])
}

func upperDigit(c byte) bool {
	return '0' <= c && c <= '9' || 'A' <= c && c <= 'F'
}
