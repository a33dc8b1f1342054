package ldap

import "strings"

// mostUser is how many bytes a user has at most, the \ that are inserted not among them.
const mostUser = 64

// special are the characters that would say something of the name itself, were there no \ ahead of them.
const special = `,+"\<>;=#`

// Name is a user's in a directory; false if no user can be called so.
func Name(base [2]string, user string) (string, bool) {
	if user == "" || len(user) > mostUser {
		return "", false
	}
	var escaped strings.Builder
	for i := range len(user) {
		c := user[i]
		if c < 33 || c > 126 {
			return "", false
		}
		if strings.IndexByte(special, c) >= 0 {
			escaped.WriteByte('\\')
		}
		escaped.WriteByte(c)
	}
	return base[0] + escaped.String() + base[1], true
}
