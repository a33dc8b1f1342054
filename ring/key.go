package ring

import (
	"bytes"

	"chatelaine/api"
)

// An Id has at most so many bytes, each from the first of these to the last: it is what tokens name as their kid.
const (
	mostId  = 64
	firstId = '!'
	lastId  = '~'
)

func isId(s string) bool {
	if s == "" || len(s) > mostId {
		return false
	}
	for i := range len(s) {
		if s[i] < firstId || s[i] > lastId {
			return false
		}
	}
	return true
}

// fits tells whether a key may stand behind those of l: a token's kid must lead to one key alone, and the last one must be the newest.
func fits(l []api.Key, k api.Key) bool {
	for _, other := range l {
		if other.Id == k.Id {
			return false
		}
	}
	isOlder := len(l) > 0 && k.Made < l[len(l)-1].Made
	return isId(k.Id) && k.Made >= 0 && !isOlder
}

func isGood(k api.Key, now int) bool { return k.Made <= now && now < k.Ends }

// copied is a key with a Secret of its own.
func copied(k api.Key) api.Key {
	k.Secret = bytes.Clone(k.Secret)
	return k
}

// without is copies of the keys that are not to go.
func without(l []api.Key, goes func(api.Key) bool) []api.Key {
	var left []api.Key
	for _, k := range l {
		if !goes(k) {
			left = append(left, copied(k))
		}
	}
	return left
}
