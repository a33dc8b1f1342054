package ldap

import (
	"slices"

	"chatelaine/api"
	"chatelaine/ber"
)

// The tags that the messages of both kinds have: that of the whole, and that of the number in it.
const (
	messageTag = 48
	numberTag  = 2
)

// kind is what tells the messages of one kind from those of the other.
type kind struct {
	tag   byte    // of the element behind the number
	parts [3]byte // the tags of the elements inside that one
}

func ofBind() kind { return kind{tag: 96, parts: [3]byte{2, 4, 128}} }

func ofBound() kind { return kind{tag: 97, parts: [3]byte{10, 4, 4}} }

// message answers what assembles the message of these parts, once it is told the message's number.
func (k kind) message(parts [3][]byte) func(id int) ([]byte, api.Errno) {
	return func(id int) ([]byte, api.Errno) {
		number := ber.Whole(id)
		if len(number) == 0 {
			return nil, api.ErrLdapForm
		}
		about := api.Tlv{Tag: k.tag}
		for i, part := range parts {
			about.List = append(about.List, api.Tlv{Tag: k.parts[i], Bytes: part})
		}
		b, e := ber.Encode(api.Tlv{Tag: messageTag, List: []api.Tlv{{Tag: numberTag, Bytes: number}, about}})
		if e != api.OK { // what Encode can refuse here is the length alone
			return nil, api.ErrLdapForm
		}
		return b, api.OK
	}
}

// read takes a message of the kind apart, into its number and its parts.
func (k kind) read(b []byte) (int, [3][]byte, bool) {
	var parts [3][]byte
	t, e := ber.Decode(b)
	if e != api.OK || !made(t, messageTag, numberTag, k.tag) {
		return 0, parts, false
	}
	number, about := t.List[0], t.List[1]
	id, ok := ber.Number(number.Bytes)
	if !ok || !made(about, k.tag, k.parts[:]...) {
		return 0, parts, false
	}
	for i, one := range about.List {
		parts[i] = one.Bytes
	}
	return id, parts, true
}

// made tells whether an element has the tag, and inside it elements of these others, in their order.
func made(t api.Tlv, tag byte, others ...byte) bool {
	return t.Tag == tag && slices.EqualFunc(t.List, others, func(one api.Tlv, other byte) bool { return one.Tag == other })
}
