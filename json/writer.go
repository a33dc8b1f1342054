package json

import (
	"slices"
	"strconv"
	"unicode/utf8"

	"chatelaine/api"
)

const hexDigits = "0123456789abcdef"

// writer writes a value; each of its methods tells whether that could be done. It stops where the text gets too long, so that of a value that has one list many times within it, it doesn't go through all.
type writer struct {
	text []byte
}

// value writes a value that is inside so many lists and objects.
func (w *writer) value(v api.Json, deep int) bool {
	if !onlyItsFields(v) {
		return false
	}
	switch v.Kind {
	case api.JsonNull:
		return w.add("null")
	case api.JsonBool:
		return w.add(strconv.FormatBool(v.Bool))
	case api.JsonInt:
		return -mostInt <= v.Int && v.Int <= mostInt && w.add(strconv.Itoa(v.Int))
	case api.JsonText:
		return w.quoted(v.Text)
	case api.JsonList:
		return deep < api.MaxDeep && w.add("[") && w.list(v.List, deep+1) && w.add("]")
	case api.JsonObject:
		return deep < api.MaxDeep && w.add("{") && w.members(v.Names, v.List, deep+1) && w.add("}")
	}
	return false
}

// onlyItsFields tells whether the fields that a value's kind does not use are zero.
func onlyItsFields(v api.Json) bool {
	object := v.Kind == api.JsonObject
	list := v.Kind == api.JsonList || object
	return (v.Kind == api.JsonBool || !v.Bool) &&
		(v.Kind == api.JsonInt || v.Int == 0) &&
		(v.Kind == api.JsonText || v.Text == "") &&
		(object || len(v.Names) == 0) &&
		(list || len(v.List) == 0)
}

func (w *writer) add(s string) bool {
	if len(w.text)+len(s) > api.MaxText {
		return false
	}
	w.text = append(w.text, s...)
	return true
}

// comma writes what stands ahead of the item i.
func (w *writer) comma(i int) bool { return i == 0 || w.add(",") }

func (w *writer) list(values []api.Json, deep int) bool {
	for i, v := range values {
		if !w.comma(i) || !w.value(v, deep) {
			return false
		}
	}
	return true
}

func (w *writer) members(names []string, values []api.Json, deep int) bool {
	if len(names) != len(values) {
		return false
	}
	for i, name := range names {
		if slices.Contains(names[:i], name) {
			return false
		}
		if !w.comma(i) || !w.quoted(name) || !w.add(":") || !w.value(values[i], deep) {
			return false
		}
	}
	return true
}

// quoted writes a text. No byte is written as less than one, so that a text that is too long is not gone through.
func (w *writer) quoted(s string) bool {
	if len(s) > api.MaxText || !utf8.ValidString(s) {
		return false
	}
	text := []byte{'"'}
	for i := range len(s) {
		switch c := s[i]; {
		case c == '"' || c == '\\':
			text = append(text, '\\', c)
		case c < ' ':
			text = append(text, '\\', 'u', '0', '0', hexDigits[c>>4], hexDigits[c&15])
		default:
			text = append(text, c)
		}
	}
	return w.add(string(append(text, '"')))
}
