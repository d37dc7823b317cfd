package label

import (
	"strings"

	"waterwheel/api"
	"waterwheel/wire"
)

// digits are those of bytes in quotes.
const digits = "0123456789abcdef"

// Key returns the key of a set.
func Key(l []api.Label) string {
	if !valid(l) {
		return ""
	}
	var key []byte
	for _, x := range l {
		// The names and texts of a valid set are not too long for wire.
		key, _ = wire.Text(key, x.Name)
		key, _ = wire.Text(key, x.Text)
	}
	return string(key)
}

// Parse returns the set whose key is key.
func Parse(key string) ([]api.Label, api.Errno) {
	r := wire.New([]byte(key))
	var l []api.Label
	// Bytes that are no label, or behind the last one that is allowed, are left
	// for End to find.
	for len(l) < api.MaxLabels && r.Left() > 0 {
		name := r.Text()
		l = append(l, api.Label{Name: name, Text: r.Text()})
	}
	if r.End() != api.OK || !valid(l) {
		return nil, api.ErrBad
	}
	return l, api.OK
}

// Text returns a set as a text for people.
func Text(l []api.Label) string {
	if !valid(l) {
		return ""
	}
	var b strings.Builder
	b.WriteByte('{')
	for i, x := range l {
		if i > 0 {
			b.WriteByte(',')
		}
		b.WriteString(x.Name)
		b.WriteByte('=')
		quote(&b, x.Text)
	}
	b.WriteByte('}')
	return b.String()
}

// quote writes s in quotes.
func quote(b *strings.Builder, s string) {
	b.WriteByte('"')
	for i := range len(s) {
		switch c := s[i]; {
		case c == '\\' || c == '"':
			b.WriteByte('\\')
			b.WriteByte(c)
		case c < 32 || c > 126:
			b.WriteString(`\x`)
			b.WriteByte(digits[c/16])
			b.WriteByte(digits[c%16])
		default:
			b.WriteByte(c)
		}
	}
	b.WriteByte('"')
}
