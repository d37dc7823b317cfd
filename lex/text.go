package lex

import "strings"

// maxText is how many bytes a text in quotes stands for at most.
const maxText = 64

// digits are those of bytes in quotes.
const digits = "0123456789abcdef"

// Quote returns s in quotes.
func Quote(s string) string {
	var b strings.Builder
	b.WriteByte('"')
	for i := range len(s) {
		switch c := s[i]; {
		case c == '\\' || c == '"':
			b.WriteByte('\\')
			fallthrough
		case isPlain(c):
			b.WriteByte(c)
		default:
			b.WriteString(`\x`)
			b.WriteByte(digits[c/16])
			b.WriteByte(digits[c%16])
		}
	}
	b.WriteByte('"')
	return b.String()
}

// Unquote returns the bytes for which s stands, if it is exactly a text in
// quotes.
func Unquote(s string) (string, bool) {
	stands, n := unquote(s)
	if n == 0 || n < len(s) {
		return "", false
	}
	return stands, true
}

// unquote returns the bytes for which the text in quotes at the beginning of s
// stands, and how many bytes it has there: 0 if there is none, or one that is
// not allowed.
func unquote(s string) (stands string, n int) {
	if !strings.HasPrefix(s, `"`) {
		return "", 0
	}
	var b []byte
	at := 1
bytes:
	for at < len(s) && len(b) <= maxText {
		c, size := s[at], 1
		switch {
		case c == '"':
			return string(b), at + 1
		case c == '\\':
			c, size = unescape(s[at:])
			if size == 0 {
				break bytes
			}
		case !isPlain(c):
			break bytes
		}
		b = append(b, c)
		at += size
	}
	return "", 0
}

// unescape returns the byte for which what begins with a \ stands, and how many
// bytes it has at the beginning of s: 0 if it is not allowed.
func unescape(s string) (c byte, n int) {
	if len(s) >= 2 && (s[1] == '\\' || s[1] == '"') {
		return s[1], 2
	}
	if len(s) < 4 || s[1] != 'x' {
		return 0, 0
	}
	high, low := strings.IndexByte(digits, s[2]), strings.IndexByte(digits, s[3])
	if high < 0 || low < 0 {
		return 0, 0
	}
	return byte(16*high + low), 4
}

// isPlain reports whether c stands for itself in quotes.
func isPlain(c byte) bool {
	return c >= 32 && c <= 126 && c != '\\' && c != '"'
}
