package lex_test

import (
	"strings"
	"testing"

	"waterwheel/api"
	"waterwheel/lex"
)

// wantUnquoted checks that a text in quotes stands for want, alone and among
// other tokens.
func wantUnquoted(t *testing.T, s, want string) {
	t.Helper()
	if got, ok := lex.Unquote(s); !ok || got != want {
		t.Errorf("Unquote of %q is %q, %v, not %q", s, got, ok, want)
	}
	wantTokens(t, s, text(0, want), end(len(s)))
	wantTokens(t, "a="+s+"b", word(0, "a"), sign(1, "="), text(2, want), word(2+len(s), "b"), end(3+len(s)))
	wantTokens(t, s+s, text(0, want), text(len(s), want), end(2*len(s)))
	for _, around := range []string{" ", "\n", "#", "a", `"`, `""`, "\\", "\x00"} {
		wantNoText(t, around+s)
		wantNoText(t, s+around)
	}
}

// wantNoText checks that Unquote finds no text.
func wantNoText(t *testing.T, s string) {
	t.Helper()
	if got, ok := lex.Unquote(s); ok || got != "" {
		t.Errorf("Unquote of %q is %q, %v", s, got, ok)
	}
}

// wantBadText checks that what begins as a text in quotes is not allowed.
func wantBadText(t *testing.T, s string) {
	t.Helper()
	wantNoText(t, s)
	wantFault(t, s, api.ErrLex, 0)
	wantFault(t, "a = "+s, api.ErrLex, 4)
}

// P5.1: texts in quotes.
func TestTexts(t *testing.T) {
	for s, want := range map[string]string{
		`""`:                 "",
		`"a"`:                "a",
		`"A b # c"`:          "A b # c",
		`"x\""`:              `x"`,
		`"\\"`:               `\`,
		`"\\\\"`:             `\\`,
		`"\\\""`:             `\"`,
		`"\\x41"`:            `\x41`,
		`"\x41"`:             "A",
		`"\x00\xff\x0a\xa0"`: "\x00\xff\n\xa0",
		`"\x22\x5c"`:         `"\`,
		`"\x411"`:            "A1",
		`"\x41\x42"`:         "AB",
		`"\x20~ "`:           " ~ ",
		`"007"`:              "007",
		`"'` + "`" + `"`:     "'`",
	} {
		wantUnquoted(t, s, want)
	}
}

// P5.1: what is not allowed in quotes.
func TestBadTexts(t *testing.T) {
	for _, s := range []string{
		`"`, `"a`, `"\"`, `"\\\"`, `"a\`, `"\`, `"\x`, `"\x4`, `"\x41`, `"\x"`, `"\x4"`, `"\x4\"`, `"\X41"`, `"\x4A"`,
		`"\xA4"`, `"\xg0"`, `"\x0g"`, `"\x 1"`, `"\x-1"`, `"\n"`, `"\a"`, `"\0"`, `"\ "`, `"\'"`, `"\101"`, `"\u0041"`,
		"\"a\nb\"", "\"\n\"", "\"\t\"", "\"\r\"", "\"\x00\"", "\"\x1f\"", "\"\x7f\"", "\"\x80\"", "\"é\"", "\"\xff\"",
		"\"\\\n\"", "\"\\\x00\"", "\"\\\xff\"",
	} {
		wantBadText(t, s)
	}
	wantNoText(t, "")
	wantNoText(t, "a")
	wantNoText(t, "'a'")
	wantNoText(t, `\"a"`)
}

// P5.1: each byte in quotes, and each one behind a \.
func TestTextBytes(t *testing.T) {
	for c := range 256 {
		s := string([]byte{byte(c)})
		switch {
		case s == `"`:
			wantUnquoted(t, `"a`+s, "a")
			wantUnquoted(t, `"\`+s+`"`, s)
		case s == `\`:
			wantBadText(t, `"a`+s+`"`)
			wantUnquoted(t, `"\`+s+`"`, s)
		case c >= 32 && c <= 126:
			wantUnquoted(t, `"a`+s+`"`, "a"+s)
			wantBadText(t, `"\`+s+`"`)
		default:
			wantBadText(t, `"a`+s+`"`)
			wantBadText(t, `"\`+s+`"`)
		}
	}
}

// P5.1: each pair of bytes behind a \x.
func TestTextHex(t *testing.T) {
	const digits = "0123456789abcdef"
	for c := range 256 {
		for d := range 256 {
			s := `"\x` + string([]byte{byte(c), byte(d)}) + `"`
			high, low := strings.IndexByte(digits, byte(c)), strings.IndexByte(digits, byte(d))
			want := high >= 0 && low >= 0
			got, ok := lex.Unquote(s)
			if ok != want || want && got != string([]byte{byte(high<<4 + low)}) || !want && got != "" {
				t.Errorf("Unquote of %q is %q, %v", s, got, ok)
			}
			if _, f := lex.All(s); (f == api.Fault{}) != want || !want && f != (api.Fault{Err: api.ErrLex}) {
				t.Errorf("All of %q: %v", s, f)
			}
		}
	}
}

// P5.1: a text stands for at most 64 bytes, however they are written.
func TestTextSizes(t *testing.T) {
	for piece, stands := range map[string]string{"a": "a", `\\`: `\`, `\"`: `"`, `\x00`: "\x00", `\xff`: "\xff", `\x61`: "a", " ": " "} {
		for n := range 70 {
			s := `"` + strings.Repeat(piece, n) + `"`
			if n <= 64 {
				wantUnquoted(t, s, strings.Repeat(stands, n))
			} else {
				wantBadText(t, s)
			}
			wantBadText(t, s[:len(s)-1])
		}
		wantNoText(t, `"`+strings.Repeat(piece, 1<<20)+`"`)
	}
}

// P5.1: Quote, of each byte and of texts of any length.
func TestQuote(t *testing.T) {
	for s, want := range map[string]string{
		"":                           `""`,
		"a":                          `"a"`,
		"a b#":                       `"a b#"`,
		`x"`:                         `"x\""`,
		`\`:                          `"\\"`,
		"\n":                         `"\x0a"`,
		"\x00\x1f \x7e~\x7f\x80\xff": `"\x00\x1f ~~\x7f\x80\xff"`,
		"é":                          `"\xc3\xa9"`,
		`\x41`:                       `"\\x41"`,
		strings.Repeat("a", 1<<16):   `"` + strings.Repeat("a", 1<<16) + `"`,
		strings.Repeat("\t", 1000):   `"` + strings.Repeat(`\x09`, 1000) + `"`,
	} {
		if got := lex.Quote(s); got != want {
			t.Errorf("Quote of %.90q is %.90q, not %.90q", s, got, want)
		}
	}
}

// P5.3: Unquote of Quote is the text, if it has at most 64 bytes.
func TestUnquoteOfQuote(t *testing.T) {
	for c := range 256 {
		for d := range 256 {
			s := string([]byte{byte(c), byte(d)})
			if got, ok := lex.Unquote(lex.Quote(s)); !ok || got != s {
				t.Errorf("Unquote of Quote of %q is %q, %v", s, got, ok)
			}
		}
	}
	for n := range 100 {
		for _, piece := range []string{"a", "\\", "\"", "\x00", "\xff", "ab\\\"\n\xe2"} {
			s := strings.Repeat(piece, n)[:n]
			got, ok := lex.Unquote(lex.Quote(s))
			if ok != (n <= 64) || ok && got != s || !ok && got != "" {
				t.Errorf("Unquote of Quote of %q is %q, %v", s, got, ok)
			}
		}
	}
}
