package lex_test

import (
	"regexp"
	"slices"
	"strconv"
	"strings"
	"testing"

	"waterwheel/api"
	"waterwheel/lex"
)

// A reference divides texts by regular expressions, one a kind, independently
// of the program.
type reference struct {
	skipped, word, num, text, sign, escape *regexp.Regexp
}

func newReference() reference {
	return reference{
		skipped: regexp.MustCompile(`^(?:[ \t\n\r]|#[^\n]*)*`),
		word:    regexp.MustCompile(`^[a-z_][a-z0-9_]*`),
		num:     regexp.MustCompile(`^-?[0-9]+`),
		text:    regexp.MustCompile(`^"(?:[ !#-\[\]-~]|\\[\\"]|\\x[0-9a-f]{2})*"`),
		sign:    regexp.MustCompile(`^(?:[=!<>]=|[<>+\-*=(){}\[\],:])`),
		escape:  regexp.MustCompile(`\\(?:x..|.)`),
	}
}

// all is lex.All.
func (r reference) all(s string) ([]api.Token, api.Fault) {
	var l []api.Token
	for at := len(r.skipped.FindString(s)); at < len(s); at += len(r.skipped.FindString(s[at:])) {
		t, n := r.token(s[at:], len(l) == 0 || slices.Contains(r.openers(), l[len(l)-1].Text) && l[len(l)-1].Kind == api.TokSign)
		if n == 0 {
			return nil, api.Fault{Err: api.ErrLex, At: at}
		}
		t.At = at
		l = append(l, t)
		at += n
	}
	return append(l, end(len(s))), api.Fault{}
}

// openers are the signs behind which a - may belong to a number.
func (r reference) openers() []string {
	return strings.Fields("== != <= >= < > + - * = ( { [ , :")
}

// token returns the token at the beginning of s, and its length: 0 if there is
// none.
func (r reference) token(s string, negate bool) (api.Token, int) {
	if w := r.word.FindString(s); w != "" {
		if len(w) > 24 {
			return api.Token{}, 0
		}
		return word(0, w), len(w)
	}
	if x := r.num.FindString(s); x != "" && (negate || x[0] != '-') {
		return r.number(x, s[len(x):])
	}
	if q := r.text.FindString(s); q != "" {
		stands := r.escape.ReplaceAllStringFunc(q[1:len(q)-1], func(e string) string {
			if e[1] != 'x' {
				return e[1:]
			}
			c, _ := strconv.ParseUint(e[2:], 16, 8)
			return string([]byte{byte(c)})
		})
		if len(stands) > 64 {
			return api.Token{}, 0
		}
		return text(0, stands), len(q)
	}
	x := r.sign.FindString(s)
	return sign(0, x), len(x)
}

// number is token for digits x and what is behind them.
func (r reference) number(x, behind string) (api.Token, int) {
	digits := strings.TrimPrefix(x, "-")
	n, err := strconv.ParseInt(x, 10, 64)
	if err != nil || len(digits) > 1 && digits[0] == '0' || x == "-0" || r.word.MatchString(behind) {
		return api.Token{}, 0
	}
	return num(0, n), len(x)
}

// withoutPlaces returns tokens without their offsets.
func withoutPlaces(l []api.Token) []api.Token {
	l = slices.Clone(l)
	for i := range l {
		l[i].At = 0
	}
	return l
}

// wantTheorem checks All against the reference, and P5.3: All of Join of All
// has the same tokens, except for their offsets.
func wantTheorem(t *testing.T, r reference, s string) {
	t.Helper()
	got, f := lex.All(s)
	want, fault := r.all(s)
	if f != fault || !slices.Equal(got, want) {
		t.Fatalf("All of %q is %v, %v, not %v, %v", s, got, f, want, fault)
	}
	if f.Err != api.OK {
		return
	}
	joined := lex.Join(got)
	again, f := lex.All(joined)
	if f != (api.Fault{}) || !slices.Equal(withoutPlaces(again), withoutPlaces(got)) {
		t.Fatalf("All of %q, of %q, is %v, %v, not %v", joined, s, again, f, got)
	}
}

// P5.1, P5.3: all short texts of bytes that decide something.
func TestAllShortTexts(t *testing.T) {
	r := newReference()
	const bytes = "ax01-\"\\=!<() #\nA\xff"
	texts := []string{""}
	for range 4 {
		var longer []string
		for _, s := range texts {
			wantTheorem(t, r, s)
			for i := range len(bytes) {
				longer = append(longer, s+bytes[i:i+1])
			}
		}
		texts = longer
	}
	for _, s := range texts {
		wantTheorem(t, r, s)
	}
}

// P5.1, P5.3: texts of pieces in an order that looks like chance.
func TestManyTexts(t *testing.T) {
	r := newReference()
	pieces := append(signs(), "a", "every", "cpu_1", "0", "1", "-", "-7", "-", "9223372036854775807", "-9223372036854775808",
		`"x"`, `"\x00\""`, `"\\`, `"`, " ", "  ", "\t", "\n", "\r", "# -1\n", "#", "007", "!", "A", strings.Repeat("b", 24),
		`"`+strings.Repeat(`\xff`, 64)+`"`, "9223372036854775808", "_", "x41")
	seed := uint64(1)
	next := func(n int) int {
		seed = seed*6364136223846793005 + 1442695040888963407
		return int(seed >> 33 % uint64(n))
	}
	whole := 0
	for range 60000 {
		var b strings.Builder
		for range next(14) {
			b.WriteString(pieces[next(len(pieces))])
			if next(2) == 0 {
				b.WriteByte(' ')
			}
		}
		s := b.String()
		wantTheorem(t, r, s)
		if _, f := lex.All(s); f.Err == api.OK {
			whole++
		}
	}
	if whole < 10000 {
		t.Errorf("only %d texts without a fault", whole)
	}
}

// P5.3: the greatest text whose Join is not too long.
func TestTheoremAtLimit(t *testing.T) {
	r := newReference()
	for _, piece := range []string{"( ", "-5 * ", `"\x00" `, "a  ", "1 "} {
		wantTheorem(t, r, strings.Repeat(piece, api.MaxQuery/len(piece)))
	}
}
