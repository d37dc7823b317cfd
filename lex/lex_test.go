package lex_test

import (
	"math"
	"slices"
	"strconv"
	"strings"
	"testing"

	"waterwheel/api"
	"waterwheel/label"
	"waterwheel/lex"
)

// word, num, text, sign and end make the tokens that a test wants.
func word(at int, s string) api.Token { return api.Token{Kind: api.TokWord, Text: s, At: at} }
func text(at int, s string) api.Token { return api.Token{Kind: api.TokText, Text: s, At: at} }
func sign(at int, s string) api.Token { return api.Token{Kind: api.TokSign, Text: s, At: at} }
func end(at int) api.Token            { return api.Token{Kind: api.TokEnd, At: at} }
func num(at int, n int64) api.Token {
	return api.Token{Kind: api.TokNum, Text: strconv.FormatInt(n, 10), Num: n, At: at}
}

// signs has all signs.
func signs() []string {
	return strings.Fields("== != <= >= < > + - * = ( ) { } [ ] , :")
}

// wantTokens checks that All returns these tokens.
func wantTokens(t *testing.T, s string, want ...api.Token) {
	t.Helper()
	if got, f := lex.All(s); f != (api.Fault{}) || !slices.Equal(got, want) {
		t.Errorf("All of %.90q is %v, %v, not %v", s, got, f, want)
	}
}

// wantFault checks that All returns a fault, and nothing else.
func wantFault(t *testing.T, s string, want api.Errno, at int) {
	t.Helper()
	if got, f := lex.All(s); f != (api.Fault{Err: want, At: at}) || len(got) != 0 {
		t.Errorf("All of %.90q is %v, %v, not error %d at %d", s, got, f, want, at)
	}
}

// P5.1: the chapter's examples.
func TestExamples(t *testing.T) {
	wantTokens(t, `sum(cpu{a!="x\""}[10])`,
		word(0, "sum"), sign(3, "("), word(4, "cpu"), sign(7, "{"), word(8, "a"), sign(9, "!="), text(11, `x"`),
		sign(16, "}"), sign(17, "["), num(18, 10), sign(20, "]"), sign(21, ")"), end(22))
	wantTokens(t, "a * -2", word(0, "a"), sign(2, "*"), num(4, -2), end(6))
	wantTokens(t, "a -2", word(0, "a"), sign(2, "-"), num(3, 2), end(4))
	wantTokens(t, "-2", num(0, -2), end(2))
	for _, s := range []string{"007", `"a`, "1a"} {
		wantFault(t, s, api.ErrLex, 0)
	}
}

// P5.1: a whole query in lines with comments.
func TestQuery(t *testing.T) {
	s := "# the load\nevery 5:\r\n\ttotal by (a) (sum(cpu[10])) # > 4 \"\n > 3 # the end"
	wantTokens(t, s,
		word(11, "every"), num(17, 5), sign(18, ":"), word(22, "total"), word(28, "by"), sign(31, "("), word(32, "a"),
		sign(33, ")"), sign(35, "("), word(36, "sum"), sign(39, "("), word(40, "cpu"), sign(43, "["), num(44, 10),
		sign(46, "]"), sign(47, ")"), sign(48, ")"), sign(59, ">"), num(61, 3), end(len(s)))
}

// P5.1: blanks and comments are skipped, and divide tokens.
func TestSkipped(t *testing.T) {
	for _, s := range []string{
		"", " ", "\t", "\n", "\r", " \t\n\r ", "#", "##", "# no", "# no\n", "#\n#\n", "#\"\n", "#\x00\xff\x80é\n",
		"#a\r#b", "# \\\n", "\n\n#1a 007\n ",
	} {
		wantTokens(t, s, end(len(s)))
		wantTokens(t, s+"\na", word(len(s)+1, "a"), end(len(s)+2))
		wantTokens(t, "a"+s, word(0, "a"), end(len(s)+1))
	}
	wantTokens(t, "a#b\nc", word(0, "a"), word(4, "c"), end(5))
	wantTokens(t, "1#2\n3", num(0, 1), num(4, 3), end(5))
	wantTokens(t, "=#=\n=", sign(0, "="), sign(4, "="), end(5))
	wantTokens(t, `"#"#`, text(0, "#"), end(4))
	// Only the byte 10 ends a line.
	wantTokens(t, "#a\rb\vc\fd", end(8))
	for _, blank := range []string{" ", "\t", "\n", "\r"} {
		wantTokens(t, "a"+blank+"b", word(0, "a"), word(2, "b"), end(3))
		wantTokens(t, "1"+blank+"2", num(0, 1), num(2, 2), end(3))
		wantTokens(t, "="+blank+"=", sign(0, "="), sign(2, "="), end(3))
		wantTokens(t, "-"+blank+"1", sign(0, "-"), num(2, 1), end(3))
		wantFault(t, "!"+blank+"=", api.ErrLex, 0)
	}
}

// P5.1: each byte alone, and where a token should begin behind others.
func TestFirstBytes(t *testing.T) {
	for c := range 256 {
		s := string([]byte{byte(c)})
		var want []api.Token
		switch {
		case strings.Contains(" \t\n\r#", s):
		case strings.Contains("abcdefghijklmnopqrstuvwxyz_", s):
			want = []api.Token{word(0, s)}
		case strings.Contains("0123456789", s):
			want = []api.Token{num(0, int64(c-'0'))}
		case slices.Contains(signs(), s):
			want = []api.Token{sign(0, s)}
		default:
			wantFault(t, s, api.ErrLex, 0)
			wantFault(t, "a + "+s, api.ErrLex, 4)
			wantFault(t, "a  "+s+"  !", api.ErrLex, 3)
			continue
		}
		wantTokens(t, s, append(want, end(1))...)
	}
}

// P5.1: words at their limits, and each byte in one.
func TestWords(t *testing.T) {
	long := strings.Repeat("z", 23)
	for _, s := range []string{"a", "_", "_1", "every", "cpu_load_15", "sum", long, long + "z", "_" + strings.Repeat("9", 23)} {
		wantTokens(t, s, word(0, s), end(len(s)))
		wantTokens(t, s+"("+s, word(0, s), sign(len(s), "("), word(len(s)+1, s), end(2*len(s)+1))
	}
	for _, s := range []string{long + "zz", long + "_0", long + long, strings.Repeat("a", api.MaxQuery), "_" + strings.Repeat("9", 24)} {
		wantFault(t, s, api.ErrLex, 0)
	}
	wantFault(t, "a "+long+"zz !", api.ErrLex, 2)
	for c := range 256 {
		s := "a" + string([]byte{byte(c)}) + "b"
		if strings.IndexByte("abcdefghijklmnopqrstuvwxyz_0123456789", byte(c)) >= 0 {
			wantTokens(t, s, word(0, s), end(3))
		} else if got, f := lex.All(s); f.Err == api.OK && got[0] != word(0, "a") || f.Err != api.OK && f.At != 1 {
			t.Errorf("All of %q is %v, %v", s, got, f)
		}
	}
}

// P5.1: Word, which is true for what All finds as one word.
func TestWord(t *testing.T) {
	long := strings.Repeat("a", 24)
	for s, want := range map[string]bool{
		"": false, "a": true, "_": true, "0": false, "a0": true, "0a": false, "A": false, "aB": false, "a b": false,
		" a": false, "a ": false, "a\n": false, "a#": false, "a(": false, "é": false, "every": true, `"a"`: false,
		"-a": false, long: true, long + "a": false, strings.Repeat(long, 1000): false,
	} {
		if got := lex.Word(s); got != want {
			t.Errorf("Word of %.90q is %v", s, got)
		}
	}
	for c := range 256 {
		for d := range 256 {
			s := string([]byte{byte(c), byte(d)})
			l, f := lex.All(s)
			want := f.Err == api.OK && slices.Equal(l, []api.Token{word(0, s), end(2)})
			if got := lex.Word(s); got != want {
				t.Errorf("Word of %q is %v", s, got)
			}
		}
	}
}

// P5.1: numbers at their limits, and what is no number.
func TestNumbers(t *testing.T) {
	for _, n := range []int64{0, 1, 9, 10, 100, 1 << 32, math.MaxInt64 - 1, math.MaxInt64, -1, -9, -10, math.MinInt64 + 1, math.MinInt64} {
		s := strconv.FormatInt(n, 10)
		wantTokens(t, s, num(0, n), end(len(s)))
		wantTokens(t, "("+s+")", sign(0, "("), num(1, n), sign(1+len(s), ")"), end(2+len(s)))
	}
	for _, s := range []string{
		"00", "01", "007", "-0", "-00", "-01", "-007", "9223372036854775808", "-9223372036854775809",
		"18446744073709551616", "18446744073709551617", "-18446744073709551615", "10000000000000000000000",
		strings.Repeat("9", api.MaxQuery-6), strings.Repeat("0", api.MaxQuery-6), "0" + strings.Repeat("9", 18),
		"1a", "1_", "1_000", "0x1", "1e5", "-1a", "-1_", "0a", "12345678901234567890z", "1z1",
	} {
		wantFault(t, s, api.ErrLex, 0)
		wantFault(t, "a < "+s+" !", api.ErrLex, 4)
	}
	// Behind a word, the - is a sign, and the number begins after it.
	wantTokens(t, "a -0", word(0, "a"), sign(2, "-"), num(3, 0), end(4))
	wantFault(t, "a -01", api.ErrLex, 3)
	wantFault(t, "a -1b", api.ErrLex, 3)
	wantFault(t, "a -9223372036854775808", api.ErrLex, 3)
	// Only a letter from a to z or _ makes what is before it no number.
	wantFault(t, "1A", api.ErrLex, 1)
	wantFault(t, "1.5", api.ErrLex, 1)
	wantFault(t, "1é", api.ErrLex, 1)
	wantTokens(t, `1"a"`, num(0, 1), text(1, "a"), end(4))
	wantTokens(t, "1=2", num(0, 1), sign(1, "="), num(2, 2), end(3))
}

// P5.1: numbers followed by each byte.
func TestNumberFollowed(t *testing.T) {
	for c := range 256 {
		s := "17" + string([]byte{byte(c)})
		switch letter := strings.IndexByte("abcdefghijklmnopqrstuvwxyz_", byte(c)) >= 0; {
		case letter:
			wantFault(t, s, api.ErrLex, 0)
		case c >= '0' && c <= '9':
			wantTokens(t, s, num(0, int64(170+c-'0')), end(3))
		default:
			l, f := lex.All(s)
			if f.Err == api.OK && l[0] != num(0, 17) || f.Err != api.OK && f != (api.Fault{Err: api.ErrLex, At: 2}) {
				t.Errorf("All of %q is %v, %v", s, l, f)
			}
		}
	}
}

// P5.1: whether a - belongs to a number, behind each kind of token, with and
// without a blank or a comment before it.
func TestMinus(t *testing.T) {
	before := map[string]bool{"": true, "a": false, "1": false, "-1": false, `"t"`: false, `")"`: false, `"("`: false, `""`: false}
	for _, s := range signs() {
		before[s] = s != ")" && s != "]" && s != "}"
	}
	for s, negates := range before {
		l, f := lex.All(s)
		if f.Err != api.OK {
			t.Fatal(s, f)
		}
		l = l[:len(l)-1]
		for _, between := range []string{"", " ", "\n", "#)\n", " #(\n\t"} {
			at := len(s) + len(between)
			want := append(slices.Clone(l), num(at, -5))
			if !negates {
				want = append(slices.Clone(l), sign(at, "-"), num(at+1, 5))
			}
			wantTokens(t, s+between+"-5", append(want, end(at+2))...)
			for _, apart := range []string{" ", "\n", "#\n"} {
				behind := at + 1 + len(apart)
				want := append(slices.Clone(l), sign(at, "-"), num(behind, 5), end(behind+1))
				wantTokens(t, s+between+"-"+apart+"5", want...)
			}
		}
	}
	wantTokens(t, "-", sign(0, "-"), end(1))
	wantTokens(t, "-a", sign(0, "-"), word(1, "a"), end(2))
	wantTokens(t, "--5", sign(0, "-"), num(1, -5), end(3))
	wantTokens(t, "---5", sign(0, "-"), sign(1, "-"), num(2, -5), end(4))
	wantTokens(t, "1-2-3", num(0, 1), sign(1, "-"), num(2, 2), sign(3, "-"), num(4, 3), end(5))
	wantTokens(t, "1--2", num(0, 1), sign(1, "-"), num(2, -2), end(4))
	wantTokens(t, "-1-1", num(0, -1), sign(2, "-"), num(3, 1), end(4))
	wantTokens(t, `-"5"`, sign(0, "-"), text(1, "5"), end(4))
}

// P5.1: each sign, and each pair of signs with nothing between: the longer one
// counts.
func TestSigns(t *testing.T) {
	for _, a := range signs() {
		wantTokens(t, a, sign(0, a), end(len(a)))
		wantTokens(t, "a"+a+"b", word(0, "a"), sign(1, a), word(1+len(a), "b"), end(2+len(a)))
		for _, b := range signs() {
			at := len(a)
			switch s := a + b; {
			case slices.Contains(signs(), s):
				wantTokens(t, s, sign(0, s), end(2))
			case at == 1 && b == "==" && strings.Contains("=<>", a):
				wantTokens(t, s, sign(0, s[:2]), sign(2, "="), end(3))
			default:
				wantTokens(t, s, sign(0, a), sign(at, b), end(len(s)))
			}
		}
	}
	wantTokens(t, "====", sign(0, "=="), sign(2, "=="), end(4))
	wantTokens(t, "<==>", sign(0, "<="), sign(2, "="), sign(3, ">"), end(4))
	wantTokens(t, "=!=", sign(0, "="), sign(1, "!="), end(3))
	for s, at := range map[string]int{"!": 0, "!!": 0, "!!=": 0, "!a": 0, "=!": 1, "!=!": 2, "a!": 1, "==!<": 2, "&": 0, "/": 0, "a.b": 1, "'a'": 0, "a;": 1} {
		wantFault(t, s, api.ErrLex, at)
	}
}

// P5.1: the first fault counts, wherever the others are.
func TestFirstFault(t *testing.T) {
	wrong := []string{"007", `"a`, "1a", "!", "A", strings.Repeat("a", 25), "\x00", "\xff", `"\n"`}
	for _, a := range wrong {
		wantFault(t, "a (1) "+a, api.ErrLex, 6)
		for _, b := range wrong {
			wantFault(t, " \n"+a+"\n"+b, api.ErrLex, 2)
			wantFault(t, "#"+a+"\n, "+b, api.ErrLex, 4+len(a))
		}
	}
}

// P5.1: the length of a text is at most MaxQuery, whatever is in it.
func TestTooLong(t *testing.T) {
	for _, piece := range []string{" ", "(", "a ", "\n", "#", "1 ", `""`, "\"ab\"", "!", "A"} {
		s := strings.Repeat(piece, api.MaxQuery)
		if _, f := lex.All(s[:api.MaxQuery]); f.Err == api.ErrLong {
			t.Errorf("%q, %d times: %v", piece, api.MaxQuery/len(piece), f)
		}
		wantFault(t, s[:api.MaxQuery]+" ", api.ErrLong, 0)
		wantFault(t, s[:api.MaxQuery]+"!", api.ErrLong, 0)
		wantFault(t, "!"+s[:api.MaxQuery], api.ErrLong, 0)
		wantFault(t, s+s, api.ErrLong, 0)
	}
	l, f := lex.All(strings.Repeat("(", api.MaxQuery))
	if f != (api.Fault{}) || len(l) != api.MaxQuery+1 || l[api.MaxQuery-1] != sign(api.MaxQuery-1, "(") || l[api.MaxQuery] != end(api.MaxQuery) {
		t.Error(len(l), f)
	}
	wantFault(t, strings.Repeat("(", api.MaxQuery-1)+"!", api.ErrLex, api.MaxQuery-1)
	wantTokens(t, strings.Repeat(" ", api.MaxQuery), end(api.MaxQuery))
	wantTokens(t, strings.Repeat(" ", api.MaxQuery-1)+"a", word(api.MaxQuery-1, "a"), end(api.MaxQuery))
}

// P5.1 with rule 3: two results share no memory.
func TestAllIsNew(t *testing.T) {
	a, _ := lex.All("a + 1")
	b, _ := lex.All("a + 1")
	clear(a[:cap(a)])
	if !slices.Equal(b, []api.Token{word(0, "a"), sign(2, "+"), num(4, 1), end(5)}) {
		t.Error(b)
	}
}

// P5.2: Join.
func TestJoin(t *testing.T) {
	long := strings.Repeat("\x00", 100)
	for _, c := range []struct {
		l    []api.Token
		want string
	}{
		{nil, ""},
		{[]api.Token{}, ""},
		{[]api.Token{end(0)}, ""},
		{[]api.Token{word(0, "a")}, "a"},
		{[]api.Token{word(0, "a"), end(1)}, "a "},
		{[]api.Token{word(7, "a"), sign(0, "=="), text(0, "x\"\\\n"), num(3, -5)}, `a == "x\"\\\x0a" -5`},
		{[]api.Token{text(0, ""), text(0, " ")}, `"" " "`},
		{[]api.Token{num(0, math.MinInt64), num(0, math.MaxInt64), num(0, 0)}, "-9223372036854775808 9223372036854775807 0"},
		// Tokens need not be those of a text: only their fields count.
		{[]api.Token{{Kind: api.TokNum, Text: "seven", Num: 8}}, "8"},
		{[]api.Token{{Kind: api.TokNum}}, "0"},
		{[]api.Token{{Kind: api.TokWord, Text: "A b", Num: 8}}, "A b"},
		{[]api.Token{{Kind: api.TokEnd, Text: "end", Num: 8}, end(0), end(0)}, "end  "},
		{[]api.Token{{Kind: api.TokSign, Text: "\"\xff"}, {Kind: api.TokSign}}, "\"\xff "},
		{[]api.Token{{Text: "zero"}, {Kind: 6, Text: "six"}, {Kind: -1, Text: "less"}}, "zero six less"},
		{[]api.Token{text(0, long)}, `"` + strings.Repeat(`\x00`, 100) + `"`},
	} {
		before := slices.Clone(c.l)
		if got := lex.Join(c.l); got != c.want {
			t.Errorf("Join of %v is %q", c.l, got)
		}
		if !slices.Equal(c.l, before) {
			t.Errorf("Join changed %v to %v", before, c.l)
		}
	}
	if got := lex.Join(slices.Repeat([]api.Token{word(0, "a")}, 100000)); got != strings.Repeat("a ", 99999)+"a" {
		t.Error(len(got))
	}
}

// P5.1: words are names (3), and quotes are those of label.Text.
func TestAsLabel(t *testing.T) {
	for c := range 256 {
		s := string([]byte{byte(c)})
		if lex.Word("a"+s) != label.Name("a"+s) || lex.Word(s) != label.Name(s) {
			t.Errorf("Word of %q", s)
		}
		for _, s := range []string{s, "a" + s + "b", strings.Repeat(s, 64)} {
			if got, want := "{a="+lex.Quote(s)+"}", label.Text([]api.Label{{Name: "a", Text: s}}); got != want {
				t.Errorf("Quote of %q: %s, not %s", s, got, want)
			}
		}
	}
}
