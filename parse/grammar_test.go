package parse_test

import (
	"reflect"
	"strings"
	"testing"

	"waterwheel/api"
	"waterwheel/ast"
	"waterwheel/label"
	"waterwheel/lex"
	"waterwheel/parse"
)

// rules is the grammar as it stands in the chapter.
const rules = `
query  = "every" number ":" expr
expr   = sum (compare number)?
sum    = term (("+" | "-") on? term | ("+" | "-") number)*
term   = atom ("*" on? atom | "*" number)*
on     = "on" "(" names ")"
atom   = fn "(" word match? "[" number "]" ")" | group "by" "(" names ")" "(" expr ")" | "(" expr ")"
fn     = "sum" | "count" | "min" | "max" | "last" | "increase"
group  = "total" | "many" | "least" | "most"
match  = "{" (word ("=" | "!=") text ("," word ("=" | "!=") text)*)? "}"
names  = (word ("," word)*)?
compare = "<" | "<=" | ">" | ">=" | "==" | "!="
`

// A form is a piece of the grammar: one of its words ('w': a name, a text in
// quotes, or end), some in a row ('r'), some to choose from ('|'), or one that
// may occur ('?'), or occur again ('*').
type form struct {
	kind byte
	word string
	of   []*form
}

// A wait is what must still come, innermost first.
type wait struct {
	form *form
	rest *wait
}

// A grammar recognizes texts by following all that may still come.
type grammar map[string]*form

// newGrammar reads the rules.
func newGrammar() grammar {
	g := grammar{}
	for _, line := range strings.Split(strings.TrimSpace(rules), "\n") {
		name, is, _ := strings.Cut(line, "=")
		// Brackets and signs of the notation stand alone, but for those in
		// quotes.
		words := strings.Fields(is)
		var l []string
		for _, w := range words {
			l = append(l, divide(w)...)
		}
		g[strings.TrimSpace(name)], _ = choice(l)
	}
	return g
}

// divide returns the words of the notation in w.
func divide(w string) []string {
	var l []string
	for w != "" {
		n := 1
		switch {
		case w[0] == '"':
			n = 2 + strings.IndexByte(w[1:], '"')
		case strings.IndexByte("()?*|", w[0]) < 0:
			n = len(w) - len(strings.TrimLeft(w, "abcdefghijklmnopqrstuvwxyz"))
		}
		l, w = append(l, w[:n]), w[n:]
	}
	return l
}

// choice reads forms with | between them, up to the end or a ).
func choice(l []string) (*form, []string) {
	of := []*form{{kind: 'r'}}
	for len(l) > 0 && l[0] != ")" {
		row := of[len(of)-1]
		switch w := l[0]; w {
		case "|":
			of = append(of, &form{kind: 'r'})
		case "(":
			var in *form
			in, l = choice(l[1:])
			row.of = append(row.of, in)
		case "?", "*":
			last := len(row.of) - 1
			row.of[last] = &form{kind: w[0], of: []*form{row.of[last]}}
		default:
			row.of = append(row.of, &form{kind: 'w', word: w})
		}
		l = l[1:]
	}
	return &form{kind: '|', of: of}, l
}

// start returns what may come at the beginning of a text of a rule.
func (g grammar) start(rule string) []*wait {
	end := &wait{form: &form{kind: 'w', word: "end"}}
	return g.open(&wait{g[rule], end})
}

// open returns what w may be, each beginning with a word that is not a rule.
func (g grammar) open(w *wait) []*wait {
	switch f := w.form; f.kind {
	case '|':
		var l []*wait
		for _, one := range f.of {
			l = append(l, g.open(&wait{one, w.rest})...)
		}
		return l
	case 'r':
		rest := w.rest
		for i := len(f.of) - 1; i >= 0; i-- {
			rest = &wait{f.of[i], rest}
		}
		return g.open(rest)
	case '?':
		return append(g.open(w.rest), g.open(&wait{f.of[0], w.rest})...)
	case '*':
		return append(g.open(w.rest), g.open(&wait{f.of[0], w})...)
	}
	if f, is := g[w.form.word]; is {
		return g.open(&wait{f, w.rest})
	}
	return []*wait{w}
}

// next returns what may come behind a token.
func (g grammar) next(l []*wait, t api.Token) []*wait {
	var behind []*wait
	for _, w := range l {
		switch {
		case !fits(w.form.word, t):
		case t.Kind == api.TokEnd:
			behind = append(behind, w)
		default:
			behind = append(behind, g.open(w.rest)...)
		}
	}
	return behind
}

// fits reports whether a token is a word of the grammar.
func fits(word string, t api.Token) bool {
	switch word {
	case "number":
		return t.Kind == api.TokNum
	case "word":
		return t.Kind == api.TokWord
	case "text":
		return t.Kind == api.TokText
	case "end":
		return t.Kind == api.TokEnd
	}
	return (t.Kind == api.TokWord || t.Kind == api.TokSign) && word == `"`+t.Text+`"`
}

// fault returns the fault of a text, but for what is checked last.
func (g grammar) fault(rule, s string) api.Fault {
	l, f := lex.All(s)
	if f.Err != api.OK {
		return f
	}
	may, open := g.start(rule), 0
	for _, t := range l {
		if may = g.next(may, t); len(may) == 0 {
			return api.Fault{Err: api.ErrSyntax, At: t.At}
		}
		if t.Kind == api.TokSign && t.Text == "(" {
			open++
		}
		if t.Kind == api.TokSign && t.Text == ")" {
			open--
		}
		if open > 64 {
			return api.Fault{Err: api.ErrLong, At: t.At}
		}
	}
	return api.Fault{}
}

// wantFault checks the faults of s, read as each of the three, against the
// grammar; what has none is valid. It returns in how many of them that is so.
func wantFault(t *testing.T, g grammar, s string) (valid int) {
	t.Helper()
	q, f := parse.Query(s)
	if f.Err == api.OK && ast.Check(q) == api.OK || f.Err != api.OK && reflect.DeepEqual(q, api.Query{}) {
		valid += wantSame(t, f, g.fault("query", s), s)
	} else {
		t.Fatalf("Query of %q is %v, %v", s, q, f)
	}
	e, f := parse.Expr(s)
	if f.Err == api.OK && ast.CheckExpr(e) == api.OK || f.Err != api.OK && reflect.DeepEqual(e, api.Expr{}) {
		valid += wantSame(t, f, g.fault("expr", s), s)
	} else {
		t.Fatalf("Expr of %q is %v, %v", s, e, f)
	}
	m, f := parse.Match(s)
	if f.Err == api.OK && label.CheckMatch(m) == api.OK || f.Err != api.OK && m == nil {
		valid += wantSame(t, f, g.fault("match", s), s)
	} else {
		t.Fatalf("Match of %q is %v, %v", s, m, f)
	}
	return valid
}

// wantSame checks that a fault is the one that is wanted. If none is, it may
// also be that of something that is checked last. It returns 1 if there is
// none, otherwise 0.
func wantSame(t *testing.T, got, want api.Fault, s string) int {
	t.Helper()
	last := want == api.Fault{} && got.At == 0 && (got.Err == api.ErrArg || got.Err == api.ErrLong)
	if got != want && !last {
		t.Fatalf("the fault of %q is %v, not %v", s, got, want)
	}
	if got.Err == api.OK {
		return 1
	}
	return 0
}

// pieces has a text of each token that decides something.
func pieces() []string {
	return strings.Fields(`every on by sum count min max last increase total many least most cpu a b ( ( ) ) [ ] { } , : + - * = == != < <= > >=
		0 1 7 -1 -7 1073741825 "x" "sum" "on" "(" "+" "every" "" ?`)
}

// samples has texts with everything in the grammar.
func samples() []string {
	return []string{
		`every 5 : total by ( a , b ) ( sum ( cpu { a = "x" , b != "y" } [ 10 ] ) ) > 3`,
		`every 1 : ( max ( a [ 1 ] ) + 2 - on ( x , y ) min ( b { } [ 2 ] ) * -3 * on ( ) ( last ( c [ 3 ] ) < 4 ) ) != 5`,
		`most by ( ) ( ( increase ( a [ 1 ] ) * 2 ) == 7 ) - count ( every [ 1 ] ) + many by ( on ) ( sum ( by [ 2 ] ) )`,
		`{ a = "x" , b != "y" , a = "" }`,
		`{ }`,
	}
}

// P7.1: each token of each sample replaced by each other one, with each other
// one before it, and without it; and each sample cut off at each place.
func TestEachToken(t *testing.T) {
	g := newGrammar()
	valid := 0
	for _, s := range samples() {
		l := strings.Fields(s)
		for at := range len(l) + 1 {
			before, behind := strings.Join(l[:at], " "), strings.Join(l[at:], " ")
			valid += wantFault(t, g, before)
			valid += wantFault(t, g, behind)
			without := strings.Join(l[min(at+1, len(l)):], " ")
			valid += wantFault(t, g, before+" "+without)
			for _, piece := range pieces() {
				valid += wantFault(t, g, before+" "+piece)
				valid += wantFault(t, g, before+" "+piece+" "+behind)
				valid += wantFault(t, g, before+" "+piece+" "+without)
			}
		}
	}
	if valid < 500 {
		t.Errorf("only %d without a fault", valid)
	}
}

// P7.1: all short texts.
func TestShortTexts(t *testing.T) {
	g := newGrammar()
	for _, a := range pieces() {
		wantFault(t, g, a)
		for _, b := range pieces() {
			wantFault(t, g, a+" "+b)
			wantFault(t, g, a+b)
			for _, c := range pieces() {
				wantFault(t, g, a+" "+b+" "+c)
			}
		}
	}
}

// P7.1: texts that go on in a way that fits, for a while.
func TestManyTexts(t *testing.T) {
	g, m := newGrammar(), &maker{seed: 1}
	valid, long := 0, 0
	for range 2000 {
		rule := pick(m, "query", "expr", "match")
		may := g.start(rule)
		var b strings.Builder
		for range m.next(300) {
			piece := pick(m, pieces()...)
			l, f := lex.All(piece)
			if f.Err != api.OK {
				continue
			}
			behind := g.next(may, l[0])
			if len(behind) > 0 || m.next(2000) == 0 {
				b.WriteString(piece + pick(m, " ", " ", "\n\t", " #!\n"))
				may = behind
			}
		}
		if m.next(3) > 0 {
			finish(g, &b, may)
		}
		valid += wantFault(t, g, b.String())
		if f := g.fault(rule, b.String()); f.Err == api.ErrLong {
			long++
		}
	}
	for range 1000 {
		s := strings.Repeat("(", 58+m.next(8)) + pick(m, samples()...)
		wantFault(t, g, s)
		wantFault(t, g, "every 5 : "+s)
		if g.fault("expr", s).Err == api.ErrLong {
			long++
		}
	}
	if valid < 300 || long < 100 {
		t.Errorf("only %d without a fault, and %d with too much open", valid, long)
	}
}

// finish goes on with b, behind which may may come, until it may end.
func finish(g grammar, b *strings.Builder, may []*wait) {
	for range 1000 {
		for _, piece := range strings.Fields(`) } ] sum cpu [ 1 ] ) by ( : every "x" =`) {
			if len(g.next(may, api.Token{Kind: api.TokEnd})) > 0 {
				return
			}
			l, _ := lex.All(piece)
			if behind := g.next(may, l[0]); len(behind) > 0 {
				b.WriteString(" " + piece)
				may = behind
			}
		}
	}
}
