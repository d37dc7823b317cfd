package show

import (
	"strconv"
	"strings"

	"waterwheel/api"
	"waterwheel/lex"
)

// write writes texts, one behind the other.
func write(b *strings.Builder, texts ...string) {
	for _, s := range texts {
		b.WriteString(s)
	}
}

// writeList writes texts with commas between them, within two marks.
func writeList(b *strings.Builder, first, last string, texts ...string) {
	write(b, first)
	for i, s := range texts {
		if i > 0 {
			write(b, ", ")
		}
		write(b, s)
	}
	write(b, last)
}

// writeExpr writes a valid expression.
func writeExpr(b *strings.Builder, e api.Expr) {
	switch e.Kind {
	case api.ExWindow:
		writeWindow(b, e)
	case api.ExGroup:
		writeGroup(b, e)
	case api.ExJoin:
		writeJoin(b, e)
	case api.ExScale:
		writeWithNumber(b, e, strengthOf(e))
	case api.ExFilter:
		// A comparison of a comparison is in no rule of the grammar.
		writeWithNumber(b, e, strengthOf(e)+1)
	}
}

// writeWindow writes an ExWindow.
func writeWindow(b *strings.Builder, e api.Expr) {
	write(b, Word(e.Kind, e.Func), "(", e.Metric)
	if len(e.Match) > 0 {
		writeList(b, "{", "}", conditions(e.Match)...)
	}
	write(b, "[", decimal(e.Span), "])")
}

// writeGroup writes an ExGroup.
func writeGroup(b *strings.Builder, e api.Expr) {
	write(b, Word(e.Kind, e.Func), " by ")
	writeList(b, "(", ")", e.Names...)
	write(b, " ")
	writeInBrackets(b, e.Kids[0])
}

// writeJoin writes an ExJoin.
func writeJoin(b *strings.Builder, e api.Expr) {
	own := strengthOf(e)
	writeKid(b, e.Kids[0], own)
	write(b, " ", Sign(e.Op), " ")
	if len(e.Names) > 0 {
		write(b, "on ")
		writeList(b, "(", ")", e.Names...)
		write(b, " ")
	}
	// Operators are grouped from left to right: a second kid that is as strong
	// would be divided.
	writeKid(b, e.Kids[1], own+1)
}

// writeWithNumber writes an ExScale or an ExFilter, whose kid needs no brackets
// if its strength is at least the given one.
func writeWithNumber(b *strings.Builder, e api.Expr, least int) {
	writeKid(b, e.Kids[0], least)
	write(b, " ", Sign(e.Op), " ", decimal(e.Num))
}

// writeKid writes a kid, in brackets if its strength is below the least one.
func writeKid(b *strings.Builder, kid api.Expr, least int) {
	if strengthOf(kid) < least {
		writeInBrackets(b, kid)
		return
	}
	writeExpr(b, kid)
}

// writeInBrackets writes an expression in brackets.
func writeInBrackets(b *strings.Builder, e api.Expr) {
	write(b, "(")
	writeExpr(b, e)
	write(b, ")")
}

// conditions returns the texts of matchers.
func conditions(l []api.Matcher) []string {
	texts := make([]string, len(l))
	for i, m := range l {
		sign := "="
		if m.Kind == api.MatchNot {
			sign = "!="
		}
		texts[i] = m.Name + sign + lex.Quote(m.Text)
	}
	return texts
}

// decimal returns n in decimal.
func decimal(n int64) string {
	return strconv.FormatInt(n, 10)
}
