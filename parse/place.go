package parse

import "waterwheel/api"

// signs has the sign of each operator and each comparison.
var signs = [...]string{
	api.OpAdd: "+", api.OpSub: "-", api.OpMul: "*",
	api.OpLess: "<", api.OpMost: "<=", api.OpMore: ">", api.OpLeast: ">=", api.OpEq: "==", api.OpNe: "!=",
}

// A place is one between two tokens of a text. Each rule of the grammar is a
// method that returns what it has read from there on, and the place behind
// that. What is optional is returned as its zero value, with the same place.
type place struct {
	left []api.Token // its last one is the end, behind which no rule goes on
	open int         // how many brackets ( are open
}

// stop ends all rules with an error at the next token.
func (p place) stop(e api.Errno) {
	panic(fault{Err: e, At: p.left[0].At})
}

// skip returns the place behind the next token.
func (p place) skip() place {
	p.left = p.left[1:]
	return p
}

// is reports whether the next token has this kind.
func (p place) is(kind int) bool {
	return p.left[0].Kind == kind
}

// isExactly reports whether the next token has this kind and this text.
func (p place) isExactly(kind int, text string) bool {
	return p.is(kind) && p.left[0].Text == text
}

// token reads a token of a kind.
func (p place) token(kind int) (api.Token, place) {
	if !p.is(kind) {
		p.stop(api.ErrSyntax)
	}
	return p.left[0], p.skip()
}

// word reads a word.
func (p place) word() (string, place) {
	t, p := p.token(api.TokWord)
	return t.Text, p
}

// text reads a text in quotes.
func (p place) text() (string, place) {
	t, p := p.token(api.TokText)
	return t.Text, p
}

// number reads a number.
func (p place) number() (int64, place) {
	t, p := p.token(api.TokNum)
	return t.Num, p
}

// operator reads one of the operators from first to last, if there is one.
func (p place) operator(first, last int) (int, place) {
	for op := first; op <= last; op++ {
		if p.isExactly(api.TokSign, signs[op]) {
			return op, p.skip()
		}
	}
	return 0, p
}

// past returns the place behind a token that has to have this kind and this
// text.
func (p place) past(kind int, text string) place {
	if !p.isExactly(kind, text) {
		p.stop(api.ErrSyntax)
	}
	return p.skip()
}

// enter returns the place behind a ( that has to be there.
func (p place) enter() place {
	inside := p.past(api.TokSign, "(")
	if p.open == api.MaxOpen {
		p.stop(api.ErrLong)
	}
	inside.open++
	return inside
}

// leave returns the place behind a ) that has to be there.
func (p place) leave() place {
	p = p.past(api.TokSign, ")")
	p.open--
	return p
}

// bracketed reads what a rule reads, in brackets.
func bracketed[T any](p place, rule func(place) (T, place)) (T, place) {
	x, p := rule(p.enter())
	return x, p.leave()
}

// list reads any number of what a rule reads, which begins with a word, with
// commas between them.
func list[T any](p place, rule func(place) (T, place)) (l []T, rest place) {
	if !p.is(api.TokWord) {
		return nil, p
	}
	for {
		x, behind := rule(p)
		l = append(l, x)
		if !behind.isExactly(api.TokSign, ",") {
			return l, behind
		}
		p = behind.skip()
	}
}
