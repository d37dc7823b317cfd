package parse

import (
	"slices"

	"waterwheel/api"
)

// query = "every" number ":" expr
func (p place) query() (q api.Query, rest place) {
	q.Every, p = p.past(api.TokWord, "every").number()
	q.Expr, p = p.past(api.TokSign, ":").expr()
	return q, p
}

// expr = sum (compare number)?
func (p place) expr() (api.Expr, place) {
	e, p := p.sum()
	op, p := p.compare()
	if op == 0 {
		return e, p
	}
	return p.withNumber(api.ExFilter, op, e)
}

// compare = "<" | "<=" | ">" | ">=" | "==" | "!=", which is optional where it
// may be.
func (p place) compare() (int, place) {
	return p.operator(api.OpLess, api.OpNe)
}

// sum = term (("+" | "-") on? term | ("+" | "-") number)*
func (p place) sum() (api.Expr, place) {
	return p.chain(api.OpAdd, api.OpSub, place.term)
}

// term = atom ("*" on? atom | "*" number)*
func (p place) term() (api.Expr, place) {
	return p.chain(api.OpMul, api.OpMul, place.atom)
}

// chain reads sides, with the operators from first to last between them, from
// left to right. Each side but the first one may be a number.
func (p place) chain(first, last int, side func(place) (api.Expr, place)) (api.Expr, place) {
	e, p := side(p)
	for {
		op, behind := p.operator(first, last)
		switch {
		case op == 0:
			return e, p
		case behind.is(api.TokNum):
			e, p = behind.withNumber(api.ExScale, op, e)
		default:
			e, p = behind.withSide(op, e, side)
		}
	}
}

// withNumber reads the number with which e is scaled or compared.
func (p place) withNumber(kind, op int, e api.Expr) (api.Expr, place) {
	n, p := p.number()
	return api.Expr{Kind: kind, Op: op, Num: n, Kids: []api.Expr{e}}, p
}

// withSide reads the side with which e is joined: on? side.
func (p place) withSide(op int, e api.Expr, side func(place) (api.Expr, place)) (api.Expr, place) {
	names, p := p.on()
	second, p := side(p)
	return api.Expr{Kind: api.ExJoin, Op: op, Names: names, Kids: []api.Expr{e, second}}, p
}

// on = "on" "(" names ")", which is optional where it may be.
func (p place) on() ([]string, place) {
	if !p.isExactly(api.TokWord, "on") {
		return nil, p
	}
	return bracketed(p.skip(), place.names)
}

// atom = fn "(" window ")" | group | "(" expr ")"
func (p place) atom() (e api.Expr, rest place) {
	kind, fn := p.function()
	switch kind {
	case api.ExWindow:
		e, p = bracketed(p.skip(), place.window)
	case api.ExGroup:
		e, p = p.skip().group()
	default:
		return bracketed(p, place.expr)
	}
	e.Func = fn
	return e, p
}

// function returns the kind and the number of the function or the group whose
// word is the next token, or zeros.
func (p place) function() (kind, fn int) {
	if p.is(api.TokWord) {
		kind, fn, _ = Func(p.left[0].Text)
	}
	return kind, fn
}

// window = word match? "[" number "]"
func (p place) window() (e api.Expr, rest place) {
	e.Kind = api.ExWindow
	e.Metric, p = p.word()
	if p.isExactly(api.TokSign, "{") {
		e.Match, p = p.match()
	}
	e.Span, p = p.past(api.TokSign, "[").number()
	return e, p.past(api.TokSign, "]")
}

// group = "by" "(" names ")" "(" expr ")"
func (p place) group() (e api.Expr, rest place) {
	names, p := bracketed(p.past(api.TokWord, "by"), place.names)
	kid, p := bracketed(p, place.expr)
	return api.Expr{Kind: api.ExGroup, Names: names, Kids: []api.Expr{kid}}, p
}

// match = "{" (matcher ("," matcher)*)? "}"
func (p place) match() ([]api.Matcher, place) {
	l, p := list(p.past(api.TokSign, "{"), place.matcher)
	return l, p.past(api.TokSign, "}")
}

// matcher = word ("=" | "!=") text
func (p place) matcher() (m api.Matcher, rest place) {
	m.Name, p = p.word()
	switch {
	case p.isExactly(api.TokSign, "="):
		m.Kind = api.MatchIs
	case p.isExactly(api.TokSign, "!="):
		m.Kind = api.MatchNot
	default:
		p.stop(api.ErrSyntax)
	}
	m.Text, p = p.skip().text()
	return m, p
}

// names = (word ("," word)*)?, in their order, each once.
func (p place) names() ([]string, place) {
	l, p := list(p, place.word)
	slices.Sort(l)
	return slices.Compact(l), p
}
