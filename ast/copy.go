package ast

import (
	"slices"
	"strings"

	"waterwheel/api"
)

// Same reports whether all fields of a and b are equal.
func Same(a, b api.Expr) bool {
	return a.Kind == b.Kind && a.Func == b.Func && a.Op == b.Op && a.Num == b.Num &&
		a.Metric == b.Metric && slices.Equal(a.Match, b.Match) && a.Span == b.Span &&
		slices.Equal(a.Names, b.Names) && slices.EqualFunc(a.Kids, b.Kids, Same)
}

// Copy returns e in new memory, that of its texts included.
func Copy(e api.Expr) api.Expr {
	e.Metric = strings.Clone(e.Metric)
	e.Match = copies(e.Match, copyMatcher)
	e.Names = copies(e.Names, strings.Clone)
	e.Kids = copies(e.Kids, Copy)
	return e
}

// copyMatcher returns m with texts in new memory.
func copyMatcher(m api.Matcher) api.Matcher {
	m.Name, m.Text = strings.Clone(m.Name), strings.Clone(m.Text)
	return m
}

// copies returns a new list with a copy of each element of l.
func copies[E any](l []E, one func(E) E) []E {
	if l == nil {
		return nil
	}
	own := make([]E, len(l))
	for i, x := range l {
		own[i] = one(x)
	}
	return own
}
