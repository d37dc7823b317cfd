package ast_test

import (
	"reflect"
	"slices"
	"strings"
	"testing"
	"unsafe"

	"waterwheel/api"
	"waterwheel/ast"
)

// full returns an expression that has something in each field, at two levels.
func full() api.Expr {
	e := api.Expr{
		Kind: 1, Func: 2, Op: 3, Num: 4, Metric: "m", Span: 5, Names: []string{"b", "a"},
		Match: []api.Matcher{{Kind: 1, Name: "n", Text: "t"}, {Kind: 2, Name: "o", Text: "u"}},
	}
	kid := e
	e.Kids = []api.Expr{kid, {Names: []string{"c"}, Match: []api.Matcher{{}}}, {Kids: []api.Expr{kid, {Num: -1}}}}
	return e
}

// fresh returns an equal text in other memory.
func fresh(s string) string {
	return string([]byte(s))
}

// changes returns functions each of which makes an expression another one.
func changes() map[string]func(e *api.Expr) {
	return map[string]func(e *api.Expr){
		"Kind":       func(e *api.Expr) { e.Kind++ },
		"Func":       func(e *api.Expr) { e.Func-- },
		"Op":         func(e *api.Expr) { e.Op += 1 << 40 },
		"Num":        func(e *api.Expr) { e.Num = -e.Num - 1 },
		"Metric":     func(e *api.Expr) { e.Metric += "\x00" },
		"Span":       func(e *api.Expr) { e.Span ^= -1 << 63 },
		"a name":     func(e *api.Expr) { e.Names = append([]string{""}, e.Names...) },
		"names":      func(e *api.Expr) { e.Names = append(slices.Clone(e.Names), "z") },
		"a matcher":  func(e *api.Expr) { e.Match = append([]api.Matcher{{}}, e.Match...) },
		"matchers":   func(e *api.Expr) { e.Match = append(slices.Clone(e.Match), api.Matcher{Kind: 1, Name: "z"}) },
		"a kid":      func(e *api.Expr) { e.Kids = append([]api.Expr{{}}, e.Kids...) },
		"kids":       func(e *api.Expr) { e.Kids = append(slices.Clone(e.Kids), api.Expr{Num: 9}) },
		"first name": func(e *api.Expr) { e.Names = append([]string{"y"}, e.Names[min(1, len(e.Names)):]...) },
		"first match": func(e *api.Expr) {
			e.Match = append([]api.Matcher{{Kind: 9}}, e.Match[min(1, len(e.Match)):]...)
		},
	}
}

// every calls f with each expression in e, which it may change.
func every(e *api.Expr, f func(x *api.Expr)) {
	f(e)
	for i := range e.Kids {
		every(&e.Kids[i], f)
	}
}

// P6.2: Same, where one field of one expression is another one.
func TestSame(t *testing.T) {
	if !ast.Same(full(), full()) || !ast.Same(api.Expr{}, api.Expr{}) {
		t.Error("not the same")
	}
	for name, change := range changes() {
		for at := range ast.Size(full()) {
			e, n := full(), 0
			every(&e, func(x *api.Expr) {
				if n++; n == at+1 {
					change(x)
				}
			})
			if ast.Same(e, full()) || ast.Same(full(), e) || !ast.Same(e, e) {
				t.Errorf("%s at %d", name, at)
			}
		}
	}
}

// P6.2: Same, where the order or the parts of lists differ.
func TestSameLists(t *testing.T) {
	for _, l := range [][2]api.Expr{
		{{Names: []string{"a", "b"}}, {Names: []string{"b", "a"}}},
		{{Names: []string{"ab"}}, {Names: []string{"a", "b"}}},
		{{Names: []string{""}}, {}},
		{{Names: []string{"a", "a"}}, {Names: []string{"a"}}},
		{{Match: []api.Matcher{{Kind: 1}, {Kind: 2}}}, {Match: []api.Matcher{{Kind: 2}, {Kind: 1}}}},
		{{Match: []api.Matcher{{Name: "a"}}}, {Match: []api.Matcher{{Text: "a"}}}},
		{{Match: []api.Matcher{{Text: "a"}}}, {Match: []api.Matcher{{Text: "b"}}}},
		{{Match: []api.Matcher{{}}}, {}},
		{{Kids: []api.Expr{{Num: 1}, {Num: 2}}}, {Kids: []api.Expr{{Num: 2}, {Num: 1}}}},
		{{Kids: []api.Expr{{}}}, {}},
		{{Kids: []api.Expr{{Kids: []api.Expr{{}}}, {}}}, {Kids: []api.Expr{{}, {Kids: []api.Expr{{}}}}}},
		{{Func: 1}, {Op: 1}},
		{{Num: 1}, {Span: 1}},
		{{Metric: "a"}, {Names: []string{"a"}}},
	} {
		if ast.Same(l[0], l[1]) || ast.Same(l[1], l[0]) {
			t.Errorf("%v is the same as %v", l[0], l[1])
		}
	}
}

// P6.2 with rule 4: a list that is nil is the same as an empty one.
func TestSameEmpty(t *testing.T) {
	a := full()
	every(&a, func(x *api.Expr) {
		if len(x.Match) == 0 {
			x.Match = []api.Matcher{}
		}
		if len(x.Names) == 0 {
			x.Names = make([]string, 0, 4)
		}
		if len(x.Kids) == 0 {
			x.Kids = []api.Expr{}
		}
	})
	if !ast.Same(a, full()) || !ast.Same(full(), a) || !ast.Same(ast.Copy(a), full()) {
		t.Error("not the same")
	}
}

// P6.2, P6.3: a copy is the same, and what is done to one of the two, its
// spare capacity included, does not change the other one.
func TestCopy(t *testing.T) {
	for _, own := range []func() api.Expr{full, tree, chapter, func() api.Expr { return api.Expr{} }} {
		e := own()
		c := ast.Copy(e)
		if !ast.Same(c, e) || !reflect.DeepEqual(c, e) {
			t.Errorf("a copy of %v is %v", e, c)
		}
		spoil(&c)
		if !ast.Same(e, own()) {
			t.Errorf("what was copied is %v", e)
		}
		c = ast.Copy(e)
		spoil(&e)
		if !ast.Same(c, own()) {
			t.Errorf("the copy is %v", c)
		}
	}
}

// spoil changes everything that e can reach.
func spoil(e *api.Expr) {
	for i := range e.Kids {
		spoil(&e.Kids[i])
	}
	clear(e.Match[:cap(e.Match)])
	clear(e.Names[:cap(e.Names)])
	clear(e.Kids[:cap(e.Kids)])
	e.Num = 99
}

// P6.3: the lists of a copy share no memory with each other either, even where
// those of e do.
func TestCopyOfShared(t *testing.T) {
	names, match := []string{"a", "b", "c"}, make([]api.Matcher, 3, 8)
	leaf := api.Expr{Names: names[:1], Match: match[:1]}
	kids := []api.Expr{leaf, leaf, leaf}
	e := api.Expr{Names: names[:2], Match: match[:2], Kids: []api.Expr{{Names: names, Kids: kids[:1]}, {Match: match, Kids: kids[:2]}}}
	seen := map[any]bool{}
	each(e, func(p any) { seen[p] = true })
	for range 2 {
		each(ast.Copy(e), func(p any) {
			if seen[p] {
				t.Error("memory that is shared")
			}
			seen[p] = true
		})
	}
	if len(seen) < 20 {
		t.Errorf("only %d places", len(seen))
	}
}

// each calls f with the place of each element of each list in e, spare
// capacity included.
func each(e api.Expr, f func(p any)) {
	for i := range e.Match[:cap(e.Match)] {
		f(&e.Match[:cap(e.Match)][i])
	}
	for i := range e.Names[:cap(e.Names)] {
		f(&e.Names[:cap(e.Names)][i])
	}
	for i := range e.Kids[:cap(e.Kids)] {
		f(&e.Kids[:cap(e.Kids)][i])
	}
	for _, kid := range e.Kids {
		each(kid, f)
	}
}

// texts returns all texts in e.
func texts(e api.Expr) []string {
	l := append([]string{e.Metric}, e.Names...)
	for _, m := range e.Match {
		l = append(l, m.Name, m.Text)
	}
	for _, kid := range e.Kids {
		l = append(l, texts(kid)...)
	}
	return l
}

// P6.3: the texts of a copy are in new memory too.
func TestCopyOfTexts(t *testing.T) {
	long := strings.Repeat("text", 1000)
	kid := api.Expr{Metric: long[:40], Names: []string{long, long[4:]}, Match: []api.Matcher{{Name: long[:1], Text: long[:2]}}}
	e := kid
	e.Kids = []api.Expr{kid}
	before, after := texts(e), texts(ast.Copy(e))
	if !slices.Equal(before, after) {
		t.Errorf("%q", after)
	}
	for i := range before {
		if unsafe.StringData(before[i]) == unsafe.StringData(after[i]) {
			t.Errorf("text %d shares memory", i)
		}
	}
}

// P6.2 with rule 3: Leaves are new memory, also where one is in another one.
func TestLeavesShareNothing(t *testing.T) {
	e := tree()
	l := ast.Leaves(e)
	for i := range l {
		spoil(&l[i])
		for j, x := range ast.Leaves(tree())[i+1:] {
			if !ast.Same(x, l[i+1+j]) {
				t.Errorf("leaf %d changed with leaf %d", i+1+j, i)
			}
		}
	}
	clear(l[:cap(l)])
	if !ast.Same(e, tree()) {
		t.Errorf("%v", e)
	}
	l = ast.Leaves(e)
	spoil(&e)
	if !slices.EqualFunc(l, ast.Leaves(tree()), ast.Same) {
		t.Errorf("%v", l)
	}
}

// Rule 3: no call changes what it is given, or its spare capacity.
func TestNothingChanges(t *testing.T) {
	for _, own := range []func() api.Expr{full, tree, chapter} {
		e := own()
		every(&e, func(x *api.Expr) {
			x.Metric = fresh(x.Metric)
			x.Match = append(slices.Grow(x.Match, 2), api.Matcher{Kind: 5})[:len(x.Match)]
			x.Names = append(slices.Grow(x.Names, 2), "spare")[:len(x.Names)]
			x.Kids = append(slices.Grow(x.Kids, 2), api.Expr{Num: 8})[:len(x.Kids)]
		})
		ast.Check(api.Query{Every: 1, Expr: e})
		ast.CheckExpr(e)
		ast.Size(e)
		ast.Deep(e)
		ast.Horizon(e)
		ast.Leaves(e)
		ast.Walk(e, func(api.Expr) bool { return true })
		if c := ast.Copy(e); !ast.Same(c, e) || !ast.Same(e, own()) {
			t.Errorf("%v", e)
		}
		every(&e, func(x *api.Expr) {
			m, n, k := len(x.Match), len(x.Names), len(x.Kids)
			if x.Match[:m+1][m].Kind != 5 || x.Names[:n+1][n] != "spare" || x.Kids[:k+1][k].Num != 8 {
				t.Errorf("the spare capacity of %v", *x)
			}
		})
	}
}
