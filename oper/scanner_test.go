package oper_test

import (
	"encoding/binary"
	"testing"

	"waterwheel/api"
	"waterwheel/oper"
)

// A scanner reads what a reference writes. Once something is damaged, it is bad
// and returns zero values.
type scanner struct {
	left string
	bad  bool
}

// cut returns the next n bytes.
func (s *scanner) cut(n uint64) string {
	if s.bad || uint64(len(s.left)) < n {
		s.bad = true
		return ""
	}
	c := s.left[:n]
	s.left = s.left[n:]
	return c
}

// number reads a number.
func (s *scanner) number() uint64 {
	size := s.cut(1)
	if s.bad || size[0] > 8 {
		s.bad = true
		return 0
	}
	b := s.cut(uint64(size[0]))
	if len(b) > 0 && b[len(b)-1] == 0 {
		s.bad = true
	}
	if s.bad {
		return 0
	}
	return binary.LittleEndian.Uint64(append([]byte(b), make([]byte, 8)...))
}

// signed reads a signed number.
func (s *scanner) signed() int64 {
	x := s.number()
	if x%2 == 1 {
		return -int64(x/2) - 1
	}
	return int64(x / 2)
}

// text reads a text.
func (s *scanner) text() string {
	return s.cut(s.number())
}

// truth reads a bool.
func (s *scanner) truth() bool {
	b := s.cut(1)
	s.bad = s.bad || b[0] > 1
	return !s.bad && b[0] == 1
}

// repeat calls each as many times as the number says that is read.
func (s *scanner) repeat(each func()) {
	for n := s.number(); n > 0 && !s.bad; n-- {
		each()
	}
}

// labels reads the labels of a key, which has no more bytes.
func (s *scanner) labels() (l []api.Label) {
	for !s.bad && s.left != "" {
		name := s.text()
		l = append(l, api.Label{Name: name, Text: s.text()})
	}
	return l
}

// key reads the key of labels.
func (s *scanner) key() []api.Label {
	k := scanner{left: s.text()}
	l := k.labels()
	s.bad = s.bad || k.bad
	return l
}

// value reads a value.
func (s *scanner) value() (v api.Value) {
	if v.Over = s.truth(); !v.Over {
		v.N = s.signed()
	}
	return v
}

// results reads results.
func (s *scanner) results() (v []api.Result) {
	s.repeat(func() {
		l := s.key()
		v = append(v, api.Result{Labels: l, Value: s.value()})
	})
	return v
}

// node reads a node.
func (s *scanner) node() (n api.Node) {
	x := &n.Expr
	n.Every = int64(s.number())
	x.Kind, x.Func, x.Op = int(s.number()), int(s.number()), int(s.number())
	x.Num = s.signed()
	x.Metric = s.text()
	s.repeat(func() {
		x.Match = append(x.Match, api.Matcher{Kind: int(s.number()), Name: s.text(), Text: s.text()})
	})
	x.Span = int64(s.number())
	s.repeat(func() { x.Names = append(x.Names, s.text()) })
	s.repeat(func() { n.In = append(n.In, int(s.number())) })
	return n
}

// series reads the series of a leaf.
func (s *scanner) series() (l []refSeries) {
	s.repeat(func() {
		k := scanner{left: s.text()}
		x := refSeries{Series: api.Series{Metric: k.text()}}
		x.Labels = k.labels()
		s.bad = s.bad || k.bad
		s.repeat(func() {
			time := int64(s.number())
			x.points = append(x.points, point(time, s.signed()))
		})
		l = append(l, x)
	})
	return l
}

// side reads a side.
func (s *scanner) side() (x refSide) {
	x.results = s.results()
	s.repeat(func() {
		b := api.Batch{Time: int64(s.number())}
		s.repeat(func() {
			c := api.Change{Labels: s.key(), Gone: s.truth()}
			if !c.Gone {
				c.Value = s.value()
			}
			b.Changes = append(b.Changes, c)
		})
		x.waits = append(x.waits, b)
	})
	return x
}

// scanned returns what some bytes have, and whether there is such an operator.
func scanned(b string) (reference, bool) {
	s := &scanner{left: b}
	r := reference{node: s.node()}
	if s.bad || !refNode(r.node) {
		return reference{}, false
	}
	r.told = int64(s.number())
	r.vector = s.results()
	if r.isLeaf() {
		r.series = s.series()
	}
	for range r.node.In {
		r.sides = append(r.sides, s.side())
	}
	return r, !s.bad && s.left == "" && r.valid()
}

// tryRead reads bytes, checks whether this is possible, and if it is, checks the
// operator. It returns a pair then.
func tryRead(t *testing.T, b string) *pair {
	t.Helper()
	r, is := scanned(b)
	if !is {
		bad(t, b)
		return nil
	}
	if r.written() != b {
		t.Fatalf("scanned bytes %s are written as %s", short(b), short(r.written()))
	}
	o, e := oper.Read([]byte(b))
	if e != api.OK || o == nil {
		t.Errorf("read of %s: an operator %t, error %d", short(b), o != nil, e)
		return nil
	}
	x := &pair{o, r}
	x.check(t)
	return x
}
