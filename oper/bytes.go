package oper

import (
	"slices"

	"waterwheel/api"
	"waterwheel/label"
	"waterwheel/number"
	"waterwheel/wire"
)

// Bytes returns an operator as bytes.
func (o *Oper) Bytes() []byte {
	if !o.valid() {
		return nil
	}
	w := &writer{}
	w.node(o.node)
	w.whole(o.told)
	w.results(o.vector)
	o.work.write(w)
	return slices.Concat(w.parts...)
}

// A writer has the bytes of an operator in parts, because wire copies what it
// adds to.
type writer struct {
	parts [][]byte
}

// add adds a part.
func (w *writer) add(part []byte) {
	w.parts = append(w.parts, part)
}

// whole adds a number from 0 on.
func (w *writer) whole(n int64) {
	w.add(wire.Number(nil, uint64(n)))
}

// size adds how many there are of something, or the number of a kind.
func (w *writer) size(n int) {
	w.whole(int64(n))
}

// signed adds a signed number.
func (w *writer) signed(n int64) {
	w.add(wire.Signed(nil, n))
}

// text adds a name, a key or the text of a matcher: none is too long for wire.
func (w *writer) text(s string) {
	b, _ := wire.Text(nil, s)
	w.add(b)
}

// node adds a node.
func (w *writer) node(n api.Node) {
	x := n.Expr
	w.whole(n.Every)
	w.size(x.Kind)
	w.size(x.Func)
	w.size(x.Op)
	w.signed(x.Num)
	w.text(x.Metric)
	w.size(len(x.Match))
	for _, m := range x.Match {
		w.size(m.Kind)
		w.text(m.Name)
		w.text(m.Text)
	}
	w.whole(x.Span)
	w.size(len(x.Names))
	for _, name := range x.Names {
		w.text(name)
	}
	w.size(len(n.In))
	for _, in := range n.In {
		w.size(in)
	}
}

// results adds results.
func (w *writer) results(v []api.Result) {
	w.size(len(v))
	for _, x := range v {
		w.text(label.Key(x.Labels))
		w.add(number.Bytes(nil, x.Value))
	}
}

// changes adds changes.
func (w *writer) changes(l []api.Change) {
	w.size(len(l))
	for _, c := range l {
		w.text(label.Key(c.Labels))
		w.add(wire.Truth(nil, c.Gone))
		if !c.Gone {
			w.add(number.Bytes(nil, c.Value))
		}
	}
}
