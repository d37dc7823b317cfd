package oper_test

import (
	"encoding/binary"
	"strings"

	"waterwheel/api"
)

// number returns a number as the bytes of it.
func number(x uint64) string {
	s := strings.TrimRight(string(binary.LittleEndian.AppendUint64(nil, x)), "\x00")
	return string([]byte{byte(len(s))}) + s
}

// whole returns a number that should not be below 0 as the bytes of it.
func whole[T int | int64](n T) string {
	return number(uint64(n))
}

// signed returns a signed number as the bytes of it.
func signed(x int64) string {
	if x < 0 {
		return number(^(uint64(x) << 1))
	}
	return number(uint64(x) << 1)
}

// text returns a text as the bytes of it.
func text(s string) string {
	return number(uint64(len(s))) + s
}

// key returns the key of labels.
func key(l []api.Label) (s string) {
	for _, x := range l {
		s += text(x.Name) + text(x.Text)
	}
	return s
}

// seriesKey returns the key of a series.
func seriesKey(s api.Series) string {
	return text(s.Metric) + key(s.Labels)
}

// truth returns a bool as the bytes of it.
func truth(is bool) string {
	if is {
		return "\x01"
	}
	return "\x00"
}

// value returns a value as the bytes of it.
func value(v api.Value) string {
	if v.Over {
		return "\x01"
	}
	return "\x00" + signed(v.N)
}

// nodeBytes returns the bytes of a node, also of one that is not valid.
func nodeBytes(n api.Node) string {
	x := n.Expr
	s := whole(n.Every) + whole(x.Kind) + whole(x.Func) + whole(x.Op) + signed(x.Num) + text(x.Metric) + whole(len(x.Match))
	for _, m := range x.Match {
		s += whole(m.Kind) + text(m.Name) + text(m.Text)
	}
	s += whole(x.Span) + whole(len(x.Names))
	for _, name := range x.Names {
		s += text(name)
	}
	s += whole(len(n.In))
	for _, in := range n.In {
		s += whole(in)
	}
	return s
}

// writeResults writes results.
func writeResults(b *strings.Builder, v []api.Result) {
	b.WriteString(whole(len(v)))
	for _, x := range v {
		b.WriteString(text(key(x.Labels)) + value(x.Value))
	}
}

// bytes says what Bytes says.
func (r reference) bytes() string {
	r.series = r.byKey()
	return r.written()
}

// written returns what the reference has as bytes, also if no operator has it:
// the series are written in the order in which they are there.
func (r reference) written() string {
	var b strings.Builder
	b.WriteString(nodeBytes(r.node) + whole(r.told))
	writeResults(&b, r.vector)
	if r.isLeaf() {
		b.WriteString(whole(len(r.series)))
		for _, x := range r.series {
			b.WriteString(text(seriesKey(x.Series)) + whole(len(x.points)))
			for _, p := range x.points {
				b.WriteString(whole(p.Time) + signed(p.N))
			}
		}
		return b.String()
	}
	for _, s := range r.sides {
		writeResults(&b, s.results)
		b.WriteString(whole(len(s.waits)))
		for _, w := range s.waits {
			b.WriteString(whole(w.Time) + whole(len(w.Changes)))
			for _, c := range w.Changes {
				b.WriteString(text(key(c.Labels)) + truth(c.Gone))
				if !c.Gone {
					b.WriteString(value(c.Value))
				}
			}
		}
	}
	return b.String()
}
