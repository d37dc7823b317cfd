package group

import (
	"slices"

	"waterwheel/api"
	"waterwheel/label"
	"waterwheel/number"
	"waterwheel/sample"
	"waterwheel/wire"
)

// Bytes returns a group as bytes.
func (g *Group) Bytes() []byte {
	if !g.valid() {
		return nil
	}
	// The parts are joined at the end, because wire copies what it adds to.
	parts := [][]byte{size(g.fn), size(len(g.names))}
	for _, name := range g.names {
		parts = append(parts, text(name))
	}
	v := g.In()
	parts = append(parts, size(len(v)))
	for _, x := range v {
		parts = append(parts, text(label.Key(x.Labels)), number.Bytes(nil, x.Value))
	}
	return slices.Concat(parts...)
}

// size returns a number from 0 on as bytes.
func size(n int) []byte {
	return wire.Number(nil, uint64(n))
}

// text returns a name or a key as bytes: neither is too long for wire.
func text(s string) []byte {
	b, _ := wire.Text(nil, s)
	return b
}

// Read returns the group whose bytes are b.
func Read(b []byte) (*Group, api.Errno) {
	r := wire.New(b)
	fn := r.Count(api.GrMost)
	g, e := New(fn, readNames(r))
	if e != api.OK {
		return nil, api.ErrBad
	}
	v, e := readResults(r)
	if e != api.OK || r.End() != api.OK || sample.CheckVector(v) != api.OK {
		return nil, api.ErrBad
	}
	for _, x := range v {
		g.change(keyOf(x.Labels), api.Change{Labels: x.Labels, Value: x.Value})
	}
	return g, api.OK
}

// readNames reads names with their number. They need not be valid.
func readNames(r *wire.Reader) []string {
	names := make([]string, r.Count(api.MaxLabels))
	for i := range names {
		names[i] = r.Text()
	}
	return names
}

// readResults reads results with their number, or returns ErrBad at the first
// one that is damaged. They need not be a vector.
func readResults(r *wire.Reader) ([]api.Result, api.Errno) {
	var v []api.Result
	for range r.Count(api.MaxVector) {
		labels, e := label.Parse(r.Text())
		value, is := number.Read(r)
		if e != api.OK || !is {
			return nil, api.ErrBad
		}
		v = append(v, api.Result{Labels: labels, Value: value})
	}
	return v, api.OK
}
