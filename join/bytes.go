package join

import (
	"slices"

	"waterwheel/api"
	"waterwheel/group"
	"waterwheel/label"
	"waterwheel/number"
	"waterwheel/sample"
	"waterwheel/wire"
)

// Bytes returns a join as bytes.
func (j *Join) Bytes() []byte {
	if !j.valid() {
		return nil
	}
	// The parts are joined at the end, because wire copies what it adds to.
	parts := [][]byte{size(j.op), size(len(j.names))}
	for _, name := range j.names {
		parts = append(parts, text(name))
	}
	for side := 1; side <= len(j.sides); side++ {
		v := j.In(side)
		parts = append(parts, size(len(v)))
		for _, x := range v {
			parts = append(parts, text(label.Key(x.Labels)), number.Bytes(nil, x.Value))
		}
	}
	return slices.Concat(parts...)
}

// size returns a number from 0 on as bytes.
func size(n int) []byte {
	return wire.Number(nil, uint64(n))
}

// text returns a name or a key as bytes: neither is too long for wire.
func text(s string) []byte {
	b, _ := wire.Text(nil, s)
	return b
}

// Read returns the join whose bytes are b.
func Read(b []byte) (*Join, api.Errno) {
	r := wire.New(b)
	op := r.Count(api.OpMul)
	j, e := New(op, readNames(r))
	if e != api.OK {
		return nil, api.ErrBad
	}
	for side := 1; side <= len(j.sides); side++ {
		v, e := readVector(r)
		if e != api.OK {
			return nil, api.ErrBad
		}
		j.Set(side, group.Changes(nil, v))
	}
	if r.End() != api.OK {
		return nil, api.ErrBad
	}
	return j, api.OK
}

// readNames reads names with their number. They need not be valid.
func readNames(r *wire.Reader) []string {
	names := make([]string, r.Count(api.MaxLabels))
	for i := range names {
		names[i] = r.Text()
	}
	return names
}

// readVector reads a vector with its number, or returns an error if it is
// damaged.
func readVector(r *wire.Reader) ([]api.Result, api.Errno) {
	var v []api.Result
	for range r.Count(api.MaxVector) {
		labels, e := label.Parse(r.Text())
		value, is := number.Read(r)
		if e != api.OK || !is {
			return nil, api.ErrBad
		}
		v = append(v, api.Result{Labels: labels, Value: value})
	}
	return v, sample.CheckVector(v)
}
