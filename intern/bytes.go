package intern

import (
	"slices"

	"waterwheel/api"
	"waterwheel/sample"
	"waterwheel/wire"
)

// Bytes returns a table as bytes.
func (t *Table) Bytes() []byte {
	if !t.valid() {
		return nil
	}
	// The parts are joined at the end, because wire copies what it adds to.
	parts := [][]byte{wire.Number(nil, uint64(len(t.series)))}
	for _, s := range t.series {
		// A key is not too long for wire.
		part, _ := wire.Text(nil, sample.Key(s))
		parts = append(parts, part)
	}
	return slices.Concat(parts...)
}

// Read returns the table whose bytes are b.
func Read(b []byte) (*Table, api.Errno) {
	t, r := New(), wire.New(b)
	for range r.Count(api.MaxSeries) {
		// If there was no text, the key is empty, which is that of no series.
		key := r.Text()
		if _, e := sample.Parse(key); e != api.OK {
			return nil, api.ErrBad
		}
		// A table has each series once.
		if t.numbers[key] > 0 {
			return nil, api.ErrBad
		}
		t.add(key)
	}
	if r.End() != api.OK {
		return nil, api.ErrBad
	}
	return t, api.OK
}
