package queue

import (
	"waterwheel/api"
	"waterwheel/sample"
	"waterwheel/wire"
)

// Read returns the queue whose bytes are b.
func Read(b []byte) (*Queue, api.Errno) {
	r := wire.New(b)
	q, e := New(r.Count(api.MaxRoom))
	if e != api.OK {
		return nil, api.ErrBad
	}
	for range r.Count(q.room) {
		if q.Put(readItem(r)) != api.OK {
			return nil, api.ErrBad
		}
	}
	if r.End() != api.OK {
		return nil, api.ErrBad
	}
	return q, api.OK
}

// readItem reads an item. If it is damaged, it is not valid, or the reader has an
// error.
func readItem(r *wire.Reader) api.Item {
	i := api.Item{Kind: r.Count(api.ItemBatch)}
	switch i.Kind {
	case api.ItemSample:
		// What is no sample becomes a zero value, which is not valid.
		i.Sample, _ = sample.Read([]byte(r.Text()))
	case api.ItemPass:
		i.Time = readTime(r)
	case api.ItemBatch:
		i.Batch = readBatch(r)
	}
	return i
}

// readTime reads a time. A number that is none becomes one below 0, or above
// MaxTime.
func readTime(r *wire.Reader) int64 {
	return int64(r.Number())
}

// readBatch reads a batch. If a change is damaged, it is a zero value.
func readBatch(r *wire.Reader) api.Batch {
	b := api.Batch{Time: readTime(r)}
	for range r.Number() {
		labels, is := labelsOf(r.Text())
		c := api.Change{Labels: labels, Gone: r.Truth()}
		if !c.Gone {
			c.Value = readValue(r)
		}
		if !is || r.Err() != api.OK {
			return api.Batch{}
		}
		b.Changes = append(b.Changes, c)
	}
	return b
}

// readValue reads a value.
func readValue(r *wire.Reader) (v api.Value) {
	if v.Over = r.Truth(); !v.Over {
		v.N = r.Signed()
	}
	return v
}
