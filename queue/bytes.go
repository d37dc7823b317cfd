package queue

import (
	"slices"
	"strings"

	"waterwheel/api"
	"waterwheel/sample"
	"waterwheel/wire"
)

// Bytes returns a queue as bytes.
func (q *Queue) Bytes() []byte {
	if !q.valid() {
		return nil
	}
	w := &writer{}
	w.size(q.room)
	w.size(q.Len())
	by := writers()
	for n := range q.Len() {
		i := q.items.get(n)
		w.size(i.Kind)
		by[i.Kind](w, i)
	}
	return slices.Concat(w.parts...)
}

// writers returns how items of each kind are written.
func writers() [api.ItemBatch + 1]func(*writer, api.Item) {
	return [...]func(*writer, api.Item){
		api.ItemSample: (*writer).sample,
		api.ItemPass:   (*writer).pass,
		api.ItemBatch:  (*writer).batch,
	}
}

// A writer has the bytes of a queue in parts, because wire copies what it adds to.
type writer struct {
	parts [][]byte
}

// add adds a part.
func (w *writer) add(part []byte) {
	w.parts = append(w.parts, part)
}

// whole adds a number from 0 on.
func (w *writer) whole(n int64) {
	w.add(wire.Number(nil, uint64(n)))
}

// size adds how many there are of something, or the number of a kind.
func (w *writer) size(n int) {
	w.whole(int64(n))
}

// text adds a key or the bytes of a sample: neither is too long for wire.
func (w *writer) text(s string) {
	b, _ := wire.Text(nil, s)
	w.add(b)
}

// sample adds the sample of an item, which is valid.
func (w *writer) sample(i api.Item) {
	b, _ := sample.Bytes(i.Sample)
	w.text(string(b))
}

// pass adds the time of an item.
func (w *writer) pass(i api.Item) {
	w.whole(i.Time)
}

// batch adds the batch of an item.
func (w *writer) batch(i api.Item) {
	w.whole(i.Batch.Time)
	w.size(len(i.Batch.Changes))
	for _, c := range i.Batch.Changes {
		w.text(keyOf(c.Labels))
		w.add(wire.Truth(nil, c.Gone))
		if !c.Gone {
			w.value(c.Value)
		}
	}
}

// value adds a value.
func (w *writer) value(v api.Value) {
	w.add(wire.Truth(nil, v.Over))
	if !v.Over {
		w.add(wire.Signed(nil, v.N))
	}
}

// with returns a series that has labels. Its metric is always the same.
func with(l []api.Label) api.Series {
	return api.Series{Metric: "m", Labels: l}
}

// keyOf returns the key of labels, which are valid: it is what follows the metric
// in the key of a series.
func keyOf(l []api.Label) string {
	return strings.TrimPrefix(sample.Key(with(l)), sample.Key(with(nil)))
}

// labelsOf returns the labels whose key is key, or false if there are none.
func labelsOf(key string) ([]api.Label, bool) {
	s, e := sample.Parse(sample.Key(with(nil)) + key)
	return s.Labels, e == api.OK
}
