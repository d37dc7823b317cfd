package queue_test

import (
	"fmt"
	"slices"
	"strings"
	"testing"

	"waterwheel/api"
	"waterwheel/queue"
)

// list returns labels with these names and texts.
func list(pairs ...string) []api.Label {
	var l []api.Label
	for pair := range slices.Chunk(pairs, 2) {
		l = append(l, api.Label{Name: pair[0], Text: pair[1]})
	}
	return l
}

// eight returns as many labels as a set may have.
func eight() []api.Label {
	return list("a", "1", "b", "2", "c", "3", "d", "4", "e", "5", "f", "6", "g", "7", "h", "8")
}

// of returns a sample of cpu as an item.
func of(time, n int64, pairs ...string) api.Item {
	return from(api.Series{Metric: "cpu", Labels: list(pairs...)}, time, n)
}

// from returns a sample of a series as an item.
func from(s api.Series, time, n int64) api.Item {
	return api.Item{Kind: api.ItemSample, Sample: api.Sample{Series: s, Time: time, N: n}}
}

// pass returns a time as an item.
func pass(time int64) api.Item {
	return api.Item{Kind: api.ItemPass, Time: time}
}

// at returns a batch as an item.
func at(time int64, l ...api.Change) api.Item {
	return api.Item{Kind: api.ItemBatch, Batch: api.Batch{Time: time, Changes: l}}
}

// put returns a change to a number, over one to a value that is over, and gone one
// by which something goes.
func put(n int64, pairs ...string) api.Change {
	return api.Change{Labels: list(pairs...), Value: api.Value{N: n}}
}

func over(pairs ...string) api.Change {
	return api.Change{Labels: list(pairs...), Value: api.Value{Over: true}}
}

func gone(pairs ...string) api.Change {
	return api.Change{Labels: list(pairs...), Gone: true}
}

// dump returns all that an item has as a text. Equal items have the same one.
func dump(i api.Item) string {
	var b strings.Builder
	fmt.Fprintf(&b, "%d %q %q %d %d %d %d", i.Kind, i.Sample.Metric, i.Sample.Labels, i.Sample.Time, i.Sample.N, i.Time, i.Batch.Time)
	for _, c := range i.Batch.Changes {
		fmt.Fprintf(&b, ", %q %d %t %t", c.Labels, c.N, c.Over, c.Gone)
	}
	return b.String()
}

// dumps returns all that items have.
func dumps(l []api.Item) string {
	var b strings.Builder
	for _, i := range l {
		b.WriteString(dump(i) + "\n")
	}
	return b.String()
}

// short returns the beginning of what something has.
func short(x any) string {
	s := fmt.Sprintf("%q", x)
	if len(s) > 500 {
		return s[:500] + " and more"
	}
	return s
}

// isName says whether a text is a name.
func isName(s string) bool {
	const digits, others = "0123456789", "abcdefghijklmnopqrstuvwxyz_"
	return len(s) >= 1 && len(s) <= 24 && !strings.Contains(digits, s[:1]) && strings.Trim(s, digits+others) == ""
}

// isTime says whether an item may have a time from least on.
func isTime(time, least int64) bool {
	return least <= time && time <= 1<<40
}

// isSet says whether labels are a valid set.
func isSet(l []api.Label) bool {
	for i, x := range l {
		if !isName(x.Name) || len(x.Text) < 1 || len(x.Text) > 64 || i > 0 && l[i-1].Name >= x.Name {
			return false
		}
	}
	return len(l) <= 8
}

// isChange says whether a change is valid.
func isChange(c api.Change) bool {
	return isSet(c.Labels) && (!c.Over && !c.Gone || c.N == 0) && !(c.Over && c.Gone)
}

// isItem says whether an item is valid: it must be the same as one that has
// nothing but what its kind has.
func isItem(i api.Item) bool {
	s, l := i.Sample, i.Batch.Changes
	switch i.Kind {
	case 1:
		return isName(s.Metric) && isSet(s.Labels) && isTime(s.Time, 1) && dump(i) == dump(from(s.Series, s.Time, s.N))
	case 2:
		return isTime(i.Time, 0) && dump(i) == dump(pass(i.Time))
	case 3:
		return isTime(i.Batch.Time, 1) && dump(i) == dump(at(i.Batch.Time, l...)) && !slices.ContainsFunc(l, func(c api.Change) bool { return !isChange(c) })
	}
	return false
}

// A reference is what a queue has. It says the same as the chapter, with a list.
type reference struct {
	room  int
	items []api.Item
}

// put says what Put says.
func (r *reference) put(l ...api.Item) api.Errno {
	for _, i := range l {
		if !isItem(i) {
			return api.ErrArg
		}
	}
	if len(r.items)+len(l) > r.room {
		return api.ErrBusy
	}
	r.items = slices.Concat(r.items, l)
	return api.OK
}

// take says what Take says.
func (r *reference) take() (api.Item, api.Errno) {
	if len(r.items) == 0 {
		return api.Item{}, api.ErrNone
	}
	i := r.items[0]
	r.items = r.items[1:]
	return i, api.OK
}

// valid says whether there is such a queue.
func (r reference) valid() bool {
	for _, i := range r.items {
		if !isItem(i) {
			return false
		}
	}
	return r.room >= 1 && r.room <= 4096 && len(r.items) <= r.room
}

// A pair is a queue with what it should be.
type pair struct {
	q *queue.Queue
	r reference
}

// made returns an empty queue.
func made(t *testing.T, room int) *pair {
	t.Helper()
	q, e := queue.New(room)
	if e != api.OK || q == nil {
		t.Fatalf("room %d: a queue %t, error %d", room, q != nil, e)
	}
	x := &pair{q, reference{room: room}}
	x.check(t)
	return x
}

// put puts items on both sides.
func (x *pair) put(t *testing.T, l ...api.Item) api.Errno {
	t.Helper()
	e, want := x.q.Put(l...), x.r.put(l...)
	if e != want {
		t.Fatalf("put of %d items: error %d, not %d", len(l), e, want)
	}
	x.size(t)
	return e
}

// take takes an item on both sides.
func (x *pair) take(t *testing.T) (api.Item, api.Errno) {
	t.Helper()
	i, e := x.q.Take()
	want, wantError := x.r.take()
	if e != wantError || dump(i) != dump(want) {
		t.Fatalf("take: %s, error %d, not %s, error %d", short(dump(i)), e, short(dump(want)), wantError)
	}
	x.size(t)
	return i, e
}

// size checks how many items there are, and for how many there is room.
func (x *pair) size(t *testing.T) {
	t.Helper()
	n, room := x.q.Len(), x.q.Room()
	if n != len(x.r.items) || room != x.r.room-n || room < 0 {
		t.Fatalf("%d items and room for %d, not %d items of %d", n, room, len(x.r.items), x.r.room)
	}
}

// check checks all that a queue has.
func (x *pair) check(t *testing.T) {
	t.Helper()
	x.size(t)
	if l := x.q.Items(); dumps(l) != dumps(x.r.items) {
		t.Fatalf("items %s, not %s", short(dumps(l)), short(dumps(x.r.items)))
	}
	first, is := x.q.First()
	want := api.Item{}
	if len(x.r.items) > 0 {
		want = x.r.items[0]
	}
	if is != (len(x.r.items) > 0) || dump(first) != dump(want) {
		t.Fatalf("first %s, %t, not %s", short(dump(first)), is, short(dump(want)))
	}
	if b := string(x.q.Bytes()); b != x.r.bytes() {
		t.Fatalf("bytes %s, not %s", short(b), short(x.r.bytes()))
	}
}

// again goes on with the queue that is read from the bytes.
func (x *pair) again(t *testing.T) {
	t.Helper()
	x.q = read(t, string(x.q.Bytes()))
	x.check(t)
}

// read returns the queue of some bytes.
func read(t *testing.T, b string) *queue.Queue {
	t.Helper()
	q, e := queue.Read([]byte(b))
	if e != api.OK || q == nil {
		t.Fatalf("read of %s: a queue %t, error %d", short(b), q != nil, e)
	}
	return q
}

// bad checks that bytes are not those of a queue.
func bad(t *testing.T, b string) {
	t.Helper()
	if q, e := queue.Read([]byte(b)); q != nil || e != api.ErrBad {
		t.Errorf("read of %s: a queue %t, error %d", short(b), q != nil, e)
	}
}
