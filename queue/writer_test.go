package queue_test

import (
	"encoding/binary"
	"strings"

	"waterwheel/api"
)

// number returns a number as the bytes of it.
func number(x uint64) string {
	s := strings.TrimRight(string(binary.LittleEndian.AppendUint64(nil, x)), "\x00")
	return string([]byte{byte(len(s))}) + s
}

// whole returns a number that should not be below 0 as the bytes of it.
func whole[T int | int64](n T) string {
	return number(uint64(n))
}

// signed returns a signed number as the bytes of it.
func signed(x int64) string {
	if x < 0 {
		return number(^(uint64(x) << 1))
	}
	return number(uint64(x) << 1)
}

// text returns a text as the bytes of it.
func text(s string) string {
	return number(uint64(len(s))) + s
}

// key returns the key of labels.
func key(l []api.Label) (s string) {
	for _, x := range l {
		s += text(x.Name) + text(x.Text)
	}
	return s
}

// truth returns a bool as the bytes of it.
func truth(is bool) string {
	if is {
		return "\x01"
	}
	return "\x00"
}

// value returns a value as the bytes of it.
func value(v api.Value) string {
	if v.Over {
		return "\x01"
	}
	return "\x00" + signed(v.N)
}

// itemBytes returns the bytes of an item, also of one that is not valid.
func itemBytes(i api.Item) string {
	s := whole(i.Kind)
	switch i.Kind {
	case 1:
		x := i.Sample
		return s + text(text(text(x.Metric)+key(x.Labels))+whole(x.Time)+signed(x.N))
	case 2:
		return s + whole(i.Time)
	}
	var b strings.Builder
	b.WriteString(s + whole(i.Batch.Time) + whole(len(i.Batch.Changes)))
	for _, c := range i.Batch.Changes {
		b.WriteString(text(key(c.Labels)) + truth(c.Gone))
		if !c.Gone {
			b.WriteString(value(c.Value))
		}
	}
	return b.String()
}

// bytes says what Bytes says. It returns bytes also if there is no such queue.
func (r reference) bytes() string {
	var b strings.Builder
	b.WriteString(whole(r.room) + whole(len(r.items)))
	for _, i := range r.items {
		b.WriteString(itemBytes(i))
	}
	return b.String()
}
