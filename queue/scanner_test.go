package queue_test

import (
	"encoding/binary"
	"testing"

	"waterwheel/api"
	"waterwheel/queue"
)

// A scanner reads what a reference writes. Once something is damaged, it is bad
// and returns zero values.
type scanner struct {
	left string
	bad  bool
}

// cut returns the next n bytes.
func (s *scanner) cut(n uint64) string {
	if s.bad || uint64(len(s.left)) < n {
		s.bad = true
		return ""
	}
	c := s.left[:n]
	s.left = s.left[n:]
	return c
}

// number reads a number.
func (s *scanner) number() uint64 {
	size := s.cut(1)
	if s.bad || size[0] > 8 {
		s.bad = true
		return 0
	}
	b := s.cut(uint64(size[0]))
	if len(b) > 0 && b[len(b)-1] == 0 {
		s.bad = true
	}
	if s.bad {
		return 0
	}
	return binary.LittleEndian.Uint64(append([]byte(b), make([]byte, 8)...))
}

// signed reads a signed number.
func (s *scanner) signed() int64 {
	x := s.number()
	if x%2 == 1 {
		return -int64(x/2) - 1
	}
	return int64(x / 2)
}

// text reads a text.
func (s *scanner) text() string {
	return s.cut(s.number())
}

// truth reads a bool.
func (s *scanner) truth() bool {
	b := s.cut(1)
	s.bad = s.bad || b[0] > 1
	return !s.bad && b[0] == 1
}

// repeat calls each as many times as the number says that is read.
func (s *scanner) repeat(each func()) {
	for n := s.number(); n > 0 && !s.bad; n-- {
		each()
	}
}

// within reads a text, of which each must read all bytes.
func (s *scanner) within(each func(in *scanner)) {
	in := &scanner{left: s.text(), bad: s.bad}
	each(in)
	s.bad = s.bad || in.bad || in.left != ""
}

// labels reads the labels of a key, which has no more bytes.
func (s *scanner) labels() (l []api.Label) {
	for !s.bad && s.left != "" {
		name := s.text()
		l = append(l, api.Label{Name: name, Text: s.text()})
	}
	return l
}

// sample reads the sample of an item.
func (s *scanner) sample() (x api.Sample) {
	s.within(func(in *scanner) {
		in.within(func(key *scanner) {
			x.Metric = key.text()
			x.Labels = key.labels()
		})
		x.Time = int64(in.number())
		x.N = in.signed()
	})
	return x
}

// batch reads the batch of an item.
func (s *scanner) batch() (b api.Batch) {
	b.Time = int64(s.number())
	s.repeat(func() {
		var c api.Change
		s.within(func(key *scanner) { c.Labels = key.labels() })
		if c.Gone = s.truth(); !c.Gone {
			if c.Over = s.truth(); !c.Over {
				c.N = s.signed()
			}
		}
		b.Changes = append(b.Changes, c)
	})
	return b
}

// scanned returns what some bytes have, and whether there is such a queue.
func scanned(b string) (r reference, is bool) {
	s := &scanner{left: b}
	r.room = int(s.number())
	s.repeat(func() {
		i := api.Item{Kind: int(s.number())}
		switch i.Kind {
		case 1:
			i.Sample = s.sample()
		case 2:
			i.Time = int64(s.number())
		case 3:
			i.Batch = s.batch()
		default:
			s.bad = true
		}
		r.items = append(r.items, i)
	})
	return r, !s.bad && s.left == "" && r.valid()
}

// tryRead reads bytes, checks whether this is possible, and if it is, checks the
// queue. It returns a pair then.
func tryRead(t *testing.T, b string) *pair {
	t.Helper()
	r, is := scanned(b)
	if !is {
		bad(t, b)
		return nil
	}
	if r.bytes() != b {
		t.Fatalf("scanned bytes %s are written as %s", short(b), short(r.bytes()))
	}
	q, e := queue.Read([]byte(b))
	if e != api.OK || q == nil {
		t.Errorf("read of %s: a queue %t, error %d", short(b), q != nil, e)
		return nil
	}
	x := &pair{q, r}
	x.check(t)
	return x
}
