package mark_test

import (
	"encoding/binary"
	"testing"

	"waterwheel/api"
	"waterwheel/mark"
)

// A scanner reads what a reference writes. Once something is damaged, it is bad
// and returns zero values.
type scanner struct {
	left string
	bad  bool
}

// cut returns the next n bytes.
func (s *scanner) cut(n uint64) string {
	if s.bad || uint64(len(s.left)) < n {
		s.bad = true
		return ""
	}
	c := s.left[:n]
	s.left = s.left[n:]
	return c
}

// number reads a number.
func (s *scanner) number() uint64 {
	size := s.cut(1)
	if s.bad || size[0] > 8 {
		s.bad = true
		return 0
	}
	b := s.cut(uint64(size[0]))
	if len(b) > 0 && b[len(b)-1] == 0 {
		s.bad = true
	}
	if s.bad {
		return 0
	}
	return binary.LittleEndian.Uint64(append([]byte(b), make([]byte, 8)...))
}

// time reads a time, of which it does not matter here what it is.
func (s *scanner) time() int64 {
	x := s.number()
	s.bad = s.bad || x > maxTime
	return int64(min(x, maxTime))
}

// signed reads a signed number.
func (s *scanner) signed() int64 {
	x := s.number()
	if x%2 == 1 {
		return -int64(x/2) - 1
	}
	return int64(x / 2)
}

// text reads a text.
func (s *scanner) text() string {
	return s.cut(s.number())
}

// repeat calls each as many times as the number says that is read, which is at most
// most.
func (s *scanner) repeat(most uint64, each func()) {
	n := s.number()
	s.bad = s.bad || n > most
	for ; n > 0 && !s.bad; n-- {
		each()
	}
}

// within reads a text, of which each must read all bytes.
func (s *scanner) within(each func(in *scanner)) {
	in := &scanner{left: s.text(), bad: s.bad}
	each(in)
	s.bad = s.bad || in.bad || in.left != ""
}

// series reads a series.
func (s *scanner) series() (x api.Series) {
	s.within(func(key *scanner) {
		x.Metric = key.text()
		for !key.bad && key.left != "" {
			name := key.text()
			x.Labels = append(x.Labels, api.Label{Name: name, Text: key.text()})
		}
	})
	return x
}

// scanned returns what some bytes have, and whether there is such an intake.
func scanned(b string) (r reference, is bool) {
	s := &scanner{left: b}
	r.late, r.greatest, r.passed, r.floor = s.time(), s.time(), s.time(), s.time()
	s.within(func(table *scanner) {
		table.repeat(1024, func() {
			x := table.series()
			table.bad = table.bad || r.find(x) < len(r.series)
			r.series = append(r.series, x)
		})
	})
	for range r.series {
		points, last := map[int64]int64{}, int64(-1)
		s.repeat(1<<16, func() {
			time := s.time()
			points[time] = s.signed()
			s.bad = s.bad || time <= last
			last = time
		})
		r.points = append(r.points, points)
	}
	return r, !s.bad && s.left == "" && r.valid()
}

// valid says whether there is such an intake.
func (r *reference) valid() bool {
	if r.passed > r.mark() || r.floor > r.passed || (r.greatest == 0) != (len(r.series) == 0) {
		return false
	}
	at := 0
	for i, points := range r.points {
		if wrong(of(r.series[i], 1)) != api.OK {
			return false
		}
		for time := range points {
			if time <= r.floor || time > r.greatest {
				return false
			}
			if time == r.greatest {
				at++
			}
		}
	}
	return at > 0 || r.greatest <= r.floor
}

// tryRead reads bytes, checks whether this is possible, and if it is, checks the
// intake. It returns a pair then.
func tryRead(t *testing.T, b string) *pair {
	t.Helper()
	r, is := scanned(b)
	if !is {
		bad(t, b)
		return nil
	}
	if r.bytes() != b {
		t.Fatalf("scanned bytes %s are written as %s", short(b), short(r.bytes()))
	}
	i, e := mark.Read([]byte(b))
	if e != api.OK || i == nil {
		t.Errorf("read of %s: an intake %t, error %d", short(b), i != nil, e)
		return nil
	}
	x := &pair{i, r}
	x.check(t)
	return x
}
