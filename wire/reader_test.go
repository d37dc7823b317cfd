package wire_test

import (
	"math"
	"strings"
	"testing"

	"waterwheel/api"
	"waterwheel/wire"
)

// A call is a reading call, and whether it returned its zero value.
type call struct {
	name string
	zero func(r *wire.Reader) bool
}

func calls() []call {
	return []call{
		{"Number", func(r *wire.Reader) bool { return r.Number() == 0 }},
		{"Signed", func(r *wire.Reader) bool { return r.Signed() == 0 }},
		{"Text", func(r *wire.Reader) bool { return r.Text() == "" }},
		{"Truth", func(r *wire.Reader) bool { return !r.Truth() }},
		{"Count", func(r *wire.Reader) bool { return r.Count(math.MaxInt) == 0 }},
	}
}

// wantEnd checks what a reader tells of itself.
func wantEnd(t *testing.T, r *wire.Reader, left int, err, end api.Errno) {
	t.Helper()
	for range 2 {
		if r.Left() != left || r.Err() != err || r.End() != end {
			t.Errorf("left %d, error %d, end %d; not %d, %d, %d", r.Left(), r.Err(), r.End(), left, err, end)
		}
	}
}

// wantFault checks that a call gives an error, reads nothing, and that all
// calls behind it do the same.
func wantFault(t *testing.T, c call, b string, want api.Errno) {
	t.Helper()
	r := wire.New([]byte(b))
	if !c.zero(r) || r.Err() != want {
		t.Errorf("%s of %q: error %d, not %d", c.name, b, r.Err(), want)
	}
	for _, behind := range calls() {
		if !behind.zero(r) {
			t.Errorf("%s returned something after an error", behind.name)
		}
	}
	wantEnd(t, r, len(b), want, want)
}

// P1.2: each call reads what it is for, and moves on behind it.
func TestReads(t *testing.T) {
	r := wire.New([]byte("\x00\x01\x05\x02\x00\x01\x01\x01\x01\x02\x01\x03abc\x00\x01\x00\x01\x07!"))
	wantEnd(t, r, 21, api.OK, api.ErrBad)
	if x := r.Number(); x != 0 {
		t.Error(x)
	}
	if x := r.Number(); x != 5 {
		t.Error(x)
	}
	if x := r.Number(); x != 256 {
		t.Error(x)
	}
	wantEnd(t, r, 15, api.OK, api.ErrBad)
	if x := r.Signed(); x != -1 {
		t.Error(x)
	}
	if x := r.Signed(); x != 1 {
		t.Error(x)
	}
	if s := r.Text(); s != "abc" {
		t.Error(s)
	}
	if s := r.Text(); s != "" {
		t.Error(s)
	}
	wantEnd(t, r, 5, api.OK, api.ErrBad)
	if !r.Truth() || r.Truth() {
		t.Error("Truth")
	}
	if x := r.Count(7); x != 7 {
		t.Error(x)
	}
	wantEnd(t, r, 1, api.OK, api.ErrBad)
	if r.Truth() {
		t.Error("Truth of !")
	}
	wantEnd(t, r, 1, api.ErrBad, api.ErrBad)
}

// P1.2: the end of what is read.
func TestReaderEnds(t *testing.T) {
	wantEnd(t, wire.New(nil), 0, api.OK, api.OK)
	wantEnd(t, wire.New([]byte{}), 0, api.OK, api.OK)
	r := wire.New([]byte{1, 9})
	wantEnd(t, r, 2, api.OK, api.ErrBad)
	if x := r.Number(); x != 9 {
		t.Error("End changed something:", x)
	}
	wantEnd(t, r, 0, api.OK, api.OK)
	if x := r.Number(); x != 0 {
		t.Error(x)
	}
	wantEnd(t, r, 0, api.ErrMore, api.ErrMore)
}

// P1.2: the errors of Number are those of all calls that read a number.
func TestNumberErrors(t *testing.T) {
	for _, c := range calls() {
		wantFault(t, c, "", api.ErrMore)
		if c.name == "Truth" {
			continue
		}
		for first := range 256 {
			if first > 8 {
				wantFault(t, c, string([]byte{byte(first)}), api.ErrBad)
				wantFault(t, c, string([]byte{byte(first)})+strings.Repeat("\x01", 300), api.ErrBad)
			}
		}
		for size := 1; size <= 8; size++ {
			whole := string([]byte{byte(size)}) + strings.Repeat("\x01", size-1) + "\x00"
			wantFault(t, c, whole, api.ErrBad)
			wantFault(t, c, whole+"\x01", api.ErrBad)
			for n := 1; n < len(whole); n++ {
				wantFault(t, c, whole[:n], api.ErrMore)
				wantFault(t, c, whole[:1]+strings.Repeat("\x00", n-1), api.ErrMore)
			}
		}
	}
}

// P1.2: Number of each length.
func TestNumberLengths(t *testing.T) {
	want := uint64(0)
	for size := range 9 {
		b := string([]byte{byte(size)}) + "\x01\x02\x03\x04\x05\x06\x07\x08"[:size]
		r := wire.New([]byte(b + "more"))
		if x := r.Number(); x != want {
			t.Errorf("%d, not %d", x, want)
		}
		wantEnd(t, r, 4, api.OK, api.ErrBad)
		want |= uint64(size+1) << (8 * size)
	}
}

// P1.2: Signed at its ends.
func TestSignedEnds(t *testing.T) {
	for b, want := range map[string]int64{
		"\x00":                                 0,
		"\x01\xff":                             -128,
		"\x01\xfe":                             127,
		"\x08\xff\xff\xff\xff\xff\xff\xff\xff": math.MinInt64,
		"\x08\xfe\xff\xff\xff\xff\xff\xff\xff": math.MaxInt64,
	} {
		r := wire.New([]byte(b))
		if x := r.Signed(); x != want {
			t.Errorf("Signed of %q is %d", b, x)
		}
		wantEnd(t, r, 0, api.OK, api.OK)
	}
}

// P1.2: the errors of Text behind its length.
func TestTextErrors(t *testing.T) {
	text := calls()[2]
	wantFault(t, text, "\x01\x03ab", api.ErrMore)
	wantFault(t, text, "\x01\x01", api.ErrMore)
	wantFault(t, text, "\x03\x00\x00\x10", api.ErrMore)
	wantFault(t, text, "\x03\x01\x00\x10", api.ErrLong)
	wantFault(t, text, "\x08\xff\xff\xff\xff\xff\xff\xff\xff", api.ErrLong)
	wantFault(t, text, "\x08\x00\x00\x00\x00\x00\x00\x00\x80abc", api.ErrLong)

	most := strings.Repeat("t", api.MaxText)
	wantFault(t, text, "\x03\x00\x00\x10"+most[1:], api.ErrMore)
	wantFault(t, text, "\x03\x01\x00\x10"+most+"t", api.ErrLong)
	r := wire.New([]byte("\x03\x00\x00\x10" + most + "t"))
	if s := r.Text(); s != most {
		t.Error(len(s))
	}
	wantEnd(t, r, 1, api.OK, api.ErrBad)
}

// P1.2: the errors of Truth.
func TestTruthErrors(t *testing.T) {
	truth := calls()[3]
	for c := 2; c < 256; c++ {
		wantFault(t, truth, string([]byte{byte(c)}), api.ErrBad)
		wantFault(t, truth, string([]byte{byte(c), 1}), api.ErrBad)
	}
}

// P1.2: the limit of Count.
func TestCountLimit(t *testing.T) {
	for _, c := range []struct {
		x    uint64
		most int
		want api.Errno
	}{
		{0, 0, api.OK},
		{1, 0, api.ErrLong},
		{0, -1, api.OK},
		{1, -1, api.ErrLong},
		{1, math.MinInt, api.ErrLong},
		{0, math.MinInt, api.OK},
		{math.MaxUint64, -1, api.ErrLong},
		{7, 8, api.OK},
		{8, 8, api.OK},
		{9, 8, api.ErrLong},
		{1 << 32, 1, api.ErrLong},
		{math.MaxInt, math.MaxInt, api.OK},
		{math.MaxInt, math.MaxInt - 1, api.ErrLong},
		{math.MaxInt + 1, math.MaxInt, api.ErrLong},
		{math.MaxUint64, math.MaxInt, api.ErrLong},
	} {
		b := wire.Number(nil, c.x)
		if c.want != api.OK {
			count := call{"Count", func(r *wire.Reader) bool { return r.Count(c.most) == 0 }}
			wantFault(t, count, string(b), c.want)
			continue
		}
		r := wire.New(b)
		if x := r.Count(c.most); uint64(x) != c.x {
			t.Errorf("Count of %d, at most %d, is %d", c.x, c.most, x)
		}
		wantEnd(t, r, 0, api.OK, api.OK)
	}
}

// P1.2: the first error stays, whatever comes behind it.
func TestFirstErrorStays(t *testing.T) {
	r := wire.New([]byte{1, 7, 1, 0, 1, 1})
	if x := r.Count(6); x != 0 {
		t.Error(x)
	}
	wantEnd(t, r, 6, api.ErrLong, api.ErrLong)
	for _, c := range calls() {
		if !c.zero(r) {
			t.Error(c.name)
		}
	}
	wantEnd(t, r, 6, api.ErrLong, api.ErrLong)
}

// P1.2 with rule 7: readers that New did not return.
func TestInvalidReaders(t *testing.T) {
	for _, r := range []*wire.Reader{nil, {}, new(wire.Reader)} {
		wantEnd(t, r, 0, api.ErrNil, api.ErrNil)
		for _, c := range calls() {
			if !c.zero(r) {
				t.Error(c.name)
			}
		}
		wantEnd(t, r, 0, api.ErrNil, api.ErrNil)
	}
}

// P1.2 with rule 3: a reader keeps nothing of what New was given.
func TestNewKeepsNothing(t *testing.T) {
	given := []byte("\x01\x03abc\x01")
	r := wire.New(given[:5])
	clear(given)
	if s := r.Text(); s != "abc" {
		t.Errorf("%q", s)
	}
	wantEnd(t, r, 0, api.OK, api.OK)
	if string(given) != "\x00\x00\x00\x00\x00\x00" {
		t.Error(given)
	}
}

// P1.2: two readers of the same bytes do not depend on each other.
func TestReadersAreApart(t *testing.T) {
	b := []byte{1, 1, 9}
	r, s := wire.New(b), wire.New(b)
	r.Number()
	r.Number()
	wantEnd(t, r, 1, api.ErrBad, api.ErrBad)
	wantEnd(t, s, 3, api.OK, api.ErrBad)
	if x := s.Number(); x != 1 {
		t.Error(x)
	}
}
