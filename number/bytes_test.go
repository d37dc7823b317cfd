package number_test

import (
	"bytes"
	"math"
	"strings"
	"testing"

	"waterwheel/api"
	"waterwheel/number"
	"waterwheel/wire"
)

// P2.3: Bytes.
func TestBytes(t *testing.T) {
	for _, c := range []struct {
		v    api.Value
		want string
	}{
		{api.Value{}, "\x00\x00"},
		{api.Value{N: 1}, "\x00\x01\x02"},
		{api.Value{N: -1}, "\x00\x01\x01"},
		{api.Value{N: 128}, "\x00\x02\x00\x01"},
		{api.Value{N: math.MaxInt64}, "\x00\x08\xfe" + strings.Repeat("\xff", 7)},
		{api.Value{N: math.MinInt64}, "\x00\x08" + strings.Repeat("\xff", 8)},
		{isOver(), "\x01"},
		{api.Value{N: 5, Over: true}, "\x01"},
	} {
		for _, before := range []string{"", "ab", strings.Repeat("long", 1000)} {
			if got := number.Bytes([]byte(before), c.v); string(got) != before+c.want {
				t.Errorf("Bytes of %v after %d bytes is %q", c.v, len(before), got)
			}
		}
		if got := number.Bytes(nil, c.v); string(got) != c.want {
			t.Errorf("Bytes of %v after nothing is %q", c.v, got)
		}
	}
}

// P2.3 with rule 3: Bytes returns new memory, and changes nothing.
func TestBytesShareNothing(t *testing.T) {
	const digits = "0123456789012345678901234567890123456789"
	for _, v := range []api.Value{{}, {N: math.MinInt64}, isOver()} {
		given := []byte(digits)
		got := number.Bytes(given[:10], v)
		want := string(got)
		if string(given) != digits {
			t.Errorf("Bytes changed what it was given: %q", given)
		}
		clear(given)
		if string(got) != want {
			t.Errorf("Bytes keeps what it was given: %q", got)
		}
		spare := got[:cap(got)]
		for i := range spare {
			spare[i] = 1
		}
		if !bytes.Equal(given, make([]byte, len(given))) {
			t.Errorf("Bytes returned what it was given: %v", given)
		}
	}
}

// P2.3: what was written is read again, one value after the other.
func TestReadAgain(t *testing.T) {
	var b []byte
	for _, n := range someInts() {
		b = number.Bytes(b, number.Of(n))
		b = number.Bytes(b, isOver())
	}
	r := wire.New(append(b, "more"...))
	for _, n := range someInts() {
		if v, is := number.Read(r); v != number.Of(n) || !is {
			t.Errorf("%d was read as %v, %v", n, v, is)
		}
		if v, is := number.Read(r); v != isOver() || !is {
			t.Errorf("over was read as %v, %v", v, is)
		}
	}
	if r.Left() != 4 || r.Err() != api.OK {
		t.Error(r.Left(), r.Err())
	}
}

// P2.3: bytes that are no value.
func TestReadErrors(t *testing.T) {
	for b, want := range map[string]api.Errno{
		"":                                     api.ErrMore,
		"\x02":                                 api.ErrBad,
		"\xff\x00":                             api.ErrBad,
		"\x00":                                 api.ErrMore,
		"\x00\x09":                             api.ErrBad,
		"\x00\x01":                             api.ErrMore,
		"\x00\x01\x00":                         api.ErrBad,
		"\x00\x02\x05":                         api.ErrMore,
		"\x00\x02\x05\x00":                     api.ErrBad,
		"\x00\x08" + strings.Repeat("\xff", 7): api.ErrMore,
		"\x00\x08" + strings.Repeat("\xff", 7) + "\x00": api.ErrBad,
		"\x00\x09" + strings.Repeat("\xff", 9):          api.ErrBad,
	} {
		r := wire.New([]byte(b))
		if v, is := number.Read(r); v != (api.Value{}) || is || r.Err() != want {
			t.Errorf("Read of %q is %v, %v, error %d", b, v, is, r.Err())
		}
		if v, is := number.Read(r); v != (api.Value{}) || is || r.Err() != want {
			t.Errorf("Read again of %q is %v, %v, error %d", b, v, is, r.Err())
		}
	}
}

// P2.3: each beginning of a value ends too early.
func TestReadCutOff(t *testing.T) {
	for _, n := range someInts() {
		b := number.Bytes(nil, number.Of(n))
		for size := range b {
			r := wire.New(b[:size])
			if v, is := number.Read(r); v != (api.Value{}) || is || r.Err() != api.ErrMore {
				t.Errorf("Read of %v is %v, %v, error %d", b[:size], v, is, r.Err())
			}
		}
	}
}

// P2.3: a reader that has an error already, with a value left that is not read.
func TestReadAfterError(t *testing.T) {
	for b, fail := range map[string]func(r *wire.Reader){
		"\x01\x01":     func(r *wire.Reader) { r.Count(0) },
		"\x00\x01\x02": func(r *wire.Reader) { r.Truth(); r.Text() },
		"\x01":         func(r *wire.Reader) { r.Number() },
	} {
		r := wire.New([]byte(b))
		fail(r)
		left, e := r.Left(), r.Err()
		if left == 0 || e == api.OK {
			t.Fatalf("%q: %d left, error %d", b, left, e)
		}
		for range 2 {
			if v, is := number.Read(r); v != (api.Value{}) || is || r.Left() != left || r.Err() != e {
				t.Errorf("Read after error %d is %v, %v, %d left, error %d", e, v, is, r.Left(), r.Err())
			}
		}
	}
}

// P2.3: a reader that New did not return.
func TestReadInvalidReader(t *testing.T) {
	for _, r := range []*wire.Reader{nil, {}} {
		if v, is := number.Read(r); v != (api.Value{}) || is {
			t.Errorf("Read of an invalid reader is %v, %v", v, is)
		}
	}
}

// P2.3: what is read as a value was written as this value, and as no other.
func TestReadOnlyBytes(t *testing.T) {
	for first := range 4 {
		for size := range 11 {
			for last := range 256 {
				b := []byte{byte(first), byte(size), 7, byte(last), byte(last)}
				for n := range len(b) + 1 {
					wantSame(t, b[:n])
				}
			}
		}
	}
}

func wantSame(t *testing.T, b []byte) {
	t.Helper()
	r := wire.New(b)
	v, is := number.Read(r)
	if is != (r.Err() == api.OK) || number.Check(v) != api.OK {
		t.Errorf("Read of %v is %v, %v, error %d", b, v, is, r.Err())
	}
	if again := number.Bytes(nil, v); is && !bytes.Equal(again, b[:len(b)-r.Left()]) {
		t.Errorf("%v was read as %v, which is written %v", b, v, again)
	}
}
