package wire_test

import (
	"bytes"
	"strings"
	"testing"

	"waterwheel/api"
	"waterwheel/wire"
)

// P1.3: numbers that were written are read again.
func TestNumbersAgain(t *testing.T) {
	var b []byte
	for _, x := range someNumbers() {
		b = wire.Number(b, x)
	}
	for _, x := range someSigned() {
		b = wire.Signed(b, x)
	}
	r := wire.New(b)
	for _, x := range someNumbers() {
		if got := r.Number(); got != x {
			t.Errorf("%d, not %d", got, x)
		}
	}
	for _, x := range someSigned() {
		if got := r.Signed(); got != x {
			t.Errorf("%d, not %d", got, x)
		}
	}
	wantEnd(t, r, 0, api.OK, api.OK)
}

// P1.3: texts and bools that were written are read again.
func TestTextsAgain(t *testing.T) {
	texts := []string{"", "a", "\x00", string(noise(255, 1)), string(noise(256, 2)), strings.Repeat("é", api.MaxText/2)}
	var b []byte
	for i, s := range texts {
		b, _ = wire.Text(b, s)
		b = wire.Truth(b, i%2 == 0)
	}
	r := wire.New(b)
	for i, s := range texts {
		if got := r.Text(); got != s {
			t.Errorf("text %d has %d bytes", i, len(got))
		}
		if got := r.Truth(); got != (i%2 == 0) {
			t.Errorf("bool %d is %v", i, got)
		}
	}
	wantEnd(t, r, 0, api.OK, api.OK)
}

// P1.3: frames that were written one after the other are read again.
func TestFramesAgain(t *testing.T) {
	var b []byte
	for n := range 300 {
		f, e := wire.Frame(noise(n, uint64(n)))
		if e != api.OK {
			t.Fatal(e)
		}
		b = append(b, f...)
	}
	for i := range 300 {
		p, n, e := wire.Unframe(b)
		if e != api.OK || n != i+8 || !bytes.Equal(p, noise(i, uint64(i))) {
			t.Fatalf("frame %d is %v, %d, %d", i, p, n, e)
		}
		b = b[n:]
	}
	if len(b) != 0 {
		t.Error(len(b))
	}
}

// shortBytes calls visit with all bytes that are at most 2 long, and with
// those 3 long that begin with 0 to 9.
func shortBytes(visit func(b []byte)) {
	visit(nil)
	for a := range 256 {
		visit([]byte{byte(a)})
		for b := range 256 {
			visit([]byte{byte(a), byte(b)})
		}
	}
	for n := range 10 << 16 {
		visit([]byte{byte(n >> 16), byte(n >> 8), byte(n)})
	}
}

// P1.3: what is read was written like that, and as nothing else.
func TestNoOtherBytes(t *testing.T) {
	shortBytes(func(b []byte) {
		r := wire.New(b)
		wantSame(t, r, b, wire.Number(nil, r.Number()))
		r = wire.New(b)
		wantSame(t, r, b, wire.Signed(nil, r.Signed()))
		r = wire.New(b)
		wantSame(t, r, b, wire.Truth(nil, r.Truth()))
		r = wire.New(b)
		again, _ := wire.Text(nil, r.Text())
		wantSame(t, r, b, again)
	})
}

func wantSame(t *testing.T, r *wire.Reader, b, again []byte) {
	t.Helper()
	if r.Err() == api.OK && !bytes.Equal(b[:len(b)-r.Left()], again) {
		t.Errorf("%v was read as what is written %v", b, again)
	}
}

// P1.3: up to three changed bits behind the length are found, in all places of
// short frames.
func TestChangedBits(t *testing.T) {
	for n := range 5 {
		f, _ := wire.Frame(noise(n, 77))
		last := 8 * len(f)
		for i := 32; i < last; i++ {
			flip(f, i)
			wantUnframe(t, f, api.ErrBad)
			for j := i + 1; j < last; j++ {
				flip(f, j)
				wantUnframe(t, f, api.ErrBad)
				for k := j + 1; k < last; k++ {
					flip(f, k)
					wantUnframe(t, f, api.ErrBad)
					flip(f, k)
				}
				flip(f, j)
			}
			flip(f, i)
		}
		if _, _, e := wire.Unframe(f); e != api.OK {
			t.Error(e)
		}
	}
}

// P1.3: changed bits are found in a frame of the greatest length, too.
func TestChangedBitsOfGreatest(t *testing.T) {
	f, _ := wire.Frame(noise(api.MaxFrame, 5))
	last := 8*len(f) - 1
	for _, places := range [][]int{{32}, {last}, {32, 64, last}, {63, last - 1}, {64, last / 2, last/2 + 1}} {
		for _, at := range places {
			flip(f, at)
		}
		wantUnframe(t, f, api.ErrBad)
		for _, at := range places {
			flip(f, at)
		}
	}
	if _, _, e := wire.Unframe(f); e != api.OK {
		t.Error(e)
	}
}

// flip changes one bit of b.
func flip(b []byte, at int) {
	b[at/8] ^= 1 << (at % 8)
}
