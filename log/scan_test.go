package log_test

import (
	"bytes"
	"slices"
	"strings"
	"testing"

	"waterwheel/api"
	"waterwheel/log"
	"waterwheel/wire"
)

// checkScan compares Scan with the reference, and returns what there is.
func checkScan(t *testing.T, b string) (l []string, whole int, e api.Errno) {
	t.Helper()
	s, n, e := log.Scan([]byte(b))
	l, whole, want := scanned(b)
	if !slices.Equal(textsOf(s), l) || n != whole || e != want {
		t.Fatalf("%q: %q, %d bytes, error %d; not %q, %d, %d", b, s, n, e, l, whole, want)
	}
	return l, whole, e
}

// P23.1: frames, by hand.
func TestScan(t *testing.T) {
	a, bc, none := framed("a"), framed("bc"), framed("")
	for _, c := range []struct {
		b     string
		l     []string
		whole int
		e     api.Errno
	}{
		{"", nil, 0, api.OK},
		{a, []string{"a"}, 9, api.OK},
		{none, []string{""}, 8, api.OK},
		{a + none + bc, []string{"a", "", "bc"}, 27, api.OK},
		{a + bc[:9], []string{"a"}, 9, api.OK},
		{a + bc[:1], []string{"a"}, 9, api.OK},
		{"\x01", nil, 0, api.OK},
		{"\x00\x00\x40\x00", nil, 0, api.OK},
		{"\x01\x00\x40", nil, 0, api.OK},
		{"\x01\x00\x40\x00", nil, 0, api.ErrBad},
		{"\xff\xff\xff\xff", nil, 0, api.ErrBad},
		{a + "\x01\x00\x40\x00", []string{"a"}, 9, api.ErrBad},
		{a + bc[:9] + "x", []string{"a"}, 9, api.ErrBad},
		{a + bc[:9] + "x" + a, []string{"a"}, 9, api.ErrBad},
		{a + strings.Repeat("\x00", 8), []string{"a"}, 9, api.ErrBad},
		{a + strings.Repeat("\x00", 7), []string{"a"}, 9, api.OK},
	} {
		s, n, e := log.Scan([]byte(c.b))
		if !slices.Equal(textsOf(s), c.l) || n != c.whole || e != c.e {
			t.Errorf("%q: %q, %d bytes, error %d", c.b, s, n, e)
		}
		checkScan(t, c.b)
	}
	if s, n, e := log.Scan(nil); len(s) != 0 || n != 0 || e != api.OK {
		t.Error(s, n, e)
	}
}

// P23.1: frames cut off at each byte, and with each byte changed.
func TestScanDamaged(t *testing.T) {
	b := framed("first", "", "\x00\x01", "in "+framed("x"), "last")
	for n := range len(b) + 1 {
		if _, _, e := checkScan(t, b[:n]); e != api.OK {
			t.Errorf("%d bytes: error %d", n, e)
		}
		checkScan(t, b[n:])
	}
	bad := 0
	for n := range len(b) {
		for c := range 256 {
			changed := []byte(b)
			changed[n] = byte(c)
			if _, _, e := checkScan(t, string(changed)); e == api.ErrBad {
				bad++
			}
		}
	}
	if bad < len(b)*200 {
		t.Errorf("only %d are bad", bad)
	}
	d := dice(1)
	for range 20000 {
		checkScan(t, d.bytes()+pick(&d, "", d.bytes(), "\x00", framed("end")))
	}
}

// P23.1: the longest record, and one that is too long; many records.
func TestScanLong(t *testing.T) {
	p := bytes.Repeat([]byte{7}, api.MaxFrame)
	b, e := wire.Frame(p)
	if e != api.OK {
		t.Fatal(e)
	}
	both := slices.Concat(b, b)
	if s, n, e := log.Scan(both); len(s) != 2 || !bytes.Equal(s[1], p) || n != len(both) || e != api.OK {
		t.Error(len(s), n, e)
	}
	if s, n, e := log.Scan(both[:len(both)-1]); len(s) != 1 || n != len(b) || e != api.OK {
		t.Error(len(s), n, e)
	}
	both[len(both)-1]++
	if s, n, e := log.Scan(both); len(s) != 1 || n != len(b) || e != api.ErrBad {
		t.Error(len(s), n, e)
	}
	const many = 50000
	if s, n, e := log.Scan(bytes.Repeat([]byte(framed("abc")), many)); len(s) != many || n != 11*many || e != api.OK || string(s[many-1]) != "abc" {
		t.Error(len(s), n, e)
	}
}
