package intern_test

import (
	"slices"
	"strings"
	"testing"

	"waterwheel/api"
	"waterwheel/intern"
)

// P12.2: the bytes of a table, given by hand.
func TestBytes(t *testing.T) {
	x := filled(t, series("cpu", "a", "xy"), series("m"))
	want := "\x01\x02" +
		"\x01\x0c" + "\x01\x03cpu" + "\x01\x01a" + "\x01\x02xy" +
		"\x01\x03" + "\x01\x01m"
	if b := x.Bytes(); string(b) != want {
		t.Errorf("%q, not %q", b, want)
	}
	y, e := intern.Read([]byte(want))
	if e != api.OK {
		t.Fatalf("read: error %d", e)
	}
	check(t, y, reference{series("cpu", "a", "xy"), series("m")})
}

// checkRead checks that the bytes of these series are read as a table of them,
// which then behaves like any other.
func checkRead(t *testing.T, r reference) {
	t.Helper()
	x, e := intern.Read([]byte(r.bytes()))
	if e != api.OK {
		t.Fatalf("read of %d series: error %d", len(r), e)
	}
	check(t, x, r)
	names, texts := []string{"a", "b", "c", "z"}, []string{"", "0", "3", "x", "y", "z"}
	checkWith(t, x, r, names, texts)
	for _, metric := range []string{"a", "b", "m0", "m1", "z"} {
		checkTakes(t, x, r, window(metric))
		checkTakes(t, x, r, window(metric, is("b", "3"), not("a", "0")))
		checkTakes(t, x, r, window(metric, not("a", "x"), is("c", "")))
	}
	r = slices.Clone(r)
	for _, s := range []api.Series{series("z", "a", "x"), series("a"), series("m0", "b", "3")} {
		id, want := r.put(s)
		if got, e := x.Put(s); got != id || e != want {
			t.Fatalf("put of %q: %d, error %d, not %d, error %d", s, got, e, id, want)
		}
	}
	check(t, x, r)
	checkWith(t, x, r, names, texts)
}

// P12.3: Read of Bytes is the table, with the same numbers.
func TestRead(t *testing.T) {
	checkRead(t, nil)
	checkRead(t, limits())
	checkRead(t, few())
	for _, n := range []int{1, 2, 254, 255, 256, 257, 1000, api.MaxSeries - 1, api.MaxSeries} {
		l := many(n)
		checkRead(t, l)
		slices.Reverse(l)
		checkRead(t, l)
	}
}

// bad checks that some bytes are not those of a table.
func bad(t *testing.T, b string) {
	t.Helper()
	if x, e := intern.Read([]byte(b)); x != nil || e != api.ErrBad {
		t.Errorf("read of %s: a table %t, error %d", short(b), x != nil, e)
	}
}

// P12.2: bytes that are cut off, or have something behind them.
func TestReadCut(t *testing.T) {
	if x, e := intern.Read(nil); x != nil || e != api.ErrBad {
		t.Errorf("read of nil: a table %t, error %d", x != nil, e)
	}
	for _, r := range []reference{nil, {series("a")}, few(), limits(), many(300)} {
		b := r.bytes()
		for n := range len(b) {
			bad(t, b[:n])
		}
		for _, more := range []string{"\x00", "\x01", "a", b, text(key(series("more")))} {
			bad(t, b+more)
		}
	}
}

// P12.2: each byte changed in each way: what is read has those bytes.
func TestReadChanged(t *testing.T) {
	r := reference{series("ab", "a", "x", "b", "yz"), series("a"), series("ab", "a", "x"), series("b", "c", "d")}
	good := 0
	for i := range r.bytes() {
		for c := range 256 {
			b := []byte(r.bytes())
			b[i] = byte(c)
			x, e := intern.Read(b)
			if (e != api.OK || x == nil) && (e != api.ErrBad || x != nil) {
				t.Fatalf("read of %q: a table %t, error %d", b, x != nil, e)
			}
			if e == api.OK {
				good++
				if again := x.Bytes(); !slices.Equal(again, b) {
					t.Fatalf("read of %q has the bytes %q", b, again)
				}
			}
		}
	}
	if good < len(r.bytes()) {
		t.Errorf("only %d tables", good)
	}
}

// P12.2: more series than there may be, or fewer or more than the number says.
func TestReadCount(t *testing.T) {
	keys := func(n int) (b string) {
		for _, s := range many(n) {
			b += text(key(s))
		}
		return b
	}
	for _, n := range []int{0, 1, 2, 255, 256, api.MaxSeries - 1, api.MaxSeries} {
		if n > 0 {
			bad(t, number(n-1)+keys(n))
		}
		bad(t, number(n+1)+keys(n))
	}
	bad(t, number(api.MaxSeries+1)+keys(api.MaxSeries+1))
	bad(t, number(5000)+keys(5000))
	for _, huge := range []string{"\x04\xff\xff\xff\x7f", "\x08\x00\x00\x00\x00\x00\x00\x00\x80", "\x08\xff\xff\xff\xff\xff\xff\xff\xff", "\x05\x01\x00\x00\x00\x01"} {
		bad(t, huge)
		bad(t, huge+keys(1))
	}
}

// P12.2: a series that is there twice.
func TestReadTwice(t *testing.T) {
	for _, l := range []reference{{series("a")}, {series("a", "b", "c")}, few()} {
		for i, s := range l {
			bad(t, append(slices.Clone(l), s).bytes())
			bad(t, slices.Insert(slices.Clone(l), i, s).bytes())
		}
	}
	full := many(api.MaxSeries - 1)
	bad(t, reference(append(full, full[0])).bytes())
}

// P12.2: numbers and texts that are not written as they should be, and keys that
// are not those of a series.
func TestReadKeys(t *testing.T) {
	one := func(key string) string { return "\x01\x01" + text(key) }
	if _, e := intern.Read([]byte(one(key(series("a", "b", "c"))))); e != api.OK {
		t.Fatalf("error %d", e)
	}
	bad(t, "\x02\x01\x00"+text(key(series("a"))))
	bad(t, "\x01\x00")
	bad(t, "\x09")
	bad(t, "\x01\x01"+"\x02\x03\x00"+key(series("a")))
	bad(t, one(""))
	bad(t, one("a"))
	bad(t, one("\x01\x01"))
	bad(t, one("\x02\x01\x00a"))
	bad(t, one(key(series("a"))+"\x00"))
	bad(t, one(key(series("a"))+text("b")))
	bad(t, one(key(series("a", "b", "c"))+"\x01"))
	bad(t, "\x01\x01"+text(key(series("a"))+text("b"))+text("c"))
	for _, c := range invalids() {
		bad(t, one(key(c.s)))
		bad(t, "\x01\x02"+text(key(series("q")))+text(key(c.s)))
		bad(t, "\x01\x02"+text(key(c.s))+text(key(series("q"))))
	}
	bad(t, "\x01\x01"+"\x03\x01\x00\x10"+strings.Repeat("a", api.MaxText+1))
	bad(t, "\x01\x01"+"\x03\x00\x00\x10"+strings.Repeat("a", api.MaxText))
}
