package wire_test

import (
	"bytes"
	"hash/crc32"
	"math"
	"strings"
	"testing"

	"waterwheel/api"
	"waterwheel/wire"
)

// someNumbers has numbers of each length, at both ends of it.
func someNumbers() []uint64 {
	l := []uint64{0, 5, 200, math.MaxUint64}
	for n := range 64 {
		l = append(l, 1<<n-1, 1<<n, 1<<n+1)
	}
	return l
}

// someSigned has signed numbers near each power of two, and the least and the
// greatest ones.
func someSigned() []int64 {
	l := []int64{math.MinInt64, math.MinInt64 + 1, math.MaxInt64 - 1, math.MaxInt64}
	for n := range 63 {
		x := int64(1) << n
		l = append(l, x-1, x, x+1, -x+1, -x, -x-1)
	}
	return l
}

// noise returns n bytes that look like chance and are always the same.
func noise(n int, seed uint64) []byte {
	b := make([]byte, n)
	for i := range b {
		seed = seed*6364136223846793005 + 1442695040888963407
		b[i] = byte(seed >> 56)
	}
	return b
}

// P1.1: Number.
func TestNumberWrites(t *testing.T) {
	for _, c := range []struct {
		x    uint64
		want []byte
	}{
		{0, []byte{0}},
		{1, []byte{1, 1}},
		{5, []byte{1, 5}},
		{255, []byte{1, 255}},
		{256, []byte{2, 0, 1}},
		{1<<16 - 1, []byte{2, 255, 255}},
		{1 << 16, []byte{3, 0, 0, 1}},
		{1<<24 + 2, []byte{4, 2, 0, 0, 1}},
		{1 << 32, []byte{5, 0, 0, 0, 0, 1}},
		{1 << 40, []byte{6, 0, 0, 0, 0, 0, 1}},
		{1 << 48, []byte{7, 0, 0, 0, 0, 0, 0, 1}},
		{1<<56 - 1, []byte{7, 255, 255, 255, 255, 255, 255, 255}},
		{1 << 56, []byte{8, 0, 0, 0, 0, 0, 0, 0, 1}},
		{0x0807060504030201, []byte{8, 1, 2, 3, 4, 5, 6, 7, 8}},
		{math.MaxUint64, []byte{8, 255, 255, 255, 255, 255, 255, 255, 255}},
	} {
		if got := wire.Number(nil, c.x); !bytes.Equal(got, c.want) {
			t.Errorf("Number of %d is %v", c.x, got)
		}
		if got := wire.Number([]byte("ab"), c.x); string(got) != "ab"+string(c.want) {
			t.Errorf("Number of %d after ab is %v", c.x, got)
		}
	}
}

// P1.1: Signed.
func TestSignedWrites(t *testing.T) {
	for _, c := range []struct {
		x    int64
		want []byte
	}{
		{0, []byte{0}},
		{-1, []byte{1, 1}},
		{1, []byte{1, 2}},
		{-2, []byte{1, 3}},
		{127, []byte{1, 254}},
		{-128, []byte{1, 255}},
		{128, []byte{2, 0, 1}},
		{math.MaxInt64, []byte{8, 254, 255, 255, 255, 255, 255, 255, 255}},
		{math.MinInt64, []byte{8, 255, 255, 255, 255, 255, 255, 255, 255}},
		{math.MinInt64 + 1, []byte{8, 253, 255, 255, 255, 255, 255, 255, 255}},
	} {
		if got := wire.Signed(nil, c.x); !bytes.Equal(got, c.want) {
			t.Errorf("Signed of %d is %v", c.x, got)
		}
		if got := wire.Signed([]byte("ab"), c.x); string(got) != "ab"+string(c.want) {
			t.Errorf("Signed of %d after ab is %v", c.x, got)
		}
	}
}

// P1.1: Truth.
func TestTruthWrites(t *testing.T) {
	if got := wire.Truth(nil, true); !bytes.Equal(got, []byte{1}) {
		t.Error(got)
	}
	if got := wire.Truth([]byte{7, 8}, false); !bytes.Equal(got, []byte{7, 8, 0}) {
		t.Error(got)
	}
}

// P1.1: Text.
func TestTextWrites(t *testing.T) {
	for s, want := range map[string]string{
		"":                       "\x00",
		"abc":                    "\x01\x03abc",
		"\x00\xff":               "\x01\x02\x00\xff",
		strings.Repeat("x", 256): "\x02\x00\x01" + strings.Repeat("x", 256),
	} {
		if got, e := wire.Text(nil, s); string(got) != want || e != api.OK {
			t.Errorf("Text of %q is %q, %d", s, got, e)
		}
		if got, e := wire.Text([]byte("ab"), s); string(got) != "ab"+want || e != api.OK {
			t.Errorf("Text of %q after ab is %q, %d", s, got, e)
		}
	}
}

// P1.1: Text at its limit, and above it.
func TestTextLimit(t *testing.T) {
	most := strings.Repeat("m", api.MaxText)
	if got, e := wire.Text([]byte("a"), most); e != api.OK || string(got) != "a\x03\x00\x00\x10"+most {
		t.Error(len(got), e)
	}
	for _, more := range []string{most + "m", most + most} {
		if got, e := wire.Text([]byte("a"), more); e != api.ErrLong || len(got) != 0 {
			t.Error(len(got), e)
		}
	}
}

// P1.1: Sum, compared with its definition and with the library's.
func TestSum(t *testing.T) {
	if s := wire.Sum([]byte("123456789")); s != 3808858755 {
		t.Error(s)
	}
	if a, b, c := wire.Sum(), wire.Sum(nil), wire.Sum(nil, []byte{}); a != 0 || b != 0 || c != 0 {
		t.Error(a, b, c)
	}
	castagnoli := crc32.MakeTable(crc32.Castagnoli)
	for n := range 300 {
		b := noise(n, uint64(n))
		want := slowSum(b)
		if got := wire.Sum(b); got != want || got != crc32.Checksum(b, castagnoli) {
			t.Errorf("Sum of %d bytes is %d, not %d", n, got, want)
		}
		for _, at := range []int{0, n / 3, n} {
			if got := wire.Sum(b[:at], nil, b[at:n-(n-at)/2], b[n-(n-at)/2:]); got != want {
				t.Errorf("Sum of %d bytes cut at %d is %d, not %d", n, at, got, want)
			}
		}
	}
	for c := range 256 {
		b := []byte{byte(c)}
		if got, want := wire.Sum(b), slowSum(b); got != want {
			t.Errorf("Sum of byte %d is %d, not %d", c, got, want)
		}
	}
}

// slowSum is the sum as the chapter describes it.
func slowSum(b []byte) uint32 {
	sum := uint32(math.MaxUint32)
	for _, c := range b {
		sum ^= uint32(c)
		for range 8 {
			odd := sum&1 == 1
			sum >>= 1
			if odd {
				sum ^= 2197175160
			}
		}
	}
	return ^sum
}

// P1.1: Frame.
func TestFrameWrites(t *testing.T) {
	for _, s := range []string{"", "abc", string(noise(256, 1)), string(noise(70000, 2))} {
		n := len(s)
		size := string([]byte{byte(n), byte(n >> 8), byte(n >> 16), 0})
		sum := slowSum([]byte(size + s))
		want := size + string([]byte{byte(sum), byte(sum >> 8), byte(sum >> 16), byte(sum >> 24)}) + s
		if got, e := wire.Frame([]byte(s)); e != api.OK || string(got) != want {
			t.Errorf("Frame of %d bytes is %v, %d", n, got[:8], e)
		}
	}
	if got, e := wire.Frame(nil); e != api.OK || len(got) != 8 {
		t.Error(got, e)
	}
}

// P1.1: Frame and Unframe at their limit, and above it.
func TestFrameLimit(t *testing.T) {
	most := noise(api.MaxFrame, 3)
	f, e := wire.Frame(most)
	if e != api.OK || len(f) != 8+api.MaxFrame || !bytes.Equal(f[:4], []byte{0, 0, 64, 0}) {
		t.Fatal(len(f), e)
	}
	if p, n, e := wire.Unframe(f); e != api.OK || n != len(f) || !bytes.Equal(p, most) {
		t.Error(len(p), n, e)
	}
	if f, e := wire.Frame(make([]byte, api.MaxFrame+1)); e != api.ErrLong || len(f) != 0 {
		t.Error(len(f), e)
	}
}

// P1.1: Unframe reads the frame at the beginning, whatever follows.
func TestUnframeReads(t *testing.T) {
	for _, s := range []string{"", "a", "abc", string(noise(1000, 4))} {
		f, _ := wire.Frame([]byte(s))
		for _, rest := range []string{"", "x", string(f)} {
			p, n, e := wire.Unframe([]byte(string(f) + rest))
			if e != api.OK || n != len(f) || string(p) != s {
				t.Errorf("Unframe of %q and %q is %q, %d, %d", f, rest, p, n, e)
			}
		}
	}
}

// P1.1: the errors of Unframe, and which one comes first.
func TestUnframeErrors(t *testing.T) {
	f, _ := wire.Frame([]byte("abc"))
	for n := range f {
		wantUnframe(t, f[:n], api.ErrMore)
	}
	for at := range f[4:] {
		bad := bytes.Clone(f)
		bad[4+at] ^= 16
		wantUnframe(t, bad, api.ErrBad)
		wantUnframe(t, bad[:len(bad)-1], api.ErrMore)
	}
	shorter := bytes.Clone(f)
	shorter[0] = 2
	wantUnframe(t, shorter, api.ErrBad)
	wantUnframe(t, make([]byte, 8), api.ErrBad)

	wantUnframe(t, nil, api.ErrMore)
	wantUnframe(t, []byte{1, 0, 64}, api.ErrMore)
	wantUnframe(t, []byte{0, 0, 64, 0}, api.ErrMore)
	wantUnframe(t, []byte{1, 0, 64, 0}, api.ErrBad)
	wantUnframe(t, []byte{255, 255, 255}, api.ErrMore)
	wantUnframe(t, []byte{255, 255, 255, 255}, api.ErrBad)
	wantUnframe(t, []byte{0, 0, 0, 128, 0, 0, 0, 0}, api.ErrBad)

	above := make([]byte, 8+api.MaxFrame+1)
	above[0], above[2] = 1, 64
	sum := slowSum(append(above[:4:4], above[8:]...))
	for i := range 4 {
		above[4+i] = byte(sum >> (8 * i))
	}
	wantUnframe(t, above, api.ErrBad)
}

func wantUnframe(t *testing.T, b []byte, want api.Errno) {
	t.Helper()
	if p, n, e := wire.Unframe(b); e != want || len(p) != 0 || n != 0 {
		t.Errorf("Unframe of %d bytes is %q, %d, %d, not error %d", len(b), p, n, e, want)
	}
}

// P1.1 with rule 3: what is returned is new memory, and no argument changes.
func TestWritersShareNothing(t *testing.T) {
	for name, write := range map[string]func(b []byte) []byte{
		"Number": func(b []byte) []byte { return wire.Number(b, 70000) },
		"Signed": func(b []byte) []byte { return wire.Signed(b, -70000) },
		"Truth":  func(b []byte) []byte { return wire.Truth(b, true) },
		"Text": func(b []byte) []byte {
			got, _ := wire.Text(b, "text")
			return got
		},
		"Frame": func(b []byte) []byte {
			got, _ := wire.Frame(b)
			return got
		},
	} {
		given := []byte("0123456789012345678901234567890123456789")
		got := write(given[:10])
		want := string(got)
		if string(given) != "0123456789012345678901234567890123456789" {
			t.Errorf("%s changed what it was given: %q", name, given)
		}
		clear(given)
		if string(got) != want {
			t.Errorf("%s keeps what it was given: %q", name, got)
		}
		spare := got[:cap(got)]
		for i := range spare {
			spare[i] = 1
		}
		if !bytes.Equal(given, make([]byte, len(given))) {
			t.Errorf("%s returned what it was given: %v", name, given)
		}
	}
}

// P1.1 with rule 3: what Unframe returns is new memory, and b does not change.
func TestUnframeSharesNothing(t *testing.T) {
	f, _ := wire.Frame([]byte("abc"))
	given := append(bytes.Clone(f), "more"...)
	p, _, _ := wire.Unframe(given)
	if string(given) != string(f)+"more" {
		t.Error("Unframe changed what it was given:", given)
	}
	clear(given)
	if string(p) != "abc" {
		t.Error("Unframe keeps what it was given:", p)
	}
	spare := p[:cap(p)]
	for i := range spare {
		spare[i] = 1
	}
	if !bytes.Equal(given, make([]byte, len(given))) {
		t.Error("Unframe returned what it was given:", given)
	}
}

// P1.1 with rule 3: Sum changes nothing.
func TestSumChangesNothing(t *testing.T) {
	a, b := []byte("abcdef"), []byte("ghi")
	want := wire.Sum([]byte("abcghi"))
	if got := wire.Sum(a[:3], b); got != want || string(a) != "abcdef" || string(b) != "ghi" {
		t.Error(got, want, a, b)
	}
}
