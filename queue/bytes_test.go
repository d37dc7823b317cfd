package queue_test

import (
	"math"
	"slices"
	"strings"
	"testing"

	"waterwheel/api"
	"waterwheel/queue"
)

// The bytes of a key of labels, and of that of a series, given by hand.
const (
	ax    = "\x01\x06\x01\x01a\x01\x01x"
	cpu   = "\x01\x05\x01\x03cpu"
	cpuAX = "\x01\x0b\x01\x03cpu\x01\x01a\x01\x01x"
)

// wantBytes checks the bytes, given by hand, and that they are read.
func (x *pair) wantBytes(t *testing.T, want string) {
	t.Helper()
	if b := string(x.q.Bytes()); b != want {
		t.Errorf("bytes %q, not %q", b, want)
	}
	x.check(t)
	x.q = read(t, want)
	x.check(t)
}

// P19.2: bytes given by hand.
func TestBytes(t *testing.T) {
	x := made(t, 5)
	x.wantBytes(t, "\x01\x05\x00")
	x.put(t, pass(0), pass(7))
	x.wantBytes(t, "\x01\x05\x01\x02"+"\x01\x02\x00"+"\x01\x02\x01\x07")
	x.put(t, of(3, -1))
	x.wantBytes(t, "\x01\x05\x01\x03"+"\x01\x02\x00"+"\x01\x02\x01\x07"+"\x01\x01\x01\x0b"+cpu+"\x01\x03\x01\x01")
	x.take(t)
	x.take(t)
	x.put(t, of(300, 0, "a", "x"))
	x.wantBytes(t, "\x01\x05\x01\x02"+"\x01\x01\x01\x0b"+cpu+"\x01\x03\x01\x01"+"\x01\x01\x01\x11"+cpuAX+"\x02\x2c\x01\x00")
	x = made(t, 4096)
	x.wantBytes(t, "\x02\x00\x10\x00")
	x.put(t, at(5), at(300, put(-2, "a", "x"), gone("a", "x"), over("a", "x"), put(0), over(), gone()))
	x.wantBytes(t, "\x02\x00\x10\x01\x02"+"\x01\x03\x01\x05\x00"+"\x01\x03\x02\x2c\x01\x01\x06"+
		ax+"\x00\x00\x01\x03"+ax+"\x01"+ax+"\x00\x01"+"\x00\x00\x00\x00"+"\x00\x00\x01"+"\x00\x01")
	x = made(t, 1)
	x.put(t, pass(1<<40))
	x.wantBytes(t, "\x01\x01\x01\x01"+"\x01\x02\x06\x00\x00\x00\x00\x00\x01")
	x.take(t)
	x.put(t, at(1<<40, put(math.MinInt64, "b", "y", "c", "z")))
	x.wantBytes(t, "\x01\x01\x01\x01"+"\x01\x03\x06\x00\x00\x00\x00\x00\x01\x01\x01"+"\x01\x0c\x01\x01b\x01\x01y\x01\x01c\x01\x01z"+"\x00\x00\x08\xff\xff\xff\xff\xff\xff\xff\xff")
}

// P19.2: items that are valid, or not, alone and after another one.
func TestReadItems(t *testing.T) {
	// An item that is not valid may have the bytes of one that is: where something is
	// gone or over, no number is written.
	count := 0
	for _, i := range append(all(), api.Item{Kind: 0}, api.Item{Kind: 4}, api.Item{Kind: -1}, api.Item{Kind: math.MinInt}, api.Item{Kind: 1<<32 + 2, Batch: at(5).Batch}) {
		for _, l := range [][]api.Item{{i}, {pass(5), i}, {i, pass(5)}, {i, i, i}} {
			if tryRead(t, reference{room: 3, items: l}.bytes()) != nil {
				count++
			}
		}
	}
	if n := len(good(all())); n < 50 || count < 4*n {
		t.Errorf("%d of %d items are read", count, n)
	}
}

// P19.2: rooms and numbers of items that are valid, or not.
func TestReadRooms(t *testing.T) {
	for _, room := range []int{math.MinInt, -1, 0, 1, 2, 3, 255, 256, 4095, 4096, 4097, 65536, 1 << 32, math.MaxInt} {
		for _, n := range []int{0, 1, 2, 3, 4095, 4096, 4097} {
			r := reference{room: room, items: slices.Repeat([]api.Item{pass(3)}, n)}
			x := tryRead(t, r.bytes())
			if (x != nil) != (room >= max(n, 1) && room <= 4096) {
				t.Errorf("%d items of %d: read %t", n, room, x != nil)
			}
			if x != nil {
				x.put(t, pass(4))
				x.take(t)
				x.check(t)
			}
		}
	}
}

// P19.2: a batch with more changes than a vector has results.
func TestReadMany(t *testing.T) {
	x := made(t, 2)
	l := slices.Repeat([]api.Change{put(1), gone("a", "x"), over("a", "x")}, 5000)
	x.put(t, at(5, l...), at(5, l...))
	x.again(t)
	l[14999] = put(1, "a", "")
	bad(t, reference{room: 2, items: []api.Item{at(5, l...)}}.bytes())
}

// states returns references of queues that have something.
func states() []reference {
	return []reference{
		{room: 3, items: []api.Item{of(8, 4, "a", "x"), pass(300), at(5, put(-300, "a", "x"), gone("b", "y"), over(), put(0))}},
		{room: 4096, items: []api.Item{at(1), at(1 << 40), of(1<<40, math.MinInt64), pass(0)}},
		{room: 1}, {room: 256, items: []api.Item{pass(1)}},
	}
}

// P19.2: bytes that are cut off, or have something behind them.
func TestReadCut(t *testing.T) {
	bad(t, "")
	if q, e := queue.Read(nil); q != nil || e != api.ErrBad {
		t.Errorf("read of nil: a queue %t, error %d", q != nil, e)
	}
	for _, r := range states() {
		b := r.bytes()
		if tryRead(t, b) == nil {
			t.Errorf("%s is not read", short(b))
		}
		for n := range len(b) {
			bad(t, b[:n])
		}
		for _, more := range []string{"\x00", "\x01", "\x01\x02\x00", b} {
			bad(t, b+more)
		}
	}
}

// P19.2: each byte changed in each way: what is read has those bytes, and is what
// they say.
func TestReadChanged(t *testing.T) {
	count, size := 0, 0
	for _, r := range states() {
		b := r.bytes()
		size += len(b)
		for i := range b {
			for c := range 256 {
				changed := []byte(b)
				changed[i] = byte(c)
				if tryRead(t, string(changed)) != nil {
					count++
				}
			}
		}
	}
	if count < 5*size {
		t.Errorf("only %d queues of %d bytes", count, size)
	}
}

// P19.2: bytes changed, inserted or removed, in ways that look like chance.
func TestReadChance(t *testing.T) {
	d, count := dice(4), 0
	for range 20000 {
		for _, r := range states() {
			b := []byte(r.bytes())
			for range 1 + d.of(3) {
				i := d.of(len(b))
				switch d.of(4) {
				case 0:
					b = slices.Delete(b, i, i+1)
				case 1:
					b = slices.Insert(b, i, byte(d.of(4)))
				case 2:
					b[i] = byte(d.of(256))
				case 3:
					b[i] += byte(d.of(3)) - 1
				}
				if len(b) == 0 {
					break
				}
			}
			if tryRead(t, string(b)) != nil {
				count++
			}
		}
	}
	if count < 1000 {
		t.Errorf("only %d queues", count)
	}
}

// P19.2: fewer or more of something than the bytes say, and numbers that are not
// written as they should be.
func TestReadNumbers(t *testing.T) {
	for _, n := range []string{"", "\x00", "\x01\x01", "\x01\x02", "\x01\x03", "\x01\x04", "\x01\x05", "\x01\x08", "\x01\x0b", "\x01\xff", "\x02\x02\x00", "\x02\x00\x10", "\x02\x01\x10",
		"\x04\x02\x00\x00\x80", "\x05\x02\x00\x00\x00\x01", "\x06\x00\x00\x00\x00\x00\x01", "\x06\x01\x00\x00\x00\x00\x01", "\x08\x02\x00\x00\x00\x00\x00\x00\x80",
		"\x08\xff\xff\xff\xff\xff\xff\xff\xff", "\x08\x01\x00\x00\x00\x00\x00\x00\x80", "\x09", "\x09\x01\x01\x01\x01\x01\x01\x01\x01\x01", "\x01\x00", "\xff"} {
		for _, b := range []string{
			n + "\x00", n + "\x01\x01\x01\x02\x00", "\x01\x03" + n, "\x01\x03" + n + "\x01\x02\x01\x05", "\x01\x03" + n + "\x01\x02\x00\x01\x02\x00",
			"\x01\x03\x01\x01" + n + "\x00", "\x01\x03\x01\x01" + n + "\x01\x05\x00", "\x01\x03\x01\x01\x01\x02" + n, "\x01\x03\x01\x01\x01\x03" + n + "\x00",
			"\x01\x03\x01\x01\x01\x03\x01\x05" + n, "\x01\x03\x01\x01\x01\x03\x01\x05" + n + "\x00\x01", "\x01\x03\x01\x01\x01\x03\x01\x05" + n + "\x00\x01\x00\x01",
			"\x01\x03\x01\x01\x01\x03\x01\x05\x01\x01" + n + "\x01", "\x01\x03\x01\x01\x01\x03\x01\x05\x01\x01\x00" + n, "\x01\x03\x01\x01\x01\x03\x01\x05\x01\x01\x00\x00" + n,
			"\x01\x03\x01\x01\x01\x03\x01\x05\x01\x01\x00\x00\x00" + n, "\x01\x03\x01\x01\x01\x01" + n + cpu + "\x01\x03\x01\x01",
			"\x01\x03\x01\x01\x01\x01" + text(n+cpu[2:]+"\x01\x03\x01\x01"), "\x01\x03\x01\x01\x01\x01" + text(cpu+n+"\x01\x01"), "\x01\x03\x01\x01\x01\x01" + text(cpu+"\x01\x03"+n),
			"\x01\x03\x01\x01\x01\x01" + text(text(n+"cpu")+"\x01\x03\x01\x01"),
		} {
			tryRead(t, b)
		}
	}
	one := "\x01\x03\x01\x01\x01\x03\x01\x05\x01\x01"
	for _, change := range []string{
		"\x00\x00\x00\x01\x02", "\x00\x00\x01", "\x00\x01", "\x00\x02", "\x00\x01\x00", "\x00\x00\x02", "\x00\x00\x00\x02\x02\x00", "\x01\x00\x00\x01\x02", "\x00\x00\x00\x09",
		"\x01\x07\x02\x01\x00a\x01\x01x\x01", "\x01\x07\x01\x01a\x01\x01x\x00\x01", "\x01\x06\x01\x01a\x01\x02x\x01", "\x01\x03\x01\x01a\x01", "\x01\x05\x01\x01a\x01\x01x\x01",
		"\x02\x06\x00\x01\x01a\x01\x01x\x01", ax + "\x01", ax + "\x00\x01", ax + "\x00\x00\x00", cpu + "\x01", text("\x01\x01m") + "\x01", text("\x01\x01m"+ax[2:]) + "\x01",
		text(strings.Repeat("\x00", 1<<20)) + "\x01", text(strings.Repeat("\x00", 1<<20+1)) + "\x01",
	} {
		tryRead(t, one+change)
		tryRead(t, "\x01\x03\x01\x02\x01\x02\x01\x07"+one[4:]+change)
	}
	if tryRead(t, one+ax+"\x01") == nil {
		t.Error("a queue is not read")
	}
}

// T6: a queue that is read has the same bytes, and goes on in the same way.
func TestReadContinues(t *testing.T) {
	d := dice(5)
	for range 300 {
		x := made(t, 1+d.of(9))
		for range 20 {
			x.put(t, d.items(3)...)
			if d.of(2) == 0 {
				x.take(t)
			}
			y := &pair{read(t, string(x.q.Bytes())), x.r}
			y.check(t)
			for y.q.Room() > 0 {
				y.put(t, d.item())
			}
			y.put(t, pass(1))
			for y.q.Len() > 0 {
				y.take(t)
			}
			y.take(t)
			y.check(t)
			x.check(t)
		}
	}
}
