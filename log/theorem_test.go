package log_test

import (
	"slices"
	"testing"

	"waterwheel/api"
	"waterwheel/files"
	"waterwheel/log"
)

// P23.2 to P23.4: calls that look like chance, each at whatever operation the fuse goes
// off, and with what somebody else does to the disk.
func TestChance(t *testing.T) {
	d := dice(5)
	for range 3000 {
		x := made(t, pick(&d, 30, 200, 1000, 100000), pick(&d, "x", "x", "xx", "tmp"))
		for _, c := range d.calls(40) {
			x.do(t, c)
		}
		x.sees(t)
	}
}

// few are calls that have every effect.
func few() []call {
	return []call{add("a"), add("bc", "", "d"), sync(), next("y", "z"), next(), open()}
}

// lists calls each with all lists of n calls.
func lists(n int, each func([]call)) {
	all := few()
	l := make([]call, n)
	var fill func(int)
	fill = func(at int) {
		if at == n {
			each(l)
			return
		}
		for _, c := range all {
			l[at] = c
			fill(at + 1)
		}
	}
	fill(0)
}

// P23.2, P23.3: all lists of three calls after an Open, with a fuse at each operation,
// then each crash, and an Open.
func TestLists(t *testing.T) {
	lists(3, func(l []call) {
		calls := slices.Concat([]call{open()}, l)
		for n := 0; ; n++ {
			x := made(t, 1000, "x", fuse(n))
			for _, c := range calls {
				x.one(t, c)
			}
			on := x.d.On()
			x.check(t)
			for names := range 8 {
				y := made(t, 1000, "x", fuse(n))
				for _, c := range calls {
					y.one(t, c)
				}
				y.do(t, fuse(-1), crash(names, n%30, names%20), open())
				y.sees(t)
				y.do(t, crash(0), open(), open())
				y.sees(t)
			}
			if on {
				break
			}
		}
	})
}

// A life is what the theorem says of a log: the records of the last Next or Open that
// returned, those that were appended after it, how many of these were synced, and those
// of a Next that was interrupted.
type life struct {
	first    []string
	appended []string
	synced   int
	next     []string
	inNext   bool
}

// live makes calls until one has an error. It returns what the theorem says then.
func live(l *log.Log, first []string, calls []call) *life {
	x := &life{first: first}
	for _, c := range calls {
		generation := l.Generation()
		e := c.onLog(l)
		switch {
		case c.kind == doNext && l.Generation() > generation:
			x = &life{first: c.records}
		case c.kind == doNext:
			x.next, x.inNext = c.records, true
		case c.kind == doSync && e == api.OK:
			x.synced = len(x.appended)
		case c.kind == doAppend && e == api.OK:
			x.appended = append(x.appended, c.records...)
		}
		if e != api.OK {
			break
		}
	}
	return x
}

// allows says whether the theorem allows these records after a crash.
func (x *life) allows(l []string) bool {
	if x.inNext && slices.Equal(l, x.next) {
		return true
	}
	n := len(l) - len(x.first)
	return n >= x.synced && n <= len(x.appended) && slices.Equal(l, slices.Concat(x.first, x.appended[:n]))
}

// reopens opens a log on a disk after a crash, which crashes again during the Open, for
// each of the fuses, and then once more. It returns the log, and its records.
func reopens(t *testing.T, d *files.Disk, dice *dice, fuses ...int) (*log.Log, []string) {
	t.Helper()
	var seen [][]string
	for _, n := range append(fuses, -1, -1) {
		d.Fuse(n)
		l, s, e := log.Open(d, "x")
		if e == api.OK {
			seen = append(seen, textsOf(s))
		}
		if e != api.OK && e != api.ErrOff || n < 0 && e != api.OK || l != nil && l.Err() != api.OK {
			t.Fatalf("Open: error %d", e)
		}
		if n >= 0 || len(seen) == 1 {
			d.Crash(dice.of(9), dice.parts())
			continue
		}
		for _, s := range seen {
			if !slices.Equal(s, seen[0]) {
				t.Fatalf("%q, opened once more %q", seen[0], s)
			}
		}
		return l, seen[0]
	}
	panic("the last Open returned")
}

// P23.5: all lists of four calls, with a crash at each operation, and the records after
// it, also if an Open crashes.
func TestTheorem(t *testing.T) {
	dice := dice(9)
	lists(4, func(calls []call) {
		if slices.ContainsFunc(calls, func(c call) bool { return c.kind == doOpen }) {
			return
		}
		for n := 0; ; n++ {
			on := false
			for names := range 4 {
				d, _ := files.New(1000)
				l, _, _ := log.Open(d, "x")
				d.Fuse(n)
				x := live(l, nil, calls)
				on = d.On()
				d.Crash(names, dice.parts())
				if _, s := reopens(t, d, &dice, dice.of(9)); !x.allows(s) {
					t.Fatalf("%+v, fuse %d: %q after %+v", calls, n, s, x)
				}
			}
			if on {
				break
			}
		}
	})
}

// changes returns calls that look like chance.
func (d *dice) changes(n int) (l []call) {
	for range n {
		l = append(l, pick(d, add(d.records()...), add(d.records()...), sync(), next(d.records()...)))
	}
	return l
}

// P23.5: one life after another, of logs that look like chance.
func TestTheoremChance(t *testing.T) {
	dice := dice(2)
	torn, lost, found := 0, 0, 0
	for range 500 {
		d, _ := files.New(1 << 20)
		l, first := reopens(t, d, &dice, dice.of(9), dice.of(9))
		for range 20 {
			d.Fuse(dice.of(40) - 5)
			x := live(l, first, dice.changes(dice.of(12)))
			generation := l.Generation()
			d.Crash(dice.of(9), dice.parts())
			if l, first = reopens(t, d, &dice, dice.of(12), dice.of(12)); !x.allows(first) {
				t.Fatalf("%q after %+v", first, x)
			}
			if l.Generation() > generation {
				torn++
			}
			if len(first) < len(x.first)+len(x.appended) {
				lost++
			}
			if len(first) > len(x.first)+x.synced {
				found++
			}
		}
	}
	if torn < 100 || lost < 100 || found < 100 {
		t.Errorf("%d torn, %d lost, %d found", torn, lost, found)
	}
}
