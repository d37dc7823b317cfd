package mark

import (
	"slices"

	"waterwheel/api"
	"waterwheel/buffer"
	"waterwheel/intern"
	"waterwheel/wire"
)

// Bytes returns an intake as bytes.
func (i *Intake) Bytes() []byte {
	if !i.valid() {
		return nil
	}
	w := &writer{}
	for _, time := range []int64{i.late, i.greatest, i.passed, i.floor} {
		w.whole(time)
	}
	w.table(i.table)
	for _, b := range i.buffers {
		w.points(b.Points())
	}
	return slices.Concat(w.parts...)
}

// A writer has the bytes of an intake in parts, because wire copies what it adds
// to.
type writer struct {
	parts [][]byte
}

// add adds a part.
func (w *writer) add(part []byte) {
	w.parts = append(w.parts, part)
}

// whole adds a number from 0 on.
func (w *writer) whole(n int64) {
	w.add(wire.Number(nil, uint64(n)))
}

// table adds the bytes of a table. Its keys are so short that even the greatest
// table is not too long for a text.
func (w *writer) table(t *intern.Table) {
	b, _ := wire.Text(nil, string(t.Bytes()))
	w.add(b)
}

// points adds the points of a series.
func (w *writer) points(l []api.Point) {
	w.whole(int64(len(l)))
	for _, p := range l {
		w.whole(p.Time)
		w.add(wire.Signed(nil, p.N))
	}
}

// Read returns the intake whose bytes are b.
func Read(b []byte) (*Intake, api.Errno) {
	r := wire.New(b)
	i, e := New(readTime(r))
	if e != api.OK || !i.readTimes(r) || !i.readTable(r) || !i.readPoints(r) || r.End() != api.OK {
		return nil, api.ErrBad
	}
	return i, api.OK
}

// readTime reads a time. A number that is none becomes one below 0, or above
// MaxTime.
func readTime(r *wire.Reader) int64 {
	return int64(r.Number())
}

// readTimes reads the times of an intake whose lateness is read, and reports whether
// they may be its times.
func (i *Intake) readTimes(r *wire.Reader) bool {
	i.greatest = readTime(r)
	i.passed = readTime(r)
	i.floor = readTime(r)
	return 0 <= i.greatest && i.greatest <= api.MaxTime &&
		0 <= i.floor && i.floor <= i.passed && i.passed <= i.Mark()
}

// readTable reads the table of an intake whose times are read, and reports whether
// it may be its table.
func (i *Intake) readTable(r *wire.Reader) bool {
	t, e := intern.Read([]byte(r.Text()))
	i.table = t
	return e == api.OK && (t.Len() == 0) == (i.greatest == 0)
}

// readPoints reads the points of an intake whose table is read, and reports whether
// they may be its points.
func (i *Intake) readPoints(r *wire.Reader) bool {
	is := i.greatest == i.floor
	for range i.Series() {
		b, all := i.readBuffer(r)
		if !all {
			return false
		}
		_, ends := b.Ends()
		is = is || ends == i.greatest
		i.buffers = append(i.buffers, b)
	}
	return is
}

// readBuffer reads the points of one series, and reports whether they may be its
// points.
func (i *Intake) readBuffer(r *wire.Reader) (*buffer.Buffer, bool) {
	b, last := buffer.New(), i.floor
	for range r.Count(api.MaxPoints) {
		time := readTime(r)
		if time <= last || time > i.greatest {
			return nil, false
		}
		b.Put(time, r.Signed())
		last = time
	}
	return b, true
}
