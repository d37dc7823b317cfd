package mark_test

import (
	"fmt"
	"maps"
	"slices"
	"strings"
	"testing"

	"waterwheel/api"
	"waterwheel/mark"
)

// maxTime is the greatest time.
const maxTime = 1 << 40

// list returns labels with these names and texts.
func list(pairs ...string) []api.Label {
	var l []api.Label
	for pair := range slices.Chunk(pairs, 2) {
		l = append(l, api.Label{Name: pair[0], Text: pair[1]})
	}
	return l
}

// series returns a series.
func series(metric string, pairs ...string) api.Series {
	return api.Series{Metric: metric, Labels: list(pairs...)}
}

// of returns a sample of a series. Its number is that of its time, times three.
func of(s api.Series, time int64) api.Sample {
	return api.Sample{Series: s, Time: time, N: 3 * time}
}

// cpu returns a sample of cpu, and mem one of mem.
func cpu(time int64) api.Sample { return of(series("cpu"), time) }

func mem(time int64) api.Sample { return of(series("mem"), time) }

// dump returns all that samples have as a text.
func dump(l ...api.Sample) string {
	var b strings.Builder
	for _, s := range l {
		fmt.Fprintf(&b, "%q %q %d %d\n", s.Metric, s.Labels, s.Time, s.N)
	}
	return b.String()
}

// short returns the beginning of what something has.
func short(x any) string {
	s := fmt.Sprintf("%q", x)
	if len(s) > 500 {
		return s[:500] + " and more"
	}
	return s
}

// isName says whether a text is a name.
func isName(s string) bool {
	const digits, others = "0123456789", "abcdefghijklmnopqrstuvwxyz_"
	return len(s) >= 1 && len(s) <= 24 && !strings.Contains(digits, s[:1]) && strings.Trim(s, digits+others) == ""
}

// isSet says whether labels are a valid set.
func isSet(l []api.Label) bool {
	for i, x := range l {
		if !isName(x.Name) || len(x.Text) < 1 || len(x.Text) > 64 || i > 0 && l[i-1].Name >= x.Name {
			return false
		}
	}
	return len(l) <= 8
}

// wrong says why a sample is not valid.
func wrong(s api.Sample) api.Errno {
	switch {
	case !isName(s.Metric):
		return api.ErrArg
	case len(s.Labels) > 8:
		return api.ErrLong
	case !isSet(s.Labels) || s.Time < 1 || s.Time > maxTime:
		return api.ErrArg
	}
	return api.OK
}

// A reference is what an intake has. It says the same as the chapter, with a map of
// points for each series.
type reference struct {
	late, greatest, passed, floor int64

	series []api.Series
	points []map[int64]int64
}

// mark says what Mark says.
func (r *reference) mark() int64 {
	if r.greatest < r.late {
		return 0
	}
	return r.greatest - r.late
}

// find returns the place of a series, or the number of series if there is none.
func (r *reference) find(s api.Series) int {
	for i, x := range r.series {
		if x.Metric == s.Metric && slices.Equal(x.Labels, s.Labels) {
			return i
		}
	}
	return len(r.series)
}

// may says what May says.
func (r *reference) may(s api.Sample) api.Errno {
	if e := wrong(s); e != api.OK {
		return e
	}
	if s.Time <= r.mark() {
		return api.ErrLate
	}
	i := r.find(s.Series)
	if i == 1024 {
		return api.ErrLong
	}
	if i == len(r.series) {
		return api.OK
	}
	if _, is := r.points[i][s.Time]; is {
		return api.ErrThere
	}
	if len(r.points[i]) == 1<<16 {
		return api.ErrLong
	}
	return api.OK
}

// put says what Put says.
func (r *reference) put(s api.Sample) api.Errno {
	if e := r.may(s); e != api.OK {
		return e
	}
	i := r.find(s.Series)
	if i == len(r.series) {
		r.series = append(r.series, series(s.Metric))
		r.series[i].Labels = slices.Clone(s.Labels)
		r.points = append(r.points, map[int64]int64{})
	}
	r.points[i][s.Time] = s.N
	r.greatest = max(r.greatest, s.Time)
	return api.OK
}

// between says what Between says.
func (r *reference) between(from, to int64) (l []api.Sample) {
	for i, points := range r.points {
		for time, n := range points {
			if time > from && time <= to {
				l = append(l, api.Sample{Series: r.series[i], Time: time, N: n})
			}
		}
	}
	slices.SortFunc(l, func(a, b api.Sample) int {
		if a.Time != b.Time {
			return int(max(min(a.Time-b.Time, 1), -1))
		}
		return r.find(a.Series) - r.find(b.Series)
	})
	return l
}

// all says what Samples says.
func (r *reference) all() []api.Sample {
	return r.between(0, 1<<62)
}

// next says what Next says: how many of those that wait are left out decides.
func (r *reference) next(most int) ([]api.Sample, int64) {
	l := r.between(r.passed, r.mark())
	if len(l) <= max(most, 0) {
		return l, r.mark()
	}
	out := l[max(most, 0)].Time
	l = slices.DeleteFunc(l, func(s api.Sample) bool { return s.Time >= out })
	if len(l) == 0 {
		return nil, r.passed
	}
	return l, out - 1
}

// pass says what Pass says.
func (r *reference) pass(to int64) api.Errno {
	if to < r.passed || to > r.mark() {
		return api.ErrArg
	}
	r.passed = to
	return api.OK
}

// trim says what Trim says.
func (r *reference) trim(floor int64) (gone int, e api.Errno) {
	if floor > r.passed {
		return 0, api.ErrArg
	}
	r.floor = max(r.floor, floor)
	for _, points := range r.points {
		before := len(points)
		maps.DeleteFunc(points, func(time, n int64) bool { return time <= floor })
		gone += before - len(points)
	}
	return gone, api.OK
}

// copied returns a copy of a reference.
func (r reference) copied() reference {
	r.series = slices.Clone(r.series)
	r.points = slices.Clone(r.points)
	for i := range r.points {
		r.points[i] = maps.Clone(r.points[i])
	}
	return r
}

// A pair is an intake with what it should be.
type pair struct {
	i *mark.Intake
	r reference
}

// made returns an intake with some samples, each of which must be accepted.
func made(t *testing.T, late int64, l ...api.Sample) *pair {
	t.Helper()
	i, e := mark.New(late)
	if e != api.OK || i == nil {
		t.Fatalf("lateness %d: an intake %t, error %d", late, i != nil, e)
	}
	x := &pair{i, reference{late: late}}
	for _, s := range l {
		if e := x.put(t, s); e != api.OK {
			t.Fatalf("put of %s: error %d", short(dump(s)), e)
		}
	}
	return x
}

// put puts a sample on both sides.
func (x *pair) put(t *testing.T, s api.Sample) api.Errno {
	t.Helper()
	may, e, want := x.i.May(s), x.i.Put(s), x.r.put(s)
	if may != want || e != want {
		t.Fatalf("may and put of %s: errors %d and %d, not %d", short(dump(s)), may, e, want)
	}
	x.times(t)
	return e
}

// pass passes on both sides.
func (x *pair) pass(t *testing.T, to int64) api.Errno {
	t.Helper()
	e, want := x.i.Pass(to), x.r.pass(to)
	if e != want {
		t.Fatalf("pass of %d: error %d, not %d", to, e, want)
	}
	x.times(t)
	return e
}

// trim trims both sides.
func (x *pair) trim(t *testing.T, floor int64) (int, api.Errno) {
	t.Helper()
	n, e := x.i.Trim(floor)
	gone, want := x.r.trim(floor)
	if n != gone || e != want {
		t.Fatalf("trim of %d: %d, error %d, not %d, error %d", floor, n, e, gone, want)
	}
	x.times(t)
	return n, e
}

// times checks all that an intake has but its samples.
func (x *pair) times(t *testing.T) {
	t.Helper()
	if m, p, n := x.i.Mark(), x.i.Passed(), x.i.Series(); m != x.r.mark() || p != x.r.passed || n != len(x.r.series) {
		t.Fatalf("mark %d, passed %d, %d series, not %d, %d, %d", m, p, n, x.r.mark(), x.r.passed, len(x.r.series))
	}
}

// next checks Next.
func (x *pair) next(t *testing.T, most int) ([]api.Sample, int64) {
	t.Helper()
	l, to := x.i.Next(most)
	want, up := x.r.next(most)
	if to != up || dump(l...) != dump(want...) {
		t.Fatalf("next %d: %s, up to %d, not %s, up to %d", most, short(dump(l...)), to, short(dump(want...)), up)
	}
	return l, to
}

// between checks Between.
func (x *pair) between(t *testing.T, from, to int64) {
	t.Helper()
	if l, want := x.i.Between(from, to), x.r.between(from, to); dump(l...) != dump(want...) {
		t.Fatalf("between %d and %d: %s, not %s", from, to, short(dump(l...)), short(dump(want...)))
	}
}

// check checks all that an intake has.
func (x *pair) check(t *testing.T) {
	t.Helper()
	x.times(t)
	if l, want := x.i.Samples(), x.r.all(); dump(l...) != dump(want...) {
		t.Fatalf("samples %s, not %s", short(dump(l...)), short(dump(want...)))
	}
	if b := string(x.i.Bytes()); b != x.r.bytes() {
		t.Fatalf("bytes %s, not %s", short(b), short(x.r.bytes()))
	}
}

// again goes on with the intake that is read from the bytes.
func (x *pair) again(t *testing.T) {
	t.Helper()
	x.i = read(t, string(x.i.Bytes()))
	x.check(t)
}

// read returns the intake of some bytes.
func read(t *testing.T, b string) *mark.Intake {
	t.Helper()
	i, e := mark.Read([]byte(b))
	if e != api.OK || i == nil {
		t.Fatalf("read of %s: an intake %t, error %d", short(b), i != nil, e)
	}
	return i
}

// bad checks that bytes are not those of an intake.
func bad(t *testing.T, b string) {
	t.Helper()
	if i, e := mark.Read([]byte(b)); i != nil || e != api.ErrBad {
		t.Errorf("read of %s: an intake %t, error %d", short(b), i != nil, e)
	}
}
