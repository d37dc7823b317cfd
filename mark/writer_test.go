package mark_test

import (
	"encoding/binary"
	"maps"
	"slices"
	"strings"

	"waterwheel/api"
)

// number returns a number as the bytes of it.
func number(x uint64) string {
	s := strings.TrimRight(string(binary.LittleEndian.AppendUint64(nil, x)), "\x00")
	return string([]byte{byte(len(s))}) + s
}

// whole returns a number that should not be below 0 as the bytes of it.
func whole[T int | int64](n T) string {
	return number(uint64(n))
}

// signed returns a signed number as the bytes of it.
func signed(x int64) string {
	if x < 0 {
		return number(^(uint64(x) << 1))
	}
	return number(uint64(x) << 1)
}

// text returns a text as the bytes of it.
func text(s string) string {
	return number(uint64(len(s))) + s
}

// key returns the key of a series.
func key(s api.Series) string {
	k := text(s.Metric)
	for _, x := range s.Labels {
		k += text(x.Name) + text(x.Text)
	}
	return k
}

// table returns the bytes of the table of some series.
func table(l ...api.Series) string {
	var b strings.Builder
	b.WriteString(whole(len(l)))
	for _, s := range l {
		b.WriteString(text(key(s)))
	}
	return b.String()
}

// points returns the bytes of the points of a series at these times. Their numbers
// are those that of gives them.
func points(times ...int64) string {
	var b strings.Builder
	b.WriteString(whole(len(times)))
	for _, time := range times {
		b.WriteString(whole(time) + signed(3*time))
	}
	return b.String()
}

// times returns the bytes of the four times of an intake.
func times(late, greatest, passed, floor int64) string {
	return whole(late) + whole(greatest) + whole(passed) + whole(floor)
}

// bytes says what Bytes says. It returns bytes also if there is no such intake.
func (r reference) bytes() string {
	var b strings.Builder
	b.WriteString(times(r.late, r.greatest, r.passed, r.floor) + text(table(r.series...)))
	for _, points := range r.points {
		b.WriteString(whole(len(points)))
		for _, time := range slices.Sorted(maps.Keys(points)) {
			b.WriteString(whole(time) + signed(points[time]))
		}
	}
	return b.String()
}
