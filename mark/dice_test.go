package mark_test

import (
	"math"

	"waterwheel/api"
)

// A dice gives numbers that look like chance.
type dice uint64

// of returns a number from 0 to n - 1.
func (d *dice) of(n int) int {
	*d = *d*6364136223846793005 + 1442695040888963407
	return int(*d >> 33 % dice(n))
}

// to returns a time from least to most.
func (d *dice) to(least, most int64) int64 {
	return least + int64(d.of(int(most-least+1)))
}

// pick returns one of l.
func pick[T any](d *dice, l ...T) T {
	return l[d.of(len(l))]
}

// number returns a number that is small, or near a limit.
func (d *dice) number() int64 {
	n := int64(d.of(7)) - 3
	return pick(d, n, n, n*10, math.MaxInt64-max(n, 0), math.MinInt64+max(n, 0), 1<<62+n, 1<<32+n)
}

// series returns a series. The keys of those with the least names are not the least.
func (d *dice) series() api.Series {
	s := api.Series{Metric: pick(d, "cpu", "m", "_9")}
	for _, name := range []string{"a", "aa"} {
		if text := pick(d, "", "x", "\x00\xff"); text != "" {
			s.Labels = append(s.Labels, api.Label{Name: name, Text: text})
		}
	}
	return s
}

// sample returns a sample that is near a time. Seldom it is not valid.
func (d *dice) sample(near, width int64) api.Sample {
	s := api.Sample{Series: d.series(), Time: d.to(near-width, near+width), N: d.number()}
	if d.of(30) == 0 {
		s.Labels = append(s.Labels, api.Label{Name: pick(d, "a", "b", ""), Text: "x"})
	}
	return s
}
