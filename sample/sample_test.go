package sample_test

import (
	"bytes"
	"math"
	"slices"
	"strings"
	"testing"

	"waterwheel/api"
	"waterwheel/label"
	"waterwheel/sample"
	"waterwheel/wire"
)

// list returns the labels with these names and texts, in this order.
func list(pairs ...string) []api.Label {
	var l []api.Label
	for pair := range slices.Chunk(pairs, 2) {
		l = append(l, api.Label{Name: pair[0], Text: pair[1]})
	}
	return l
}

// many returns a list of n labels in order.
func many(n int) []api.Label {
	var l []api.Label
	for i := range n {
		l = append(l, api.Label{Name: "n" + string(rune('a'+i)), Text: "t"})
	}
	return l
}

// most returns the longest labels there are.
func most() []api.Label {
	l := many(8)
	for i := range l {
		l[i].Name += strings.Repeat("z", 22)
		l[i].Text = strings.Repeat("\xff", 64)
	}
	return l
}

// series returns a series.
func series(metric string, l []api.Label) api.Series {
	return api.Series{Metric: metric, Labels: l}
}

// sets has valid sets.
func sets() [][]api.Label {
	return [][]api.Label{
		nil, {}, list("a", "x"), list("a", "xx"), list("aa", "x"), list("a", "x", "b", "y"),
		list("b", "y"), list("_", "\x00", "a_1", "\xff\"\\\n"), many(7), many(8), most(),
	}
}

// noSets has lists that are not valid sets.
func noSets() [][]api.Label {
	return [][]api.Label{
		list("", "x"),
		list("1a", "x"),
		list("A", "x"),
		list(strings.Repeat("a", 25), "x"),
		list("a", ""),
		list("a", strings.Repeat("x", 65)),
		list("a", "x", "b", ""),
		list("b", "x", "a", "y"),
		list("a", "x", "a", "x"),
		list("a", "x", "a", "y"),
		many(9),
		append(many(8), many(8)...),
		make([]api.Label, 9),
	}
}

// names has metrics that are names.
func names() []string {
	return []string{"a", "_", "cpu", "cpu_load_15", "_9", strings.Repeat("z", 23), strings.Repeat("z", 24)}
}

// noNames has metrics that are no names.
func noNames() []string {
	return []string{"", "7", "7a", "A", "cpu load", "é", "a\x00", " a", "a-b", strings.Repeat("z", 25), strings.Repeat("z", 1000)}
}

// serieses has valid series, all of them different.
func serieses() []api.Series {
	var l []api.Series
	for _, metric := range names() {
		for _, set := range sets()[1:] {
			l = append(l, series(metric, set))
		}
	}
	return l
}

// times has valid times.
func times() []int64 {
	return []int64{1, 2, 127, 128, 255, 256, 65535, 65536, 1 << 32, 1<<40 - 1, 1 << 40}
}

// noTimes has times that are out of range.
func noTimes() []int64 {
	return []int64{0, -1, -2, -1 << 40, 1<<40 + 1, 1<<40 + 2, 1 << 41, 1 << 62, math.MaxInt64, math.MinInt64, math.MinInt64 + 1}
}

// numbers has numbers of samples.
func numbers() []int64 {
	return []int64{0, 1, -1, 7, -7, 127, 128, -128, -129, 1 << 40, math.MaxInt64, math.MaxInt64 - 1, math.MinInt64, math.MinInt64 + 1}
}

// keyOf is the key as the chapter describes it, also of what is no series.
func keyOf(s api.Series) string {
	key, _ := wire.Text(nil, s.Metric)
	for _, x := range s.Labels {
		key, _ = wire.Text(key, x.Name)
		key, _ = wire.Text(key, x.Text)
	}
	return string(key)
}

// bytesOf is the bytes of a key, a time and a number.
func bytesOf(key string, time uint64, n int64) []byte {
	b, _ := wire.Text(nil, key)
	return wire.Signed(wire.Number(b, time), n)
}

// sameSeries reports whether two series are equal.
func sameSeries(a, b api.Series) bool {
	return a.Metric == b.Metric && slices.Equal(a.Labels, b.Labels)
}

// sameSample reports whether two samples are equal.
func sameSample(a, b api.Sample) bool {
	return sameSeries(a.Series, b.Series) && a.Time == b.Time && a.N == b.N
}

// P4.1: CheckSeries, and with it Check and Key of what is no series.
func TestCheckSeries(t *testing.T) {
	for _, s := range append(serieses(), series("a", nil)) {
		if e := sample.CheckSeries(s); e != api.OK {
			t.Errorf("CheckSeries of %q: error %d", s, e)
		}
	}
	for _, set := range noSets() {
		want := api.ErrArg
		if len(set) > 8 {
			want = api.ErrLong
		}
		wantNoSeries(t, series("cpu", set), want)
	}
	for _, metric := range noNames() {
		for _, set := range slices.Concat(sets(), noSets()) {
			wantNoSeries(t, series(metric, set), api.ErrArg)
		}
	}
	wantNoSeries(t, api.Series{}, api.ErrArg)
}

func wantNoSeries(t *testing.T, s api.Series, want api.Errno) {
	t.Helper()
	if e := sample.CheckSeries(s); e != want {
		t.Errorf("CheckSeries of %q: error %d, not %d", s, e, want)
	}
	for _, time := range []int64{1, 0, 1 << 40, 1<<40 + 1} {
		x := api.Sample{Series: s, Time: time}
		if e := sample.Check(x); e != want {
			t.Errorf("Check of %v: error %d, not %d", x, e, want)
		}
		if b, e := sample.Bytes(x); e != want || len(b) != 0 {
			t.Errorf("Bytes of %v: %q, error %d, not %d", x, b, e, want)
		}
	}
	if key := sample.Key(s); key != "" {
		t.Errorf("Key of %q is %q", s, key)
	}
}

// P4.1: each byte of a metric.
func TestCheckMetricBytes(t *testing.T) {
	for c := range 256 {
		for _, metric := range []string{string([]byte{byte(c)}), string([]byte{'a', byte(c)}), string([]byte{'_', byte(c), 'z'})} {
			s := series(metric, list("a", "x"))
			if !label.Name(metric) {
				wantNoSeries(t, s, api.ErrArg)
				wantNoKey(t, keyOf(s))
				continue
			}
			if e := sample.CheckSeries(s); e != api.OK {
				t.Errorf("CheckSeries of %q: error %d", s, e)
			}
		}
	}
}

// P4.1: Check, at the limits of times.
func TestCheck(t *testing.T) {
	for _, s := range serieses() {
		for _, n := range numbers() {
			for _, time := range times() {
				if e := sample.Check(api.Sample{Series: s, Time: time, N: n}); e != api.OK {
					t.Errorf("Check of %q at %d: error %d", s, time, e)
				}
			}
			for _, time := range noTimes() {
				x := api.Sample{Series: s, Time: time, N: n}
				if e := sample.Check(x); e != api.ErrArg {
					t.Errorf("Check of %q at %d: error %d", s, time, e)
				}
				if b, e := sample.Bytes(x); e != api.ErrArg || len(b) != 0 {
					t.Errorf("Bytes of %q at %d: %q, error %d", s, time, b, e)
				}
			}
		}
	}
}

// P4.1: Key.
func TestKey(t *testing.T) {
	long, text := strings.Repeat("z", 24), strings.Repeat("x", 64)
	for _, c := range []struct {
		s    api.Series
		want string
	}{
		{series("cpu", nil), "\x01\x03cpu"},
		{series("cpu", []api.Label{}), "\x01\x03cpu"},
		{series("cpu", list("a", "x")), "\x01\x03cpu\x01\x01a\x01\x01x"},
		{series("cpu", list("a", "x", "b", "\x00y")), "\x01\x03cpu\x01\x01a\x01\x01x\x01\x01b\x01\x02\x00y"},
		{series(long, list(long, text)), "\x01\x18" + long + "\x01\x18" + long + "\x01\x40" + text},
	} {
		if key := sample.Key(c.s); key != c.want {
			t.Errorf("Key of %q is %q", c.s, key)
		}
	}
}

// P4.1, P4.3: Parse of Key is the series, and different series have different
// keys.
func TestParseOfKey(t *testing.T) {
	all := append(serieses(),
		series("a", list("b", "c")),
		series("a", list("b", "cd")),
		series("ab", list("c", "d")),
		series("abc", list("d", "e")),
		series("a", list("b", "c", "d", "e")),
		series("a", list("b", "c\x01\x01d\x01\x01e")),
	)
	seen := map[string]api.Series{}
	for _, s := range all {
		key := sample.Key(s)
		if key != keyOf(s) {
			t.Errorf("Key of %q is %q", s, key)
		}
		if got, e := sample.Parse(key); e != api.OK || !sameSeries(got, s) {
			t.Errorf("Parse of the key of %q is %q, error %d", s, got, e)
		}
		if before, is := seen[key]; is {
			t.Errorf("%q and %q have the same key", before, s)
		}
		seen[key] = s
	}
}

// wantNoKey checks that neither Parse nor Read finds a series in a key.
func wantNoKey(t *testing.T, key string) {
	t.Helper()
	if s, e := sample.Parse(key); e != api.ErrBad || s.Metric != "" || len(s.Labels) != 0 {
		t.Errorf("Parse of %q is %q, error %d", key, s, e)
	}
	wantNoSample(t, bytesOf(key, 3, -7))
}

// wantNoSample checks that Read finds no sample.
func wantNoSample(t *testing.T, b []byte) {
	t.Helper()
	if s, e := sample.Read(b); e != api.ErrBad || !sameSample(s, api.Sample{}) {
		t.Errorf("Read of %q is %v, error %d", b, s, e)
	}
}

// P4.1: bytes that are no key.
func TestParseErrors(t *testing.T) {
	for _, key := range []string{
		"",
		"cpu",
		"\x00",
		"\x01",
		"\x01\x00",
		"\x01\x03",
		"\x01\x03cp",
		"\x01\x01\x01",
		"\x01\x03cpu\x00",
		"\x01\x03cpu\x01",
		"\x01\x03cpu\x01\x01a",
		"\x01\x03cpu\x01\x01a\x00",
		"\x01\x03cpu\x01\x01ax",
		"\x01\x03cpu\x01\x01a\x01\x01",
		"\x02\x03\x00cpu",
		"\x09\x03cpu",
		"\x00\x01\x01a\x01\x01x",
		"\x08\xff\xff\xff\xff\xff\xff\xff\xffcpu",
		"\x08\xff\xff\xff\xff\xff\xff\xff\x7fcpu",
		`cpu{a="x"}`,
	} {
		wantNoKey(t, key)
	}
	for _, metric := range noNames() {
		for _, set := range sets() {
			wantNoKey(t, keyOf(series(metric, set)))
		}
	}
	for _, set := range noSets() {
		wantNoKey(t, keyOf(series("cpu", set)))
	}
	huge := strings.Repeat("h", api.MaxText)
	for _, key := range []string{"\x01\x03cpu" + huge, "\x03\x00\x00\x10" + huge, "\x03\x01\x00\x10" + huge + "h"} {
		if s, e := sample.Parse(key); e != api.ErrBad || s.Metric != "" || len(s.Labels) != 0 {
			t.Errorf("Parse of %d bytes is %q, error %d", len(key), s, e)
		}
	}
}

// P4.1: keys that are cut off or have something behind them. What is still the
// key of a series is the key of that with the labels that are whole.
func TestParseCutOff(t *testing.T) {
	for _, s := range serieses() {
		key := sample.Key(s)
		whole := map[int]int{}
		for n := range len(s.Labels) + 1 {
			whole[len(keyOf(series(s.Metric, s.Labels[:n])))] = n
		}
		for size := range key {
			n, is := whole[size]
			if !is {
				wantNoKey(t, key[:size])
				continue
			}
			want := series(s.Metric, s.Labels[:n])
			if got, e := sample.Parse(key[:size]); e != api.OK || !sameSeries(got, want) {
				t.Errorf("Parse of %q is %q, error %d", key[:size], got, e)
			}
		}
		for c := range 256 {
			wantNoKey(t, key+string([]byte{byte(c)}))
		}
	}
}

// P4.1, P4.3: whatever byte of a key is changed, what is read has these bytes
// as its key.
func TestParseChanged(t *testing.T) {
	for _, s := range []api.Series{series("cpu", nil), series("cpu", list("a", "y", "bb", "x")), series("_", many(8))} {
		for at := range sample.Key(s) {
			for c := range 256 {
				key := []byte(sample.Key(s))
				key[at] = byte(c)
				got, e := sample.Parse(string(key))
				if e != api.OK {
					wantNoKey(t, string(key))
				} else if sample.CheckSeries(got) != api.OK || sample.Key(got) != string(key) {
					t.Errorf("Parse of %q is %q", key, got)
				}
			}
		}
	}
}

// P4.1: Bytes.
func TestBytes(t *testing.T) {
	for _, c := range []struct {
		s    api.Sample
		want string
	}{
		{api.Sample{Series: series("cpu", nil), Time: 3, N: -7}, "\x01\x05\x01\x03cpu\x01\x03\x01\x0d"},
		{api.Sample{Series: series("cpu", []api.Label{}), Time: 1}, "\x01\x05\x01\x03cpu\x01\x01\x00"},
		{api.Sample{Series: series("a", list("b", "x")), Time: 256, N: 1}, "\x01\x09\x01\x01a\x01\x01b\x01\x01x\x02\x00\x01\x01\x02"},
		{api.Sample{Series: series("a", nil), Time: 1 << 40, N: math.MaxInt64}, "\x01\x03\x01\x01a\x06\x00\x00\x00\x00\x00\x01\x08\xfe" + strings.Repeat("\xff", 7)},
		{api.Sample{Series: series("a", nil), Time: 1<<40 - 1, N: math.MinInt64}, "\x01\x03\x01\x01a\x05\xff\xff\xff\xff\xff\x08" + strings.Repeat("\xff", 8)},
	} {
		if b, e := sample.Bytes(c.s); e != api.OK || string(b) != c.want {
			t.Errorf("Bytes of %v is %q, error %d", c.s, b, e)
		}
	}
}

// P4.1, P4.3: Read of Bytes is the sample.
func TestReadOfBytes(t *testing.T) {
	for _, s := range append(serieses(), series("a", nil)) {
		for _, time := range times() {
			for _, n := range numbers() {
				x := api.Sample{Series: s, Time: time, N: n}
				b, e := sample.Bytes(x)
				if e != api.OK || !bytes.Equal(b, bytesOf(keyOf(s), uint64(time), n)) {
					t.Errorf("Bytes of %v is %q, error %d", x, b, e)
				}
				if got, e := sample.Read(b); e != api.OK || !sameSample(got, x) {
					t.Errorf("Read of the bytes of %v is %v, error %d", x, got, e)
				}
			}
		}
	}
}

// P4.1: bytes that are no sample.
func TestReadErrors(t *testing.T) {
	key := keyOf(series("cpu", list("a", "x")))
	for _, time := range []uint64{0, 1<<40 + 1, 1<<40 + 2, 1 << 41, 1 << 62, 1<<63 - 1, 1 << 63, 1<<63 + 1, 1<<64 - 1} {
		wantNoSample(t, bytesOf(key, time, 7))
	}
	for _, b := range []string{
		"",
		"\x00",
		"\x00\x01\x03\x01\x0d",
		"\x01\x05\x01\x03cpu",
		"\x01\x05\x01\x03cpu\x01\x03",
		"\x01\x05\x01\x03cpu\x02\x03\x00\x01\x0d",
		"\x01\x05\x01\x03cpu\x01\x03\x02\x0d\x00",
		"\x01\x05\x01\x03cpu\x09\x03\x01\x0d",
		"\x01\x05\x01\x03cpu\x01\x03\x09\x0d",
		"\x02\x05\x00\x01\x03cpu\x01\x03\x01\x0d",
		"\x01\x04\x01\x03cpu\x01\x03\x01\x0d",
		"\x01\x06\x01\x03cpu\x01\x03\x01\x0d",
		"\x01\x03cpu\x01\x03\x01\x0d",
		"\x08\xff\xff\xff\xff\xff\xff\xff\xff\x01\x03cpu\x01\x03\x01\x0d",
	} {
		wantNoSample(t, []byte(b))
	}
	wantNoSample(t, bytesOf(strings.Repeat("\x00", api.MaxText), 3, 7))
	wantNoSample(t, append([]byte("\x03\x01\x00\x10"), make([]byte, api.MaxText+5)...))
}

// P4.1: bytes that are cut off or have something behind them.
func TestReadCutOff(t *testing.T) {
	for _, s := range []api.Series{series("cpu", nil), series("cpu", list("a", "x", "b", "y")), series(strings.Repeat("z", 24), most())} {
		for _, time := range times() {
			for _, n := range numbers() {
				b, _ := sample.Bytes(api.Sample{Series: s, Time: time, N: n})
				for size := range b {
					wantNoSample(t, b[:size])
				}
				for c := range 256 {
					wantNoSample(t, append(slices.Clip(b), byte(c)))
				}
				wantNoSample(t, slices.Concat(b, b))
			}
		}
	}
}

// P4.1, P4.3: whatever byte is changed, what is read has these bytes as its
// own.
func TestReadChanged(t *testing.T) {
	for _, x := range []api.Sample{
		{Series: series("cpu", nil), Time: 3, N: -7},
		{Series: series("cpu", list("a", "y", "bb", "x")), Time: 1 << 40, N: math.MinInt64},
		{Series: series("_", many(8)), Time: 1<<40 - 1},
	} {
		whole, _ := sample.Bytes(x)
		for at := range whole {
			for c := range 256 {
				b := bytes.Clone(whole)
				b[at] = byte(c)
				wantOwnBytes(t, b)
			}
		}
	}
}

func wantOwnBytes(t *testing.T, b []byte) {
	t.Helper()
	x, e := sample.Read(b)
	if e != api.OK {
		wantNoSample(t, b)
		return
	}
	if again, e := sample.Bytes(x); e != api.OK || !bytes.Equal(again, b) {
		t.Errorf("%q was read as %v, which is written %q, error %d", b, x, again, e)
	}
}

// P4.1 with rule 3: what is returned is new memory, and nothing is changed.
func TestSeriesSharesNothing(t *testing.T) {
	l := list("a", "x", "b", "y", "spare", "z")
	before := slices.Clone(l)
	x := api.Sample{Series: series("cpu", l[:2]), Time: 3, N: -7}
	a, _ := sample.Bytes(x)
	given := bytes.Clone(a)
	got, e := sample.Read(given[:len(given):len(given)])
	key := sample.Key(x.Series)
	other, _ := sample.Parse(key)
	again, _ := sample.Parse(key)
	if sample.Check(x) != api.OK || !slices.Equal(l, before) || !bytes.Equal(given, a) {
		t.Error("an argument was changed")
	}
	clear(given)
	clear(a[:cap(a)])
	if e != api.OK || !sameSample(got, x) {
		t.Errorf("Read is %v, error %d", got, e)
	}
	clear(other.Labels[:cap(other.Labels)])
	if !sameSeries(again, x.Series) || !slices.Equal(l, before) {
		t.Errorf("Parse is %v", again)
	}
	if b, _ := sample.Bytes(x); !bytes.Equal(b, bytesOf(key, 3, -7)) {
		t.Errorf("Bytes again is %q", b)
	}
}

// P4.1, P4.2: the examples of the chapter.
func TestExamples(t *testing.T) {
	two := []api.Result{{Labels: list("a", "y"), Value: api.Value{N: 3}}, {Value: api.Value{Over: true}}}
	if got := sample.Lines(two); got != "{a=\"y\"} 3\n{} over\n" {
		t.Errorf("%q", got)
	}
	v, e := sample.Sort(two)
	if got := sample.Lines(v); e != api.OK || got != "{} over\n{a=\"y\"} 3\n" {
		t.Errorf("%q, %d", got, e)
	}
	if e := sample.Check(api.Sample{Series: series("cpu", nil)}); e != api.ErrArg {
		t.Error(e)
	}
}
