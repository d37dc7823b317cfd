package oper_test

import (
	"fmt"
	"math"
	"strings"
	"testing"

	"waterwheel/api"
	"waterwheel/sample"
)

// wantSample checks the error of Sample, given by hand, and that an error has no
// effect.
func (x *pair) wantSample(t *testing.T, s api.Sample, want api.Errno) {
	t.Helper()
	before := string(x.o.Bytes())
	if e := x.o.Sample(s); e != want {
		t.Errorf("%s at %d: sample %s: error %d, not %d", dumpNode(x.r.node), x.r.told, short(s), e, want)
	}
	if want != api.OK && string(x.o.Bytes()) != before {
		t.Errorf("%s: sample %s has an effect", dumpNode(x.r.node), short(s))
	}
	x.r.sample(s)
	x.check(t)
}

// wantPass checks the error of Pass, given by hand, and that it has no effect.
func (x *pair) wantPass(t *testing.T, time int64, want api.Errno) {
	t.Helper()
	before := string(x.o.Bytes())
	if l, e := x.o.Pass(time); e != want || len(l) != 0 {
		t.Errorf("%s at %d: pass of %d: %d batches, error %d, not %d", dumpNode(x.r.node), x.r.told, time, len(l), e, want)
	}
	if string(x.o.Bytes()) != before {
		t.Errorf("%s: pass of %d has an effect", dumpNode(x.r.node), time)
	}
	x.check(t)
}

// wantBatches checks batches that are given by hand.
func wantBatches(t *testing.T, got []api.Batch, want ...api.Batch) {
	t.Helper()
	if !sameBatches(got, want) {
		t.Errorf("%s, not %s", short(got), short(want))
	}
}

// wantVector checks the vector, given by hand.
func (x *pair) wantVector(t *testing.T, want string) {
	t.Helper()
	x.check(t)
	if got := sample.Lines(x.o.Vector()); got != want {
		t.Errorf("vector %q, not %q", got, want)
	}
}

// P18.2: the example of the chapter.
func TestExample(t *testing.T) {
	x := made(t, leaf(5, api.FnSum, 10), 0)
	x.sample(t, of(3, 1, "a", "x"), of(8, 4, "a", "x"))
	wantBatches(t, x.pass(t, 10), at(5, put(1, "a", "x")), at(10, put(5, "a", "x")))
	wantBatches(t, x.pass(t, 14))
	x.wantSample(t, of(12, 1, "a", "x"), api.ErrLate)
	wantBatches(t, x.pass(t, 20), at(15, put(4, "a", "x")), at(20, gone("a", "x")))
	x.wantVector(t, "")
}

// P18.2: each function, with several series, and windows that overlap.
func TestFunctions(t *testing.T) {
	for fn, want := range map[int][]string{
		api.FnSum:      {"{} 3\n{a=\"x\"} -1\n", "{} 10\n{a=\"x\"} 1\n", "{} 7\n{a=\"x\"} 2\n{a=\"y\"} 9\n", "{a=\"y\"} 9\n"},
		api.FnCount:    {"{} 1\n{a=\"x\"} 1\n", "{} 3\n{a=\"x\"} 2\n", "{} 2\n{a=\"x\"} 1\n{a=\"y\"} 1\n", "{a=\"y\"} 1\n"},
		api.FnMin:      {"{} 3\n{a=\"x\"} -1\n", "{} 2\n{a=\"x\"} -1\n", "{} 2\n{a=\"x\"} 2\n{a=\"y\"} 9\n", "{a=\"y\"} 9\n"},
		api.FnMax:      {"{} 3\n{a=\"x\"} -1\n", "{} 5\n{a=\"x\"} 2\n", "{} 5\n{a=\"x\"} 2\n{a=\"y\"} 9\n", "{a=\"y\"} 9\n"},
		api.FnLast:     {"{} 3\n{a=\"x\"} -1\n", "{} 2\n{a=\"x\"} 2\n", "{} 2\n{a=\"x\"} 2\n{a=\"y\"} 9\n", "{a=\"y\"} 9\n"},
		api.FnIncrease: {"{} 0\n{a=\"x\"} 0\n", "{} 4\n{a=\"x\"} 3\n", "{} 2\n{a=\"x\"} 0\n{a=\"y\"} 0\n", "{a=\"y\"} 0\n"},
	} {
		x := made(t, leaf(5, fn, 10), 0)
		x.sample(t, of(2, 3), of(7, 5), of(5, -1, "a", "x"), of(10, 2), of(6, 2, "a", "x"), of(15, 9, "a", "y"))
		for i, v := range want {
			x.pass(t, int64(5+5*i))
			x.wantVector(t, v)
		}
		x.pass(t, 30)
		x.wantVector(t, "")
	}
}

// P18.2: sums that are over, and numbers again.
func TestOver(t *testing.T) {
	x := made(t, leaf(1, api.FnSum, 2), 0)
	x.sample(t, of(1, math.MaxInt64), of(2, 1), of(3, math.MaxInt64), of(4, -1), of(1, math.MinInt64, "a", "x"), of(2, -1, "a", "x"))
	wantBatches(t, x.pass(t, 4), at(1, put(math.MaxInt64), put(math.MinInt64, "a", "x")), at(2, putOver(), putOver("a", "x")),
		at(3, put(-1, "a", "x")), at(4, put(math.MaxInt64-1), gone("a", "x")))
	x.check(t)
}

// P18.2: which series a leaf takes.
func TestTakes(t *testing.T) {
	for _, match := range [][]api.Matcher{
		nil, {is("a", "x")}, {is("a", "")}, {not("a", "x")}, {not("a", "")}, {is("a", "x"), not("b", "y")}, {is("a", "x"), is("a", "y")}, {is("c", "")}, {is("c", "z")},
	} {
		x := made(t, leaf(5, api.FnLast, 10, match...), 0)
		taken := 0
		for i, labels := range [][]string{nil, {"a", "x"}, {"a", "y"}, {"b", "y"}, {"a", "x", "b", "x"}, {"a", "x", "b", "y"}, {"a", "x", "b", "y", "c", "z"}} {
			s := of(int64(i+1), 7, labels...)
			want := api.ErrArg
			if refTakes(x.r.node.Expr, s.Series) {
				want = api.OK
				taken++
			}
			x.wantSample(t, s, want)
			for _, metric := range []string{"cp", "cpus", "mem", "_"} {
				s.Metric = metric
				x.wantSample(t, s, api.ErrArg)
			}
		}
		if n := len(x.o.Kept()); n != taken {
			t.Errorf("%v: %d points are kept, not %d", match, n, taken)
		}
	}
}

// badSamples has samples that are not valid, with the error of sample.Check.
func badSamples() map[api.Errno][]api.Sample {
	nine := append(eight(), api.Label{Name: "i", Text: "x"})
	l := map[api.Errno][]api.Sample{api.ErrLong: {
		{Series: api.Series{Metric: "cpu", Labels: nine}, Time: 5}, {Series: api.Series{Metric: "mem", Labels: nine}}, {Series: api.Series{Metric: "cpu", Labels: make([]api.Label, 99)}, Time: -1},
	}}
	for _, time := range []int64{math.MinInt64, -1, 0, 1<<40 + 1, math.MaxInt64} {
		l[api.ErrArg] = append(l[api.ErrArg], of(time, 1), of(time, 1, "a", "x"))
	}
	for _, labels := range [][]string{{"a", ""}, {"A", "x"}, {"", "x"}, {"b", "x", "a", "x"}, {"a", "x", "a", "y"}, {"a", strings.Repeat("x", 65)}} {
		l[api.ErrArg] = append(l[api.ErrArg], of(5, 1, labels...))
	}
	for _, metric := range []string{"", "CPU", "1"} {
		l[api.ErrArg] = append(l[api.ErrArg], api.Sample{Series: api.Series{Metric: metric}, Time: 5}, api.Sample{Series: api.Series{Metric: metric, Labels: nine}, Time: 5})
	}
	return l
}

// P18.2: the errors of Sample, and which one comes first.
func TestSampleErrors(t *testing.T) {
	for _, told := range []int64{0, 4, 5, 6, 1 << 40} {
		x := made(t, leaf(5, api.FnSum, 10, is("a", "x")), told)
		x.wantSample(t, of(7, 1, "a", "x"), []api.Errno{api.OK, api.ErrLate}[told>>40])
		for want, l := range badSamples() {
			for _, s := range l {
				x.wantSample(t, s, want)
			}
		}
		// One that it does not take is late, too.
		for _, time := range []int64{1, 7, 8, 1 << 40} {
			x.wantSample(t, of(time, 1), api.ErrArg)
			x.wantSample(t, of(time, 1, "a", "y"), api.ErrArg)
		}
	}
	for _, n := range others(5) {
		x := made(t, n, 3)
		for _, l := range badSamples() {
			for _, s := range l {
				x.wantSample(t, s, api.ErrState)
			}
		}
		x.wantSample(t, of(1, 1), api.ErrState)
		x.wantSample(t, of(7, 1), api.ErrState)
		x.wantSample(t, api.Sample{}, api.ErrState)
	}
}

// P18.2: what is late: not after what was emitted, or the last point of the same
// series.
func TestSampleLate(t *testing.T) {
	x := made(t, leaf(5, api.FnSum, 10), 6)
	for _, time := range []int64{1, 5, 6} {
		x.wantSample(t, of(time, 1), api.ErrLate)
	}
	x.wantSample(t, of(7, 1), api.OK)
	x.wantSample(t, of(7, 1), api.ErrLate)
	x.wantSample(t, of(9, 1, "a", "x"), api.OK)
	for _, time := range []int64{7, 8, 9} {
		x.wantSample(t, of(time, 1, "a", "x"), api.ErrLate)
	}
	x.wantSample(t, of(8, 1), api.OK)
	x.wantSample(t, of(7, 2, "a", "x", "b", "y"), api.OK)
	x.wantSample(t, of(1<<40, 1), api.OK)
	x.wantSample(t, of(1<<40, 1), api.ErrLate)
	x.wantSample(t, of(10, 1, "a", "x"), api.OK)
	x.pass(t, 12)
	x.check(t)
	for _, time := range []int64{7, 10, 11, 12} {
		x.wantSample(t, of(time, 1, "a", "x"), api.ErrLate)
		x.wantSample(t, of(time, 1, "b", "x"), api.ErrLate)
	}
	x.wantSample(t, of(13, 1, "a", "x"), api.OK)
	x.wantSample(t, of(13, 1, "b", "x"), api.OK)
}

// P18.2: which points are kept: those above the next time of the grid less the
// span. What is not kept is no last point, either.
func TestKept(t *testing.T) {
	x := made(t, leaf(10, api.FnSum, 3), 0)
	for _, time := range []int64{1, 6, 7} {
		x.wantSample(t, of(time, time), api.OK)
		x.wantSample(t, of(time, time), api.OK)
	}
	if len(x.o.Kept()) != 0 {
		t.Errorf("kept %v", x.o.Kept())
	}
	x.wantSample(t, of(2, 2), api.OK)
	x.wantSample(t, of(8, 8), api.OK)
	x.wantSample(t, of(7, 7), api.ErrLate)
	x.wantSample(t, of(13, 13), api.OK)
	x.wantSample(t, of(13, 13, "a", "x"), api.OK)
	if l := x.o.Kept(); len(l) != 3 || l[0].Time != 8 || l[1].Time != 13 || l[2].Time != 13 {
		t.Errorf("kept %v", l)
	}
	// 13 is in no window, but this is only known when 10 has been passed.
	x.pass(t, 9)
	x.check(t)
	if l := x.o.Kept(); len(l) != 3 {
		t.Errorf("kept %v", l)
	}
	wantBatches(t, x.pass(t, 10), at(10, put(8)))
	x.wantVector(t, "{} 8\n")
	if l := x.o.Kept(); len(l) != 0 {
		t.Errorf("kept %v", l)
	}
	x.wantSample(t, of(17, 1), api.OK)
	x.wantSample(t, of(18, 1), api.OK)
	wantBatches(t, x.pass(t, 20), at(20, put(1)))
	wantBatches(t, x.pass(t, 30), at(30, gone()))
}

// P18.2: which points are kept, for each small grid, span, time of a point and
// time that was passed.
func TestKeptSmall(t *testing.T) {
	for every := int64(1); every <= 6; every++ {
		for span := int64(1); span <= 9; span++ {
			for mark := int64(0); mark <= 7; mark++ {
				x := made(t, leaf(every, api.FnSum, span), mark)
				for time := mark + 1; time <= mark+14; time++ {
					x.sample(t, of(time, 1<<time))
				}
				x.check(t)
				for to := mark; to <= mark+17; to++ {
					y := pair{read(t, string(x.o.Bytes())), copyReference(x.r)}
					y.pass(t, to)
					y.check(t)
					y.sample(t, of(to, 1, "a", "x"), of(to+1, 2, "a", "x"), of(to+3, 4), of(to+1, 5))
					y.check(t)
					y.pass(t, to+every+1)
					y.check(t)
				}
			}
		}
	}
}

// P18.2: points and passes at the end of all times, where there is no next time.
func TestEnd(t *testing.T) {
	const end = 1 << 40
	for _, every := range []int64{1, 2, 3, 5, 7, 1<<30 - 1, 1 << 30} {
		for _, span := range []int64{1, 2, 7, 1 << 30} {
			last := end - end%every
			for _, mark := range []int64{last - every, last - 1, last, end - 1, end} {
				x := made(t, leaf(every, api.FnCount, span), mark)
				for _, time := range []int64{end - 1<<30, last - span, last - span + 1, last - 1, last, last + 1, end - 1, end} {
					x.sample(t, of(time, 1, "a", fmt.Sprint(time)), of(time, 1))
				}
				x.check(t)
				for _, to := range []int64{last - 1, last, end - 1, end} {
					x.pass(t, to)
					x.check(t)
					x.sample(t, of(end, 2, "b", "x"), of(to, 3))
					x.check(t)
					x.again(t)
					x.check(t)
				}
				x.wantPass(t, end+1, api.ErrArg)
				x.wantPass(t, end-1, api.ErrLate)
				x.wantSample(t, of(end, 1), api.ErrLate)
				if len(x.o.Kept()) != 0 {
					t.Errorf("kept %v", x.o.Kept())
				}
			}
		}
	}
}

// P18.2: the errors of Pass, and which one comes first.
func TestPassErrors(t *testing.T) {
	const end = 1 << 40
	for _, told := range []int64{0, 1, 5, 6, 4999} {
		x := made(t, leaf(5, api.FnSum, 10), told)
		x.sample(t, of(told+1, 7), of(told+9, 8, "a", "x"))
		for _, time := range []int64{math.MinInt64, -1, end + 1, math.MaxInt64} {
			x.wantPass(t, time, api.ErrArg)
		}
		if told > 0 {
			x.wantPass(t, told-1, api.ErrLate)
			x.wantPass(t, 0, api.ErrLate)
		}
		first := told - told%5
		for _, time := range []int64{first + 5005, first + 5006, first + 6000, end - 1, end} {
			x.wantPass(t, time, api.ErrLong)
		}
		if l := x.pass(t, first+5004); len(l) != 1000 {
			t.Errorf("%d batches", len(l))
		}
		x.check(t)
		x.wantPass(t, first+5003, api.ErrLate)
		x.pass(t, first+5004)
		x.pass(t, first+5005)
		x.check(t)
	}
	for _, n := range others(5) {
		x := made(t, n, 3)
		for _, time := range []int64{math.MinInt64, -1, 0, 2, 3, 5, 6000, end, end + 1} {
			x.wantPass(t, time, api.ErrState)
		}
	}
}

// P18.2: as many times as may be passed, and more, for grids with few and many
// times.
func TestPassLong(t *testing.T) {
	for _, every := range []int64{1, 2, 3, 17, 1 << 20, 1 << 30} {
		for _, mark := range []int64{0, 1, every - 1, every, every + 1, 9 * every} {
			x := made(t, leaf(every, api.FnSum, 1<<30), mark)
			x.sample(t, of(mark+1, 3), of(mark+every*2+1, 4))
			first := mark - mark%every
			x.wantPass(t, min(first+1001*every, 1<<40), api.ErrLong)
			if l := x.pass(t, first+1001*every-1); len(l) != 1000 || l[0].Time != first+every || l[999].Time != first+1000*every {
				t.Errorf("%d batches", len(l))
			}
			x.check(t)
		}
	}
}

// P18.2: a pass of the time up to which it has emitted returns nothing.
func TestPassAgain(t *testing.T) {
	x := made(t, leaf(5, api.FnSum, 10), 0)
	wantBatches(t, x.pass(t, 0))
	x.sample(t, of(3, 7))
	wantBatches(t, x.pass(t, 0))
	wantBatches(t, x.pass(t, 5), at(5, put(7)))
	wantBatches(t, x.pass(t, 5))
	wantBatches(t, x.pass(t, 9))
	wantBatches(t, x.pass(t, 9))
	// Nothing changes, but there is a batch.
	wantBatches(t, x.pass(t, 10), at(10))
	x.check(t)
}

// P18.2: a vector has at most MaxVector results: the first ones in the order of
// their labels, which is not that of their keys.
func TestMaxResults(t *testing.T) {
	x := made(t, leaf(5, api.FnLast, 10), 0)
	name := func(i int) []string { return []string{"b", fmt.Sprint(10000 + i)} }
	for i := range 4100 {
		i = i * 2311 % 4100
		x.sample(t, of(int64(6+i%5), int64(i), name(i)...))
	}
	if l := x.pass(t, 10); len(l[1].Changes) != 4096 {
		t.Errorf("%d changes", len(l[1].Changes))
	}
	x.check(t)
	if v := x.o.Vector(); len(v) != 4096 || v[0].N != 0 || v[4095].N != 4095 {
		t.Fatalf("%d results", len(v))
	}
	x.again(t)
	x.check(t)
	// One that comes before all others has a longer name, and the key of a longer
	// one comes after all others.
	x.sample(t, of(11, -1, "aa", "x"), of(12, -2, "a", strings.Repeat("x", 64)))
	wantBatches(t, x.pass(t, 15), at(15, put(-2, "a", strings.Repeat("x", 64)), put(-1, "aa", "x"), gone(name(4094)...), gone(name(4095)...)))
	x.check(t)
	for i := range 3 {
		x.sample(t, of(16, 9000, name(4094+2*i)...))
	}
	x.again(t)
	x.pass(t, 20)
	x.wantVector(t, "{a=\""+strings.Repeat("x", 64)+"\"} -2\n{aa=\"x\"} -1\n{b=\"14094\"} 9000\n{b=\"14096\"} 9000\n{b=\"14098\"} 9000\n")
}
