package oper_test

import (
	"math"
	"slices"
	"strings"
	"testing"

	"waterwheel/api"
	"waterwheel/oper"
)

// The bytes of nodes, given by hand.
const (
	leafNode  = "\x01\x05" + "\x01\x01" + "\x01\x01" + "\x00" + "\x00" + "\x01\x03cpu" + "\x00" + "\x01\x0a" + "\x00" + "\x00"
	matchNode = "\x02\x2c\x01" + "\x01\x01" + "\x01\x06" + "\x00" + "\x00" + "\x01\x03cpu" +
		"\x01\x02" + "\x01\x01\x01\x01a\x01\x01x" + "\x01\x02\x01\x01b\x00" + "\x04\x00\x00\x00\x40" + "\x00" + "\x00"
	groupNode = "\x01\x05" + "\x01\x02" + "\x01\x01" + "\x00" + "\x00" + "\x00" + "\x00" + "\x00" + "\x01\x02\x01\x01a\x01\x02bc" + "\x01\x01\x01\x07"
	joinNode  = "\x01\x02" + "\x01\x03" + "\x00" + "\x01\x02" + "\x00" + "\x00" + "\x00" + "\x00" + "\x01\x01\x01\x01a" + "\x01\x02\x01\x01\x01\x02"
	scaleNode = "\x01\x05" + "\x01\x04" + "\x00" + "\x01\x03" + "\x01\x01" + "\x00" + "\x00" + "\x00" + "\x00" + "\x01\x01\x02\xe8\x03"
	moreNode  = "\x01\x05" + "\x01\x05" + "\x00" + "\x01\x06" + "\x01\x06" + "\x00" + "\x00" + "\x00" + "\x00" + "\x01\x01\x01\x01"
)

// The bytes of labels, of a result and of a point, given by hand.
const (
	ax, axKey = "\x01\x06\x01\x01a\x01\x01x", "\x01\x0b\x01\x03cpu\x01\x01a\x01\x01x"
	nothing   = "\x00\x00"
)

// wantBytes checks the bytes, given by hand, and that they are read.
func (x *pair) wantBytes(t *testing.T, want string) {
	t.Helper()
	if b := string(x.o.Bytes()); b != want {
		t.Errorf("bytes %q, not %q", b, want)
	}
	x.check(t)
	x.o = read(t, want)
	x.check(t)
}

// P18.4: the bytes of leaves, given by hand.
func TestBytesOfLeaves(t *testing.T) {
	x := made(t, leaf(5, api.FnSum, 10), 0)
	x.wantBytes(t, leafNode+"\x00"+nothing)
	x.sample(t, of(3, 1, "a", "x"), of(8, 4, "a", "x"))
	x.wantBytes(t, leafNode+"\x00\x00"+"\x01\x01"+axKey+"\x01\x02"+"\x01\x03\x01\x02"+"\x01\x08\x01\x08")
	x.pass(t, 10)
	x.wantBytes(t, leafNode+"\x01\x0a"+"\x01\x01"+ax+"\x00\x01\x0a"+"\x01\x01"+axKey+"\x01\x01"+"\x01\x08\x01\x08")
	x.pass(t, 14)
	x.wantBytes(t, leafNode+"\x01\x0e"+"\x01\x01"+ax+"\x00\x01\x0a"+"\x01\x01"+axKey+"\x01\x01"+"\x01\x08\x01\x08")
	// Series have the order of their keys, results that of their labels.
	x.sample(t, of(16, -1, "b", "x"), of(15, 300), of(17, 0, "aa", "yz"), of(20, math.MaxInt64, "b", "x"), of(20, 5, "b", "x", "c", "y"))
	x.pass(t, 20)
	x.wantBytes(t, leafNode+"\x01\x14"+
		"\x01\x04"+"\x00\x00\x02\x58\x02"+"\x01\x08\x01\x02aa\x01\x02yz\x00\x00"+"\x01\x06\x01\x01b\x01\x01x\x00\x08\xfc\xff\xff\xff\xff\xff\xff\xff"+
		"\x01\x0c\x01\x01b\x01\x01x\x01\x01c\x01\x01y\x00\x01\x0a"+
		"\x01\x03"+"\x01\x0b\x01\x03cpu\x01\x01b\x01\x01x"+"\x01\x02"+"\x01\x10\x01\x01"+"\x01\x14\x08\xfe\xff\xff\xff\xff\xff\xff\xff"+
		"\x01\x11\x01\x03cpu\x01\x01b\x01\x01x\x01\x01c\x01\x01y"+"\x01\x01"+"\x01\x14\x01\x0a"+
		"\x01\x0d\x01\x03cpu\x01\x02aa\x01\x02yz"+"\x01\x01"+"\x01\x11\x00")
	x = made(t, leaf(300, api.FnIncrease, 1<<30, is("a", "x"), not("b", "")), 1<<40)
	x.wantBytes(t, matchNode+"\x06\x00\x00\x00\x00\x00\x01"+nothing)
	x = made(t, leaf(300, api.FnIncrease, 1<<30, is("a", "x"), not("b", "")), 299)
	x.sample(t, of(1<<40, -1<<63, "a", "x", "b", "y"))
	x.wantBytes(t, matchNode+"\x02\x2b\x01"+"\x00"+"\x01\x01"+"\x01\x11\x01\x03cpu\x01\x01a\x01\x01x\x01\x01b\x01\x01y"+"\x01\x01"+
		"\x06\x00\x00\x00\x00\x00\x01\x08\xff\xff\xff\xff\xff\xff\xff\xff")
}

// P18.4: the bytes of other operators, given by hand.
func TestBytesOfOthers(t *testing.T) {
	x := made(t, grouped(5, api.GrTotal, "a", "bc"), 0)
	x.wantBytes(t, groupNode+nothing+nothing)
	x.take(t, 1, at(5, put(2, "a", "x", "b", "1"), putOver("b", "1")))
	x.wantBytes(t, groupNode+"\x01\x05"+"\x01\x02"+"\x00\x01"+ax+"\x00\x01\x04"+"\x01\x02"+"\x01\x0c\x01\x01a\x01\x01x\x01\x01b\x01\x011\x00\x01\x04"+"\x01\x06\x01\x01b\x01\x011\x01"+"\x00")
	x = made(t, scaled(5, api.OpMul, -1), 3)
	x.wantBytes(t, scaleNode+"\x01\x03\x00"+nothing)
	x.take(t, 1, at(5, put(-1<<63), put(1, "a", "x")))
	x.wantBytes(t, scaleNode+"\x01\x05"+"\x01\x02"+"\x00\x01"+ax+"\x00\x01\x01"+"\x01\x02"+"\x00\x00\x08\xff\xff\xff\xff\xff\xff\xff\xff"+ax+"\x00\x01\x02"+"\x00")
	x = made(t, filtered(5, api.OpMore, 3), 0)
	x.wantBytes(t, moreNode+nothing+nothing)
	x.take(t, 1, at(5, put(3), put(4, "a", "x")))
	x.wantBytes(t, moreNode+"\x01\x05"+"\x01\x01"+ax+"\x00\x01\x08"+"\x01\x02"+"\x00\x00\x01\x06"+ax+"\x00\x01\x08"+"\x00")
	x = made(t, joined(2, api.OpSub, "a"), 0)
	x.wantBytes(t, joinNode+nothing+nothing+nothing)
	x.take(t, 2, at(2, put(5, "a", "x")))
	x.wantBytes(t, joinNode+nothing+nothing+"\x00\x01\x01"+"\x01\x02\x01\x01"+ax+"\x00\x00\x01\x0a")
	x.take(t, 2, at(4, gone("a", "x"), putOver(), put(-2)))
	x.take(t, 2, at(6))
	x.take(t, 1, at(2, put(1, "a", "x"), put(8)))
	x.wantBytes(t, joinNode+"\x01\x02"+"\x01\x01"+ax+"\x00\x01\x07"+
		"\x01\x02"+"\x00\x00\x01\x10"+ax+"\x00\x01\x02"+"\x00"+
		"\x01\x01"+ax+"\x00\x01\x0a"+"\x01\x02"+"\x01\x04\x01\x03"+ax+"\x01"+"\x00\x00\x01"+"\x00\x00\x00\x01\x03"+"\x01\x06\x00")
}

// P18.4: nodes that are valid, or not.
func TestReadNodes(t *testing.T) {
	rest := func(n api.Node) string { return nothing + strings.Repeat(nothing, max(len(n.In), 1)) }
	count := 0
	try := func(n api.Node) {
		t.Helper()
		b := nodeBytes(n) + rest(n)
		if n.Expr.Kind == api.ExWindow {
			b = b[:len(b)-1]
		}
		if len(n.Expr.Kids) == 0 && tryRead(t, b) != nil {
			count++
		}
	}
	for _, n := range goods() {
		try(n)
	}
	if count != len(goods()) {
		t.Errorf("%d of %d nodes", count, len(goods()))
	}
	names, match, _ := badLists()
	for _, good := range []api.Node{leaf(5, api.FnMax, 3), grouped(5, api.GrLeast, "a"), joined(5, api.OpMul, "b"), scaled(5, api.OpSub, 3), filtered(5, api.OpMore, 7)} {
		for _, x := range numbers() {
			for _, change := range []func(n *api.Node){
				func(n *api.Node) { n.Every = x }, func(n *api.Node) { n.Expr.Kind = int(x) }, func(n *api.Node) { n.Expr.Func = int(x) },
				func(n *api.Node) { n.Expr.Op = int(x) }, func(n *api.Node) { n.Expr.Num = x }, func(n *api.Node) { n.Expr.Span = x },
				func(n *api.Node) { n.In = []int{int(x)} }, func(n *api.Node) { n.In = []int{int(x), 1} }, func(n *api.Node) { n.In = []int{1, int(x)} },
				func(n *api.Node) { n.In = []int{1, 1, int(x)} }, func(n *api.Node) { n.In = nil },
			} {
				n := good
				change(&n)
				try(n)
			}
		}
		for _, s := range []string{"", "a", "A", strings.Repeat("a", 24), strings.Repeat("a", 25), strings.Repeat("a", 1<<20), strings.Repeat("a", 1<<20+1)} {
			n := good
			n.Expr.Metric = s
			try(n)
		}
		for _, l := range names {
			n := good
			n.Expr.Names = l
			try(n)
		}
		for _, m := range match {
			n := good
			n.Expr.Match = m
			try(n)
		}
		n := good
		n.In = slices.Repeat([]int{1}, 1000)
		try(n)
		n.In = slices.Repeat([]int{1}, 1001)
		try(n)
	}
}

// states returns references of operators that have something.
func states(t *testing.T) (l []reference) {
	x := made(t, leaf(5, api.FnSum, 10), 0)
	x.sample(t, of(3, 1, "a", "x"), of(8, 4, "a", "x"), of(9, math.MinInt64, "aa", "x"), of(10, -1, "aa", "x"), of(13, 300), of(300, 5))
	x.pass(t, 11)
	l = append(l, x.r)
	y := made(t, joined(2, api.OpSub, "a"), 3)
	y.take(t, 1, at(4, put(5, "a", "x", "b", "1"), putOver(), put(7, "a", "y")))
	y.take(t, 1, at(6, gone("a", "x", "b", "1"), put(math.MaxInt64)))
	y.take(t, 1, at(8))
	y.take(t, 2, at(4, put(2, "a", "x"), put(8, "a", "y"), put(-1)))
	l = append(l, y.r)
	z := made(t, grouped(7, api.GrMost, "b"), 0)
	z.take(t, 1, at(7, put(5, "a", "x", "b", "1"), putOver(), put(7, "a", "y"), put(6, "b", "1")))
	return append(l, z.r)
}

// P18.4: leaves whose parts are valid, or not.
func TestReadLeaves(t *testing.T) {
	labels := func(pairs ...string) api.Series { return api.Series{Metric: "cpu", Labels: list(pairs...)} }
	series := func(s api.Series, l ...api.Point) refSeries { return refSeries{Series: s, points: l} }
	one := series(labels("a", "x"), point(8, 4))
	count := 0
	for _, told := range []int64{-1, 0, 4, 5, 10, 11, 1 << 40, 1<<40 + 1, math.MinInt64, math.MaxInt64} {
		for _, l := range [][]refSeries{
			nil, {one}, {one, series(labels("a", "y"), point(9, 1))}, {series(labels("a", "y"), point(9, 1)), one}, {one, one},
			{series(labels("b", "x"), point(9, 1)), series(labels("aa", "x"), point(9, 1))}, {series(labels("aa", "x"), point(9, 1)), series(labels("b", "x"), point(9, 1))},
			{series(labels(), point(7, 1)), one}, {one, series(labels(), point(7, 1))}, {series(labels("a", "x"))}, {one, series(labels("a", "y"))},
			{series(labels("a", "x", "b", "y"), point(7, 1))}, {series(labels("b", "y", "a", "x"), point(7, 1))}, {series(labels("a", ""), point(7, 1))},
			{series(labels("a", strings.Repeat("x", 64)), point(7, 1))}, {series(labels("a", strings.Repeat("x", 65)), point(7, 1))},
			{series(api.Series{Metric: "cp"}, point(7, 1))}, {series(api.Series{}, point(7, 1))}, {series(api.Series{Metric: "cpu", Labels: eight()}, point(7, 1))},
			{series(labels(), point(7, 1), point(8, 2), point(9, 3))}, {series(labels(), point(8, 1), point(7, 2))}, {series(labels(), point(8, 1), point(8, 2))},
			{series(labels(), point(-7, 1))}, {series(labels(), point(0, 1))}, {series(labels(), point(0, 1), point(8, 1))}, {series(labels(), point(math.MinInt64, 1))},
			{series(labels(), point(1<<40, 1))}, {series(labels(), point(1<<40+1, 1))}, {series(labels(), point(7, 1), point(1<<40+1, 1))}, {series(labels(), point(7, 1), point(math.MinInt64, 1))},
		} {
			for _, v := range [][]api.Result{nil, {result(5)}} {
				for _, match := range [][]api.Matcher{nil, {is("a", "x")}, {not("a", "x")}} {
					r := reference{node: leaf(5, api.FnSum, 10, match...), told: told, vector: v, series: l}
					if x := tryRead(t, r.written()); x != nil {
						count++
						x.pass(t, min(told+12, 1<<40))
						x.check(t)
					}
				}
			}
		}
	}
	if count < 150 {
		t.Errorf("only %d leaves", count)
	}
}

// P18.4: points at each time near what is kept.
func TestReadKept(t *testing.T) {
	for every := int64(1); every <= 5; every++ {
		for span := int64(1); span <= 12; span++ {
			for told := int64(0); told <= 12; told++ {
				r := reference{node: leaf(every, api.FnSum, span), told: told, vector: []api.Result{result(7, "z", "z")}}
				for time := int64(0); time <= told+every+1; time++ {
					r.series = []refSeries{{api.Series{Metric: "cpu"}, []api.Point{point(time, 1)}}}
					if x := tryRead(t, r.written()); x != nil {
						x.pass(t, told+every)
						x.check(t)
					}
					r.series[0].points = []api.Point{point(time, 1), point(time+1, 2)}
					tryRead(t, r.written())
				}
			}
		}
	}
	for _, every := range []int64{1, 3, 1 << 30} {
		end := int64(1 << 40)
		for _, told := range []int64{end - every - 1, end - every, end - every + 1, end - 1, end} {
			for _, time := range []int64{end - 1<<30 - 1, end - 1<<30, end - 1<<30 + 1, end - 1, end, end + 1} {
				r := reference{node: leaf(every, api.FnSum, 1<<30), told: told, series: []refSeries{{api.Series{Metric: "cpu"}, []api.Point{point(time, 1)}}}}
				tryRead(t, r.written())
			}
		}
	}
}

// P18.4: vectors of a leaf, and results of sides, that are vectors, or not.
func TestReadVectors(t *testing.T) {
	for _, v := range [][]api.Result{
		nil, {result(math.MinInt64), result(math.MaxInt64, "a", "x"), over("a", "x", "b", "y"), result(0, "aa", "x"), result(-1, "b", strings.Repeat("\xff", 64))},
		{{Labels: eight()}}, {over(strings.Repeat("a", 24), "\x00")}, many(4096), many(4097), {result(1), result(1)}, {result(1, "a", "x"), result(1)},
		{result(1), result(2, "b", "x"), result(3, "aa", "x")}, {result(1, "a", "x", "b", "x"), result(1, "a", "x")}, {result(1, "A", "x")}, {result(1, "a", "")},
		{result(1, "b", "x", "a", "x")}, {result(1, "a", "x", "a", "y")}, {{Labels: append(eight(), api.Label{Name: "i", Text: "x"})}},
	} {
		for _, r := range states(t) {
			r.vector = v
			tryRead(t, r.written())
		}
		for _, n := range others(5) {
			for side := range n.In {
				r := reference{node: n, told: 5, sides: make([]refSide, len(n.In))}
				r.sides[side].results = v
				r.vector = r.output()
				tryRead(t, r.written())
				r.vector = v
				tryRead(t, r.written())
			}
		}
	}
}

// P18.4: a vector that is not what an operator makes of its results.
func TestReadVectorOfOthers(t *testing.T) {
	d, good := dice(5), 0
	for range 3000 {
		r := reference{node: d.other(), told: int64(d.of(99))}
		for range r.node.In {
			r.sides = append(r.sides, refSide{results: refApply(nil, d.changes(6))})
		}
		r.vector = r.output()
		x := tryRead(t, r.written())
		if x == nil {
			t.Fatalf("%s is not read", short(r))
		}
		for _, v := range [][]api.Result{nil, refApply(r.vector, d.changes(1)), refApply(nil, d.changes(4)), r.sides[0].results} {
			r.vector = v
			if tryRead(t, r.written()) != nil {
				good++
			}
		}
	}
	if good < 100 || good > 9000 {
		t.Errorf("%d are valid", good)
	}
}

// P18.4: batches that wait, which are valid, or not.
func TestReadWaits(t *testing.T) {
	count := 0
	for _, r := range states(t)[1:] {
		next, _ := r.next(r.told)
		every := r.node.Every
		for side := range r.sides {
			for _, l := range [][]api.Batch{
				nil, {at(next)}, {at(next, put(3))}, {at(next), at(next + every)}, {at(next), at(next + every), at(next + 2*every)}, {at(next), at(next)}, {at(next + every), at(next)},
				{at(next), at(next + 2*every)}, {at(next - every)}, {at(next - 1)}, {at(next + 1)}, {at(0)}, {at(-next)}, {at(math.MinInt64)}, {at(next), at(next + every + 1)},
				{at(next, gone("z", "z"), gone(), put(1), put(2), putOver())}, {at(next, put(1, "a", ""))}, {at(next, put(1, "b", "x", "a", "x"))}, {at(next, gone("A", "x"))},
				{at(next), at(next+every, put(1, "a", strings.Repeat("x", 65)))}, {at(next, put(1, "a", strings.Repeat("x", 64)))}, {at(next, api.Change{Labels: eight()})},
				{at(next, api.Change{Labels: append(eight(), api.Label{Name: "i", Text: "x"})})},
			} {
				y := copyReference(r)
				y.sides[side].waits = l
				if x := tryRead(t, y.written()); x != nil {
					count++
					next, _ := x.r.next(x.r.told)
					x.take(t, 1, at(next))
					x.take(t, 2, at(next, put(1)))
					x.check(t)
				}
				for other := range y.sides {
					y.sides[other].waits = l
				}
				tryRead(t, y.written())
			}
		}
	}
	if count < 10 {
		t.Errorf("only %d operators", count)
	}
}

// P18.4: as many batches as may wait and results as there may be, and more.
func TestReadLong(t *testing.T) {
	var l []api.Batch
	for i := range int64(1001) {
		l = append(l, at(2+2*i, put(i)))
	}
	all := refChanges(nil, many(4096))
	for side := range 2 {
		for _, waits := range [][]api.Batch{
			l[:1], l[:999], l[:1000], l, {at(2, put(1))}, {at(2, all[:4095]...), at(4, put(1))}, {at(2, all[:4095]...), at(4, put(1)), at(6, put(2, "c", "x"))},
			{at(2, all...)}, {at(2, all...), at(4, put(1))}, {at(2, all...), at(4, put(1), gone())}, {at(2, slices.Concat(all, all, all)...)}, {at(2, put(1)), at(4, all...)},
			{at(2, refChanges(nil, many(4097))...), at(4, refChanges(many(4097), nil)...)},
		} {
			for _, results := range [][]api.Result{nil, many(1), many(4095), many(4096)} {
				r := reference{node: joined(2, api.OpAdd, "a"), told: 1, sides: make([]refSide, 2)}
				r.sides[side] = refSide{results: results, waits: waits}
				if len(waits) < 900 || len(results) < 2 {
					tryRead(t, r.written())
				}
			}
		}
	}
	// Batches at the end of all times.
	for i := range int64(4) {
		r := reference{node: joined(2, api.OpAdd), told: 1<<40 - 5, sides: make([]refSide, 2)}
		for k := range i {
			r.sides[0].waits = append(r.sides[0].waits, at(1<<40-4+2*k))
		}
		tryRead(t, r.written())
	}
}

// P18.4: bytes that are cut off, or have something behind them.
func TestReadCut(t *testing.T) {
	bad(t, "")
	if o, e := oper.Read(nil); o != nil || e != api.ErrBad {
		t.Errorf("read of nil: an operator %t, error %d", o != nil, e)
	}
	for _, r := range append(states(t), reference{node: goods()[0], sides: make([]refSide, 1)}, reference{node: leaf(5, 1, 1, is("a", "x"))}) {
		b := r.bytes()
		if tryRead(t, b) == nil {
			t.Errorf("%s is not read", short(b))
		}
		for n := range len(b) {
			bad(t, b[:n])
		}
		for _, more := range []string{"\x00", "\x01", nothing, "\x01\x00", b} {
			bad(t, b+more)
		}
	}
}

// P18.4: each byte changed in each way: what is read has those bytes, and is what
// they say.
func TestReadChanged(t *testing.T) {
	for _, r := range states(t) {
		b, count := r.bytes(), 0
		for i := range b {
			for c := range 256 {
				changed := []byte(b)
				changed[i] = byte(c)
				if tryRead(t, string(changed)) != nil {
					count++
				}
			}
		}
		if count < 2*len(b) {
			t.Errorf("only %d operators of %d bytes", count, len(b))
		}
	}
}

// P18.4: pairs of bytes changed, inserted or removed, in ways that look like
// chance.
func TestReadChance(t *testing.T) {
	d, count := dice(9), 0
	for range 20000 {
		for _, r := range states(t) {
			b := []byte(r.bytes())
			for range 1 + d.of(3) {
				i := d.of(len(b))
				switch d.of(4) {
				case 0:
					b = slices.Delete(b, i, i+1)
				case 1:
					b = slices.Insert(b, i, byte(d.of(4)))
				case 2:
					b[i] = byte(d.of(256))
				case 3:
					b[i] += byte(d.of(3)) - 1
				}
			}
			if tryRead(t, string(b)) != nil {
				count++
			}
		}
	}
	if count < 1000 {
		t.Errorf("only %d operators", count)
	}
}

// P18.4: fewer or more of something than the bytes say, and numbers that are not
// written as they should be.
func TestReadCount(t *testing.T) {
	counts := []string{"\x00", "\x01\x01", "\x01\x02", "\x01\x03", "\x01\x09", "\x01\xff", "\x02\x02\x00", "\x02\xe8\x03", "\x02\xe9\x03", "\x02\x00\x10", "\x02\x01\x10",
		"\x04\x02\x00\x00\x80", "\x05\x02\x00\x00\x00\x01", "\x08\x02\x00\x00\x00\x00\x00\x00\x80", "\x08\xff\xff\xff\xff\xff\xff\xff\xff", "\x09", "\x01\x00"}
	empty := "\x00\x00\x01\x02"
	for _, c := range counts {
		for _, b := range []string{
			leafNode[:len(leafNode)-1] + c + "\x00" + nothing,
			"\x01\x05\x01\x01\x01\x01\x00\x00\x01\x03cpu" + c + "\x01\x0a\x00\x00\x00" + nothing,
			"\x01\x05\x01\x01\x01\x01\x00\x00\x01\x03cpu" + c + "\x01\x01\x01\x01a\x00" + "\x01\x0a\x00\x00\x00" + nothing,
			"\x01\x05\x01\x01\x01\x01\x00\x00\x01\x03cpu\x00\x01\x0a" + c + "\x00\x00" + nothing,
			leafNode + c + nothing, leafNode + "\x00" + c + empty + "\x00", leafNode + "\x00" + c + "\x00", leafNode + "\x00\x00" + c,
			leafNode + "\x00\x00" + c + axKey + "\x01\x01\x01\x08\x01\x02", leafNode + "\x00\x00\x01\x01" + axKey + c + "\x01\x08\x01\x02",
			leafNode + "\x00\x00\x01\x01" + axKey + "\x01\x01" + c + "\x01\x02", leafNode + "\x00\x00\x01\x01" + axKey + c,
			leafNode + "\x00\x00\x01\x01" + axKey + "\x01\x01\x01\x08" + c, c + leafNode[2:] + "\x00" + nothing,
			joinNode + nothing + c + nothing + "\x00", joinNode + nothing + c + empty + "\x00" + nothing, joinNode + nothing + "\x00" + c + nothing,
			joinNode + nothing + "\x00" + c + "\x01\x02\x00" + nothing, joinNode + nothing + "\x00\x01\x01" + c + "\x00" + nothing,
			joinNode + nothing + "\x00\x01\x01\x01\x02" + c + nothing, joinNode + nothing + "\x00\x01\x01\x01\x02" + c + empty + nothing,
			joinNode + nothing + nothing + "\x00" + c, joinNode + nothing + nothing + c + "\x00",
		} {
			tryRead(t, b)
		}
	}
	for _, change := range []string{
		"\x00\x00\x00\x01\x02", "\x00\x00\x01", "\x00\x01", "\x00\x02", "\x00\x01\x00", "\x00\x00\x02", "\x00\x00\x00\x02\x02\x00", "\x01\x00\x00\x01\x02", "\x00\x00\x00\x09",
		"\x01\x07\x02\x01\x00a\x01\x01x\x01", "\x01\x07\x01\x01a\x01\x01x\x00\x01", "\x01\x06\x01\x01a\x01\x02x\x01", "\x01\x03\x01\x01a\x01", "\x01\x05\x01\x01a\x01\x01x\x01",
		"\x02\x06\x00\x01\x01a\x01\x01x\x01", ax + "\x01", ax + "\x00\x01", ax + "\x00\x00\x00",
	} {
		tryRead(t, joinNode+nothing+"\x00\x01\x01\x01\x02\x01\x01"+change+nothing)
		tryRead(t, joinNode+nothing+nothing+"\x00\x01\x01\x01\x02\x01\x01"+change)
	}
	if tryRead(t, joinNode+nothing+nothing+"\x00\x01\x01\x01\x02\x01\x01"+ax+"\x01") == nil {
		t.Error("a join is not read")
	}
}
