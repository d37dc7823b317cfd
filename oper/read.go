package oper

import (
	"slices"

	"waterwheel/api"
	"waterwheel/label"
	"waterwheel/number"
	"waterwheel/sample"
	"waterwheel/wire"
)

// Read returns the operator whose bytes are b.
func Read(b []byte) (*Oper, api.Errno) {
	r := wire.New(b)
	// What is no time becomes one below 0, or above MaxTime, which New refuses.
	n, told := readNode(r), int64(r.Number())
	o, e := New(n, told)
	if e != api.OK {
		return nil, api.ErrBad
	}
	var is bool
	if o.vector, is = readResults(r); !is {
		return nil, api.ErrBad
	}
	if o.isLeaf() {
		is = o.readLines(r)
	} else {
		is = o.readSides(r)
	}
	if !is || r.End() != api.OK {
		return nil, api.ErrBad
	}
	return o, api.OK
}

// readNode reads a node. It need not be valid: after an error the reader returns
// zero values.
func readNode(r *wire.Reader) (n api.Node) {
	x := &n.Expr
	n.Every = int64(r.Count(api.MaxSpan))
	x.Kind = r.Count(api.ExFilter)
	x.Func = r.Count(api.FnIncrease)
	x.Op = r.Count(api.OpNe)
	x.Num = r.Signed()
	x.Metric = r.Text()
	for range r.Count(api.MaxMatch) {
		x.Match = append(x.Match, api.Matcher{Kind: r.Count(api.MatchNot), Name: r.Text(), Text: r.Text()})
	}
	x.Span = int64(r.Count(api.MaxSpan))
	for range r.Count(api.MaxLabels) {
		x.Names = append(x.Names, r.Text())
	}
	for range r.Count(api.MaxNodes) {
		n.In = append(n.In, r.Count(api.MaxNodes))
	}
	return n
}

// readResults reads results, or returns false if they are not a vector.
func readResults(r *wire.Reader) ([]api.Result, bool) {
	var v []api.Result
	for range r.Count(api.MaxVector) {
		labels, e := label.Parse(r.Text())
		value, is := number.Read(r)
		if e != api.OK || !is {
			return nil, false
		}
		v = append(v, api.Result{Labels: labels, Value: value})
	}
	return v, r.Err() == api.OK && sample.CheckVector(v) == api.OK
}

// readLines reads the series of a leaf with their points, or returns false if
// they are not valid.
func (o *Oper) readLines(r *wire.Reader) bool {
	before := ""
	for range r.Number() {
		key := r.Text()
		s, e := sample.Parse(key)
		if e != api.OK || key <= before || !takes(o.node.Expr, s) || !o.readPoints(r, s) {
			return false
		}
		before = key
	}
	return true
}

// readPoints reads the points of a series, or returns false if there are none, or
// they are not valid.
func (o *Oper) readPoints(r *wire.Reader, s api.Series) bool {
	size, before := r.Number(), max(o.floor(), 0)
	if size == 0 {
		return false
	}
	x := o.lines.of(s)
	for range size {
		time, n := int64(r.Number()), r.Signed()
		if r.Err() != api.OK || time <= before || time > api.MaxTime {
			return false
		}
		x.add(time, n)
		before = time
	}
	return true
}

// readSides reads the sides of an operator, or returns false if they are not
// valid, or its vector is not what it makes of them.
func (o *Oper) readSides(r *wire.Reader) bool {
	for at := range o.sides.waits {
		v, is := readResults(r)
		if !is {
			return false
		}
		o.sides.results[at], o.sides.ahead[at] = v, v
		for range r.Count(api.MaxTimes) {
			b, is := readBatch(r)
			if !is || o.wait(at, b) != api.OK {
				return false
			}
		}
	}
	idle := slices.ContainsFunc(o.sides.waits, func(waits []api.Batch) bool { return len(waits) == 0 })
	return idle && sample.Same(o.vector, o.work.vector(o.told))
}

// readBatch reads a batch, or returns false if its changes are not valid.
func readBatch(r *wire.Reader) (b api.Batch, is bool) {
	b.Time = int64(r.Number())
	for range r.Number() {
		labels, e := label.Parse(r.Text())
		c := api.Change{Labels: labels, Gone: r.Truth()}
		if !c.Gone {
			c.Value, _ = number.Read(r)
		}
		if e != api.OK || r.Err() != api.OK {
			return api.Batch{}, false
		}
		b.Changes = append(b.Changes, c)
	}
	return b, r.Err() == api.OK
}
