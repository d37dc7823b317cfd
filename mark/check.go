package mark

import (
	"waterwheel/api"
	"waterwheel/buffer"
	"waterwheel/sample"
)

// May returns why a sample is not accepted, or OK if it is.
func (i *Intake) May(s api.Sample) api.Errno {
	for _, c := range i.checks() {
		if e := c(s); e != api.OK {
			return e
		}
	}
	return api.OK
}

// A check returns an error if a sample is not accepted.
type check func(s api.Sample) api.Errno

// checks returns all checks. Each one relies on those before it.
func (i *Intake) checks() []check {
	return []check{i.exists, sample.Check, i.inTime, i.notThere, i.fits}
}

// exists returns an error if the intake is not valid.
func (i *Intake) exists(api.Sample) api.Errno {
	if !i.valid() {
		return api.ErrNil
	}
	return api.OK
}

// inTime returns an error if a sample is late.
func (i *Intake) inTime(s api.Sample) api.Errno {
	if s.Time <= i.Mark() {
		return api.ErrLate
	}
	return api.OK
}

// notThere returns an error if the series has a sample at this time. Samples that
// were removed are late.
func (i *Intake) notThere(s api.Sample) api.Errno {
	if _, is := i.of(s.Series).At(s.Time); is {
		return api.ErrThere
	}
	return api.OK
}

// fits returns an error if there is no room for another series, or for another
// sample of this one.
func (i *Intake) fits(s api.Sample) api.Errno {
	b := i.of(s.Series)
	if b == nil && i.Series() == api.MaxSeries || b.Len() == api.MaxPoints {
		return api.ErrLong
	}
	return api.OK
}

// of returns the buffer of a series, or nil, which has no points, if there is none.
func (i *Intake) of(s api.Series) *buffer.Buffer {
	id, is := i.table.Find(s)
	if !is {
		return nil
	}
	return i.buffers[id-1]
}
