package queue

import (
	"slices"

	"waterwheel/api"
	"waterwheel/sample"
)

// Check returns ErrArg if an item is not valid.
func Check(i api.Item) api.Errno {
	is, rest := false, i
	switch i.Kind {
	case api.ItemSample:
		is, rest.Sample = sample.Check(i.Sample) == api.OK, api.Sample{}
	case api.ItemPass:
		is, rest.Time = i.Time >= 0 && i.Time <= api.MaxTime, 0
	case api.ItemBatch:
		is, rest.Batch = validBatch(i.Batch), api.Batch{}
	}
	if !is || !Same(rest, api.Item{Kind: i.Kind}) {
		return api.ErrArg
	}
	return api.OK
}

// Same reports whether two items are equal.
func Same(a, b api.Item) bool {
	return a.Kind == b.Kind && a.Time == b.Time && sameSample(a.Sample, b.Sample) && sameBatch(a.Batch, b.Batch)
}

// sameSample reports whether two samples are equal.
func sameSample(a, b api.Sample) bool {
	return a.Metric == b.Metric && a.Time == b.Time && a.N == b.N && slices.Equal(a.Labels, b.Labels)
}

// sameBatch reports whether two batches are equal.
func sameBatch(a, b api.Batch) bool {
	return a.Time == b.Time && slices.EqualFunc(a.Changes, b.Changes, sameChange)
}

// sameChange reports whether two changes are equal.
func sameChange(a, b api.Change) bool {
	return a.Value == b.Value && a.Gone == b.Gone && slices.Equal(a.Labels, b.Labels)
}

// validBatch reports whether a batch is valid.
func validBatch(b api.Batch) bool {
	return b.Time >= 1 && b.Time <= api.MaxTime && !slices.ContainsFunc(b.Changes, wrong)
}

// wrong reports whether a change is not valid. Its labels and its value are valid
// if they are a vector.
func wrong(c api.Change) bool {
	v := []api.Result{{Labels: c.Labels, Value: c.Value}}
	return sample.CheckVector(v) != api.OK || c.Gone && c.Value != api.Value{}
}

// copyOf returns an item with lists of its own.
func copyOf(i api.Item) api.Item {
	i.Sample.Labels = slices.Clone(i.Sample.Labels)
	l := slices.Clone(i.Batch.Changes)
	for at := range l {
		l[at].Labels = slices.Clone(l[at].Labels)
	}
	i.Batch.Changes = l
	return i
}
