package queue_test

import (
	"math"
	"slices"
	"strings"
	"testing"

	"waterwheel/api"
	"waterwheel/queue"
)

// times returns times at the limits and beyond.
func times() []int64 {
	return []int64{math.MinInt64, -1 << 40, -1, 0, 1, 2, 1<<32 - 1, 1 << 32, 1<<40 - 1, 1 << 40, 1<<40 + 1, 1 << 41, math.MaxInt64}
}

// sets returns sets of labels, some of which are valid.
func sets() [][]api.Label {
	return [][]api.Label{
		nil, {}, list("a", "x"), list("a", "x", "b", "x"), list("aa", "x", "b", "x"), eight(), list("_", "\x00\xff"),
		list(strings.Repeat("z", 24), strings.Repeat("\"", 64)), list("b", "x", "a", "x"), list("a", "x", "a", "x"), list("a", "x", "a", "y"),
		list("b", "x", "aa", "x"), append(eight(), api.Label{Name: "i", Text: "9"}), list("", "x"), list("a", ""), list("", ""), list("A", "x"),
		list("9", "x"), list("a-b", "x"), list("a", "x", "b", ""), list(strings.Repeat("z", 25), "x"), list("a", strings.Repeat("x", 65)),
		slices.Repeat(list("a", "x"), 9),
	}
}

// samples returns items with a sample, some of which are valid.
func samples() (l []api.Item) {
	for _, n := range times() {
		l = append(l, of(n, 1), of(n, -1, "a", "x"), of(5, n))
	}
	for _, metric := range []string{"", "a", "_", "9", "a9", "A", "a b", "cpu\x00", strings.Repeat("z", 24), strings.Repeat("z", 25)} {
		l = append(l, from(api.Series{Metric: metric}, 3, 4))
	}
	for _, labels := range sets() {
		l = append(l, from(api.Series{Metric: "cpu", Labels: labels}, 3, 4))
	}
	return l
}

// passes returns items with a time, some of which are valid.
func passes() (l []api.Item) {
	for _, n := range times() {
		l = append(l, pass(n))
	}
	return l
}

// batches returns items with a batch, some of which are valid.
func batches() (l []api.Item) {
	for _, n := range times() {
		l = append(l, at(n), at(n, put(1)), at(5, put(n)), at(5, over(), put(n, "a", "x")))
	}
	changes := []api.Change{
		put(0), over(), gone(), {Value: api.Value{N: 1, Over: true}}, {Value: api.Value{N: math.MinInt64, Over: true}},
		{Gone: true, Value: api.Value{N: 1}}, {Gone: true, Value: api.Value{Over: true}}, {Gone: true, Value: api.Value{N: -1, Over: true}},
	}
	for _, labels := range sets() {
		changes = append(changes, api.Change{Labels: labels}, api.Change{Labels: labels, Gone: true}, api.Change{Labels: labels, Value: api.Value{Over: true}})
	}
	for _, c := range changes {
		l = append(l, at(5, c), at(5, put(1), c), at(5, c, put(1)), at(5, gone("z", "z"), c, c, put(-1, "z", "z")))
	}
	return append(l, at(5, []api.Change{}...))
}

// all returns items of each kind, some of which are valid.
func all() []api.Item {
	return slices.Concat(samples(), passes(), batches())
}

// good returns those that are valid.
func good(l []api.Item) []api.Item {
	return slices.DeleteFunc(slices.Clone(l), func(i api.Item) bool { return !isItem(i) })
}

// wantCheck checks what Check says of an item.
func wantCheck(t *testing.T, i api.Item) {
	t.Helper()
	want := api.ErrArg
	if isItem(i) {
		want = api.OK
	}
	if e := queue.Check(i); e != want {
		t.Errorf("check of %s: error %d, not %d", short(dump(i)), e, want)
	}
}

// P19.1: items at the limits, and those that are not valid.
func TestCheck(t *testing.T) {
	for _, l := range [][]api.Item{samples(), passes(), batches()} {
		for _, i := range l {
			wantCheck(t, i)
		}
		if n := len(good(l)); n < 5 || n > len(l)-5 {
			t.Errorf("%d of %d items are valid", n, len(l))
		}
	}
	for _, i := range []api.Item{
		of(1, math.MinInt64), of(1<<40, math.MaxInt64, "a", "x"), pass(0), pass(1), pass(1 << 40), at(1), at(1<<40, put(5), put(6), gone(), over()), at(5, gone("b", "x"), over("a", "x")),
	} {
		if e := queue.Check(i); e != api.OK {
			t.Errorf("check of %s: error %d", short(dump(i)), e)
		}
	}
	for _, i := range []api.Item{
		{}, of(0, 1), of(1<<40+1, 1), of(5, 1, "a", ""), from(api.Series{}, 5, 1), pass(-1), pass(1<<40 + 1), at(0), at(-5), at(1<<40+1, put(5)), at(5, put(6, "a", "")),
		{Kind: api.ItemSample}, {Kind: api.ItemBatch}, {Kind: 4}, {Time: 5},
		of(5, 1, "a", strings.Repeat("x", 1<<20+1)), at(5, put(1), gone(strings.Repeat("a", 1<<20+1), "x")),
	} {
		if e := queue.Check(i); e != api.ErrArg {
			t.Errorf("check of %s: error %d", short(dump(i)), e)
		}
	}
}

// P19.1: items of each kind, of which a field has something.
func TestCheckFields(t *testing.T) {
	changes := []func(i *api.Item){
		func(i *api.Item) { i.Sample.Metric = "cpu" }, func(i *api.Item) { i.Sample.Metric = "\x00" },
		func(i *api.Item) { i.Sample.Labels = list("a", "x") }, func(i *api.Item) { i.Sample.Labels = list("", "") },
		func(i *api.Item) { i.Sample.Labels = []api.Label{} }, func(i *api.Item) { i.Sample.Time = 1 }, func(i *api.Item) { i.Sample.Time = -1 << 63 },
		func(i *api.Item) { i.Sample.N = 1 }, func(i *api.Item) { i.Sample.N = -1 << 63 }, func(i *api.Item) { i.Sample = of(5, 1).Sample },
		func(i *api.Item) { i.Time = 1 }, func(i *api.Item) { i.Time = -1 << 63 },
		func(i *api.Item) { i.Batch.Time = 1 }, func(i *api.Item) { i.Batch.Time = -1 }, func(i *api.Item) { i.Batch.Changes = []api.Change{} },
		func(i *api.Item) { i.Batch.Changes = []api.Change{{}} }, func(i *api.Item) { i.Batch.Changes = []api.Change{put(1, "a", "x")} },
		func(i *api.Item) { i.Batch = at(5, put(1)).Batch },
		func(i *api.Item) { i.Sample, i.Time, i.Batch = api.Sample{}, 0, api.Batch{} },
	}
	count := 0
	for _, old := range []api.Item{of(5, 1), of(1<<40, -1, "a", "x"), pass(0), pass(1 << 40), at(5), at(1, put(1), gone("a", "x")), {}} {
		for _, kind := range []int{math.MinInt, -3, -2, -1, 0, 1, 2, 3, 4, 5, 257, 258, 259, 1<<32 + 1, 1<<32 + 2, math.MaxInt} {
			i := old
			i.Kind = kind
			wantCheck(t, i)
			for _, change := range changes {
				i := i
				change(&i)
				wantCheck(t, i)
				if isItem(i) {
					count++
				}
			}
		}
	}
	if count < 20 {
		t.Errorf("only %d items are valid", count)
	}
}

// P19.1: a batch may have more changes than a vector has results.
func TestCheckMany(t *testing.T) {
	for _, n := range []int{1, 4096, 4097, 20000} {
		i := at(5, slices.Repeat([]api.Change{put(1), gone(), over("a", "x")}, n)...)
		wantCheck(t, i)
		for _, wrong := range []int{0, 1, 3*n - 1} {
			i := at(5, slices.Clone(i.Batch.Changes)...)
			i.Batch.Changes[wrong] = put(1, "a", "")
			wantCheck(t, i)
		}
	}
}

// copyOf returns an equal item with lists of its own, which are not nil.
func copyOf(i api.Item) api.Item {
	i.Sample.Labels = append([]api.Label{}, i.Sample.Labels...)
	i.Batch.Changes = append([]api.Change{}, i.Batch.Changes...)
	for at, c := range i.Batch.Changes {
		i.Batch.Changes[at].Labels = append([]api.Label{}, c.Labels...)
	}
	return i
}

// P19.2: Same of all pairs of some items, valid or not.
func TestSame(t *testing.T) {
	l := all()
	full := api.Item{Kind: 3, Sample: of(5, 6, "a", "x").Sample, Time: 7, Batch: at(8, put(9, "b", "y"), gone("c", "z"), over("d", "z")).Batch}
	l = append(l, api.Item{}, full, full)
	for n := range 19 {
		i := copyOf(full)
		change, label := &i.Batch.Changes[0], &i.Batch.Changes[0].Labels[0]
		switch n {
		case 0:
			i.Kind = 2
		case 1:
			i.Sample.Metric = "cp"
		case 2:
			i.Sample.Labels[0].Name = "b"
		case 3:
			i.Sample.Labels[0].Text = "y"
		case 4:
			i.Sample.Labels = append(i.Sample.Labels, api.Label{Name: "b", Text: "y"})
		case 5:
			i.Sample.Labels = nil
		case 6:
			i.Sample.Time = 6
		case 7:
			i.Sample.N = 5
		case 8:
			i.Time = 8
		case 9:
			i.Batch.Time = 7
		case 10:
			i.Batch.Changes = i.Batch.Changes[:2]
		case 11:
			i.Batch.Changes = append(i.Batch.Changes, gone())
		case 12:
			slices.Reverse(i.Batch.Changes)
		case 13:
			label.Name = "c"
		case 14:
			label.Text = "x"
		case 15:
			change.Labels = nil
		case 16:
			change.N = 8
		case 17:
			change.Over = true
		case 18:
			change.Gone = true
		}
		l = append(l, i)
	}
	var texts []string
	for _, a := range l {
		texts = append(texts, dump(a))
	}
	for n, a := range l {
		for m, b := range l {
			if want := texts[n] == texts[m]; queue.Same(a, b) != want {
				t.Fatalf("same of %s and %s is not %t", short(texts[n]), short(texts[m]), want)
			}
		}
		if b := copyOf(a); !queue.Same(a, b) || !queue.Same(b, a) {
			t.Errorf("%s and its copy are not the same", short(dump(a)))
		}
	}
}
