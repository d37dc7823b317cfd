package slide

import (
	"slices"
	"testing"

	"waterwheel/api"
)

// The way of the least and the greatest: after each call the list has points of
// the window, each before those after it, and the last one of the window.
func TestList(t *testing.T) {
	for _, fn := range []int{api.FnMin, api.FnMax} {
		for span := int64(1); span < 40; span += 4 {
			s, _ := New(fn, span)
			for time := int64(1); time < 500; time++ {
				if time*time%5 < 3 {
					s.Push(time, time*time*7%31-time%50)
				} else {
					s.Go(time)
				}
				checkList(t, s)
			}
		}
	}
}

// checkList checks the list of a slide that has one.
func checkList(t *testing.T, s *Slide) {
	t.Helper()
	f := s.worth.(*extreme)
	l, points := f.list.all(), s.points.all()
	if len(points) == 0 {
		if len(l) > 0 {
			t.Fatalf("%v for no points", l)
		}
		return
	}
	if len(l) == 0 || end(l) != end(points) {
		t.Fatalf("%v for %v", l, points)
	}
	for i, p := range l {
		if !slices.Contains(points, p) || i > 0 && (p.Time <= l[i-1].Time || f.order(l[i-1].N, p.N) >= 0) {
			t.Fatalf("%v for %v", l, points)
		}
	}
}

// What has left the window does not stay in memory, however long the slide is
// used.
func TestRoom(t *testing.T) {
	for fn := api.FnSum; fn <= api.FnIncrease; fn++ {
		s, _ := New(fn, 100)
		for time := int64(1); time < 20000; time++ {
			s.Push(time, int64(2*fn-7)*time%1000)
			checkRoom(t, &s.points, 100)
			if f, is := s.worth.(*extreme); is {
				checkRoom(t, &f.list, 100)
			}
		}
		s.Go(20000 + 99)
		checkRoom(t, &s.points, 1)
		s.Go(20000 + 100)
		checkRoom(t, &s.points, 0)
	}
}

// checkRoom checks how much a deque of at most so many points keeps.
func checkRoom(t *testing.T, d *deque, most int) {
	t.Helper()
	if n := len(d.all()); n > most || len(d.list) > 2*most+1 || cap(d.list) > 8*most+8 {
		t.Fatalf("%d points, in a list of %d, with room for %d", n, len(d.list), cap(d.list))
	}
}

// A deque has the points that were added and not removed, at either end.
func TestDeque(t *testing.T) {
	var d deque
	var want []api.Point
	for i := range int64(5000) {
		switch turn := i * i % 11; {
		case turn < 5 || len(want) == 0:
			p := api.Point{Time: i, Value: api.Value{N: -i}}
			d.push(p)
			want = append(want, p)
		case turn < 6 || i/500%2 == 0:
			d.shift()
			want = want[1:]
		default:
			d.pop()
			want = want[:len(want)-1]
		}
		if l := d.all(); !slices.Equal(l, want) {
			t.Fatalf("%v, not %v", l, want)
		}
	}
}
