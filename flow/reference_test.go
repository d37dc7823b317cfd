package flow_test

import (
	"fmt"
	"slices"
	"strings"
	"testing"

	"waterwheel/api"
	"waterwheel/flow"
	"waterwheel/oper"
	"waterwheel/parse"
	"waterwheel/plan"
	"waterwheel/queue"
	"waterwheel/sample"
)

// list returns labels with these names and texts.
func list(pairs ...string) []api.Label {
	var l []api.Label
	for pair := range slices.Chunk(pairs, 2) {
		l = append(l, api.Label{Name: pair[0], Text: pair[1]})
	}
	return l
}

// from returns a sample of a metric as an item, and cpu one of cpu.
func from(metric string, time, n int64, pairs ...string) api.Item {
	s := api.Series{Metric: metric, Labels: list(pairs...)}
	return api.Item{Kind: api.ItemSample, Sample: api.Sample{Series: s, Time: time, N: n}}
}

func cpu(time, n int64, pairs ...string) api.Item {
	return from("cpu", time, n, pairs...)
}

// pass returns a time as an item.
func pass(time int64) api.Item {
	return api.Item{Kind: api.ItemPass, Time: time}
}

// at returns a batch.
func at(time int64, l ...api.Change) api.Batch {
	return api.Batch{Time: time, Changes: l}
}

// put returns a change to a number, over one to a value that is over, and gone one
// by which something goes.
func put(n int64, pairs ...string) api.Change {
	return api.Change{Labels: list(pairs...), Value: api.Value{N: n}}
}

func over(pairs ...string) api.Change {
	return api.Change{Labels: list(pairs...), Value: api.Value{Over: true}}
}

func gone(pairs ...string) api.Change {
	return api.Change{Labels: list(pairs...), Gone: true}
}

// planOf returns the plan of queries, with their roots.
func planOf(t *testing.T, texts ...string) ([]api.Node, []int) {
	t.Helper()
	var l []api.Query
	for _, s := range texts {
		q, f := parse.Query(s)
		if f != (api.Fault{}) {
			t.Fatal(s, f)
		}
		l = append(l, q)
	}
	p, roots, e := plan.Of(l)
	if e != api.OK {
		t.Fatal(e)
	}
	return p, roots
}

// all returns the numbers of all nodes.
func all(p []api.Node) (l []int) {
	for i := range p {
		l = append(l, i+1)
	}
	return l
}

// dump returns all that batches have as a text. Equal lists have the same one.
func dump(l ...api.Batch) string {
	var b strings.Builder
	for _, x := range l {
		fmt.Fprintf(&b, "%d:", x.Time)
		for _, c := range x.Changes {
			fmt.Fprintf(&b, " %q %d %t %t,", c.Labels, c.N, c.Over, c.Gone)
		}
		b.WriteString("\n")
	}
	return b.String()
}

// short returns the beginning of a text.
func short(s string) string {
	if len(s) > 500 {
		return s[:500] + " and more"
	}
	return s
}

// A reference is what a flow has. It says the same as the chapter: what a node would
// emit is tried by a copy of its operator.
type reference struct {
	nodes   []api.Node
	room    int
	opers   []*oper.Oper
	queues  [][][]api.Item // of each side of each node
	outlets map[int][]api.Batch
}

// newReference returns a new flow.
func newReference(t *testing.T, p []api.Node, taps []int, mark int64, room int) *reference {
	t.Helper()
	r := &reference{nodes: p, room: room, outlets: map[int][]api.Batch{}}
	for _, n := range p {
		o, e := oper.New(n, mark)
		if e != api.OK {
			t.Fatal(e)
		}
		r.opers = append(r.opers, o)
		r.queues = append(r.queues, make([][]api.Item, max(1, len(n.In))))
	}
	for _, tap := range taps {
		r.outlets[tap] = nil
	}
	return r
}

// isLeaf reports whether a node is a leaf.
func (r *reference) isLeaf(node int) bool {
	return r.nodes[node-1].Expr.Kind == api.ExWindow
}

// feed says what Feed says.
func (r *reference) feed(l ...api.Item) api.Errno {
	for _, i := range l {
		if queue.Check(i) != api.OK || i.Kind == api.ItemBatch {
			return api.ErrArg
		}
	}
	for i := range r.nodes {
		if r.isLeaf(i+1) && len(r.queues[i][0])+len(l) > r.room {
			return api.ErrBusy
		}
	}
	for i := range r.nodes {
		if r.isLeaf(i + 1) {
			r.queues[i][0] = slices.Concat(r.queues[i][0], l)
		}
	}
	return api.OK
}

// space returns for how many batches of a node there is room.
func (r *reference) space(node int) int {
	space := 1 << 30
	for i, n := range r.nodes {
		for side, in := range n.In {
			if in == node {
				space = min(space, r.room-len(r.queues[i][side]))
			}
		}
	}
	if l, is := r.outlets[node]; is {
		space = min(space, r.room-len(l))
	}
	return space
}

// A move is what a node does next: on which side, what it emits, its operator then,
// and whether the item is removed.
type move struct {
	side  int
	emits []api.Batch
	oper  *oper.Oper
	whole bool
}

// move returns what a node does next, or false if it cannot step.
func (r *reference) move(t *testing.T, node int) (move, bool) {
	t.Helper()
	for side, items := range r.queues[node-1] {
		if len(items) == 0 {
			continue
		}
		o, e := oper.Read(r.opers[node-1].Bytes())
		if e != api.OK {
			t.Fatal(e)
		}
		m, is := move{side: side, oper: o, whole: true}, true
		switch i := items[0]; i.Kind {
		case api.ItemSample:
			o.Sample(i.Sample)
		case api.ItemPass:
			is = r.passes(t, &m, node, i.Time)
		case api.ItemBatch:
			m.emits, e = o.Take(side+1, i.Batch)
			is = e == api.OK && len(m.emits) <= r.space(node)
			if e != api.OK && (e != api.ErrLong || o.Waits(side+1) != 1000) {
				t.Fatalf("take: error %d", e)
			}
		}
		if is {
			return m, true
		}
	}
	return move{}, false
}

// passes lets the leaf of a move pass a time, or a part of it, or returns false if
// there is no room.
func (r *reference) passes(t *testing.T, m *move, node int, time int64) bool {
	t.Helper()
	told, every := m.oper.Told(), r.nodes[node-1].Every
	if time <= told {
		return true
	}
	room := min(int64(r.space(node)), 1000)
	if time/every-told/every > room {
		if room == 0 {
			return false
		}
		m.whole, time = false, (told/every+room)*every
	}
	var e api.Errno
	if m.emits, e = m.oper.Pass(time); e != api.OK {
		t.Fatalf("pass: error %d", e)
	}
	return true
}

// step says what Step says.
func (r *reference) step(t *testing.T, node int) bool {
	t.Helper()
	m, is := r.move(t, node)
	if !is {
		return false
	}
	r.opers[node-1] = m.oper
	if items := r.queues[node-1]; m.whole {
		items[m.side] = items[m.side][1:]
	}
	for _, b := range m.emits {
		for i, n := range r.nodes {
			for side, in := range n.In {
				if in == node {
					r.queues[i][side] = append(r.queues[i][side], api.Item{Kind: api.ItemBatch, Batch: b})
				}
			}
		}
		if _, is := r.outlets[node]; is {
			r.outlets[node] = append(r.outlets[node], b)
		}
	}
	return true
}

// run says what Run says.
func (r *reference) run(t *testing.T, picks []int) (steps int) {
	t.Helper()
	for _, pick := range picks {
		n := int64(len(r.nodes))
		if n > 0 && r.step(t, 1+int((int64(pick)%n+n)%n)) {
			steps++
		}
	}
	return steps
}

// drain says what Drain says: after each step it begins with the first node again.
func (r *reference) drain(t *testing.T) (steps int) {
	t.Helper()
	for node := 1; node <= len(r.nodes); node++ {
		if r.step(t, node) {
			steps, node = steps+1, 0
		}
	}
	return steps
}

// take says what Take says.
func (r *reference) take(node int) (api.Batch, api.Errno) {
	l, is := r.outlets[node]
	switch {
	case !is:
		return api.Batch{}, api.ErrArg
	case len(l) == 0:
		return api.Batch{}, api.ErrNone
	}
	r.outlets[node] = l[1:]
	return l[0], api.OK
}

// idle says what Idle says.
func (r *reference) idle() bool {
	for _, sides := range r.queues {
		for _, items := range sides {
			if len(items) > 0 {
				return false
			}
		}
	}
	return true
}

// A pair is a flow with what it should be.
type pair struct {
	f *flow.Flow
	r *reference
}

// made returns a new flow.
func made(t *testing.T, p []api.Node, taps []int, mark int64, room int) *pair {
	t.Helper()
	f, e := flow.New(p, taps, mark, room)
	if e != api.OK || f == nil {
		t.Fatalf("%d nodes: a flow %t, error %d", len(p), f != nil, e)
	}
	x := &pair{f, newReference(t, p, taps, mark, room)}
	x.check(t)
	return x
}

// feed feeds both.
func (x *pair) feed(t *testing.T, l ...api.Item) api.Errno {
	t.Helper()
	e, want := x.f.Feed(l...), x.r.feed(l...)
	if e != want {
		t.Fatalf("feed of %d items: error %d, not %d", len(l), e, want)
	}
	return e
}

// step lets a node of both step.
func (x *pair) step(t *testing.T, node int) bool {
	t.Helper()
	can := x.f.Can(node)
	did, e := x.f.Step(node)
	if want := x.r.step(t, node); did != want || can != want || e != api.OK {
		t.Fatalf("step of %d: %t, not %t, after can %t, error %d", node, did, want, can, e)
	}
	return did
}

// run lets the picked nodes of both step.
func (x *pair) run(t *testing.T, picks ...int) int {
	t.Helper()
	n := x.f.Run(picks)
	if want := x.r.run(t, picks); n != want {
		t.Fatalf("run of %d: %d, not %d", picks, n, want)
	}
	return n
}

// drain drains both.
func (x *pair) drain(t *testing.T) int {
	t.Helper()
	n := x.f.Drain()
	if want := x.r.drain(t); n != want {
		t.Fatalf("drain: %d, not %d", n, want)
	}
	return n
}

// take takes a batch of both.
func (x *pair) take(t *testing.T, node int) (api.Batch, api.Errno) {
	t.Helper()
	b, e := x.f.Take(node)
	if want, wantError := x.r.take(node); e != wantError || dump(b) != dump(want) {
		t.Fatalf("take of %d: %s, error %d, not %s, error %d", node, dump(b), e, dump(want), wantError)
	}
	return b, e
}

// check checks all that a flow has.
func (x *pair) check(t *testing.T) {
	t.Helper()
	for i, o := range x.r.opers {
		x.checkNode(t, i+1, o)
	}
	if is := x.f.Idle(); is != x.r.idle() {
		t.Fatalf("idle %t", is)
	}
	for _, node := range []int{-1, 0, len(x.r.nodes) + 1} {
		wantNothing(t, x.f, node)
	}
}

// checkNode checks all that a node has.
func (x *pair) checkNode(t *testing.T, node int, o *oper.Oper) {
	t.Helper()
	if string(x.f.Oper(node)) != string(o.Bytes()) || x.f.Told(node) != o.Told() {
		t.Fatalf("node %d has emitted up to %d, not %d, or its operator is another one", node, x.f.Told(node), o.Told())
	}
	if v := sample.Lines(x.f.Vector(node)); v != sample.Lines(o.Vector()) {
		t.Fatalf("node %d has the vector %s", node, short(v))
	}
	var sizes []int
	for _, items := range x.r.queues[node-1] {
		sizes = append(sizes, len(items))
	}
	if l := x.f.Queues(node); !slices.Equal(l, sizes) || slices.Max(l) > x.r.room {
		t.Fatalf("node %d has queues of %d, not %d", node, l, sizes)
	}
	want := x.r.outlets[node]
	if l := x.f.Outlet(node); dump(l...) != dump(want...) || len(l) > x.r.room {
		t.Fatalf("node %d has the outlet %s, not %s", node, short(dump(l...)), short(dump(want...)))
	}
	if _, is := x.r.move(t, node); x.f.Can(node) != is {
		t.Fatalf("node %d can step: %t, not %t", node, !is, is)
	}
}

// wantNothing checks that a number is not that of a node.
func wantNothing(t *testing.T, f *flow.Flow, node int) {
	t.Helper()
	if f.Told(node) != 0 || len(f.Vector(node)) != 0 || len(f.Queues(node)) != 0 || len(f.Outlet(node)) != 0 || len(f.Oper(node)) != 0 || f.Can(node) {
		t.Errorf("node %d has something", node)
	}
}

// wantQueues checks the number of items of each queue of all nodes, given by hand.
func (x *pair) wantQueues(t *testing.T, want ...int) {
	t.Helper()
	var l []int
	for i := range x.r.nodes {
		l = append(l, x.f.Queues(i+1)...)
	}
	if !slices.Equal(l, want) {
		t.Errorf("queues of %d, not %d", l, want)
	}
	x.check(t)
}

// wantBatches takes batches, given by hand, until there are none.
func (x *pair) wantBatches(t *testing.T, node int, want ...api.Batch) {
	t.Helper()
	var l []api.Batch
	for {
		b, e := x.take(t, node)
		if e != api.OK {
			break
		}
		l = append(l, b)
	}
	if dump(l...) != dump(want...) {
		t.Errorf("batches %s, not %s", short(dump(l...)), short(dump(want...)))
	}
	x.check(t)
}
