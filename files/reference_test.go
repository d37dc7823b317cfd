package files_test

import (
	"fmt"
	"maps"
	"slices"
	"strings"
	"testing"

	"waterwheel/api"
	"waterwheel/files"
)

// The kinds of calls that change something, and Read, which may set off a fuse.
const (
	doMake = iota
	doAppend
	doSync
	doSyncNames
	doRename
	doRemove
	doRead
	doFuse
	doCrash
)

// A call is a call of a disk: by its kind it has a name, another name or bytes, and
// a number and parts.
type call struct {
	kind  int
	name  string
	more  string
	n     int
	parts []int
}

// The calls.
func create(name string) call        { return call{kind: doMake, name: name} }
func add(name, bytes string) call    { return call{kind: doAppend, name: name, more: bytes} }
func sync(name string) call          { return call{kind: doSync, name: name} }
func syncNames() call                { return call{kind: doSyncNames} }
func rename(from, to string) call    { return call{kind: doRename, name: from, more: to} }
func remove(name string) call        { return call{kind: doRemove, name: name} }
func read(name string) call          { return call{kind: doRead, name: name} }
func fuse(n int) call                { return call{kind: doFuse, n: n} }
func crash(n int, parts ...int) call { return call{kind: doCrash, n: n, parts: parts} }

// on makes a call. It returns the bytes that the call returns, and its error.
func (c call) on(d *files.Disk) (string, api.Errno) {
	switch c.kind {
	case doMake:
		return "", d.Make(c.name)
	case doAppend:
		return "", d.Append(c.name, []byte(c.more))
	case doSync:
		return "", d.Sync(c.name)
	case doSyncNames:
		return "", d.SyncNames()
	case doRename:
		return "", d.Rename(c.name, c.more)
	case doRemove:
		return "", d.Remove(c.name)
	case doRead:
		b, e := d.Read(c.name)
		return string(b), e
	case doFuse:
		return "", d.Fuse(c.n)
	}
	return "", d.Crash(c.n, c.parts)
}

// isName says whether a text is the name of a file.
func isName(s string) bool {
	return len(s) >= 1 && len(s) <= 24 && strings.Trim(s, "abcdefghijklmnopqrstuvwxyz0123456789-.") == ""
}

// A reference is what a disk has. It says the same as the chapter, with numbers of
// files, and with all pictures of their names: the safe one, and that after each
// change that is not safe.
type reference struct {
	room  int
	bytes []string
	safe  []int
	names []map[string]int

	fuse []int // that which is set, or none
	off  bool
}

// newReference returns a reference for a new disk.
func newReference(room int) *reference {
	return &reference{room: room, names: []map[string]int{{}}}
}

// now returns the files by name.
func (r *reference) now() map[string]int {
	return r.names[len(r.names)-1]
}

// left says what Left says.
func (r *reference) left() int {
	n := r.room
	for _, id := range r.now() {
		n -= len(r.bytes[id])
	}
	return n
}

// change adds a picture: that of now, without names, and with a file that has a
// name, if it is not empty.
func (r *reference) change(name string, id int, without ...string) {
	next := maps.Clone(r.now())
	for _, s := range without {
		delete(next, s)
	}
	if name != "" {
		next[name] = id
	}
	r.names = append(r.names, next)
}

// part says how many of all things are the first ones.
func part(n, all int) int {
	if n < 0 {
		return 0
	}
	return n % (all + 1)
}

// crash does what Crash does.
func (r *reference) crash(n int, parts []int) {
	now := r.names[part(n, len(r.names)-1)]
	for i, name := range slices.Sorted(maps.Keys(now)) {
		id, more := now[name], 0
		if i < len(parts) {
			more = part(parts[i], len(r.bytes[id])-r.safe[id])
		}
		r.safe[id] += more
		r.bytes[id] = r.bytes[id][:r.safe[id]]
	}
	r.names, r.fuse, r.off = []map[string]int{now}, nil, false
}

// operates says whether a call is an operation, and its error if it is not.
func (r *reference) operates(c call) (bool, api.Errno) {
	if c.kind == doFuse || c.kind == doCrash {
		return false, api.OK
	}
	if c.kind != doSyncNames && !isName(c.name) || c.kind == doRename && !isName(c.more) {
		return false, api.ErrArg
	}
	if r.off {
		return false, api.ErrOff
	}
	return true, api.OK
}

// do does what a call does.
func (r *reference) do(c call) (string, api.Errno) {
	if is, e := r.operates(c); e != api.OK {
		return "", e
	} else if is && len(r.fuse) > 0 {
		if r.fuse[0] == 0 {
			r.fuse, r.off = nil, true
			return "", api.ErrOff
		}
		r.fuse[0]--
	}
	id, is := r.now()[c.name]
	switch {
	case c.kind == doFuse && c.n < 0:
		r.fuse = nil
	case c.kind == doFuse:
		r.fuse = []int{c.n}
	case c.kind == doCrash:
		r.crash(c.n, c.parts)
	case c.kind == doSyncNames:
		r.names = r.names[len(r.names)-1:]
	case c.kind == doMake && is:
		return "", api.ErrThere
	case c.kind == doMake:
		r.bytes, r.safe = append(r.bytes, ""), append(r.safe, 0)
		r.change(c.name, len(r.bytes)-1)
	case !is:
		return "", api.ErrNone
	case c.kind == doRead:
		return r.bytes[id], api.OK
	case c.kind == doAppend && (r.left() < 0 || len(c.more) > r.left()):
		return "", api.ErrFull
	case c.kind == doAppend:
		r.bytes[id] += c.more
	case c.kind == doSync:
		r.safe[id] = len(r.bytes[id])
	case c.kind == doRename && c.name != c.more:
		r.change(c.more, id, c.name)
	case c.kind == doRemove:
		r.change("", 0, c.name)
	}
	return "", api.OK
}

// A pair is a disk, and the reference with which it is compared.
type pair struct {
	d *files.Disk
	r *reference
}

// made returns a new pair, on which calls were made.
func made(t *testing.T, room int, l ...call) *pair {
	t.Helper()
	d, e := files.New(room)
	if e != api.OK {
		t.Fatalf("a disk of %d: error %d", room, e)
	}
	x := &pair{d, newReference(room)}
	x.do(t, l...)
	return x
}

// do makes calls, checks what each returns, and what there is afterwards. It returns
// the error of the last one.
func (x *pair) do(t *testing.T, l ...call) (last api.Errno) {
	t.Helper()
	for _, c := range l {
		want, wantErr := x.r.do(c)
		b, e := c.on(x.d)
		if b != want || e != wantErr {
			t.Fatalf("%+v: %q, error %d, not %q, error %d", c, b, e, want, wantErr)
		}
		x.check(t)
		last = e
	}
	return last
}

// check checks what is seen without an operation.
func (x *pair) check(t *testing.T) {
	t.Helper()
	names := slices.Sorted(maps.Keys(x.r.now()))
	if l := x.d.Names(); !slices.Equal(l, names) || x.d.Left() != x.r.left() || x.d.On() == x.r.off {
		t.Fatalf("files %q, %d left, on: %t; not %q, %d, %t", l, x.d.Left(), x.d.On(), names, x.r.left(), !x.r.off)
	}
	for _, s := range names {
		if x.d.Size(s) != len(x.r.bytes[x.r.now()[s]]) {
			t.Fatalf("%s has %d bytes", s, x.d.Size(s))
		}
	}
	for _, s := range []string{"a", "b", "nobody", "", "A"} {
		if _, is := x.r.now()[s]; !is && x.d.Size(s) != -1 {
			t.Fatalf("%s has %d bytes, but is not there", s, x.d.Size(s))
		}
	}
}

// want checks all files, with their bytes: each text is a name, a colon and bytes.
func (x *pair) want(t *testing.T, l ...string) {
	t.Helper()
	if have := dump(t, x.d); !slices.Equal(have, l) {
		t.Fatalf("%q, not %q", have, l)
	}
}

// dump returns all files of a disk that is on and has no fuse.
func dump(t *testing.T, d *files.Disk) (l []string) {
	t.Helper()
	for _, name := range d.Names() {
		b, e := d.Read(name)
		if e != api.OK || d.Size(name) != len(b) {
			t.Fatalf("%s: size %d, error %d", name, d.Size(name), e)
		}
		l = append(l, fmt.Sprintf("%s:%s", name, b))
	}
	return l
}

// reads reads all files, and compares them with the reference.
func (x *pair) reads(t *testing.T) {
	t.Helper()
	for _, name := range x.d.Names() {
		x.do(t, read(name))
	}
}
