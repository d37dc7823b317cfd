package log_test

import (
	"encoding/binary"
	"fmt"
	"hash/crc32"
	"regexp"
	"slices"
	"strconv"
	"strings"
	"testing"

	"waterwheel/api"
	"waterwheel/files"
	"waterwheel/log"
)

// The kinds of calls: those of a log, those of its disk, and what somebody else does to
// the disk.
const (
	doAppend = iota
	doSync
	doNext
	doOpen
	doFuse
	doCrash
	doMake
	doBytes
	doRemove
)

// A call is a call of a log or of its disk: by its kind it has records, a number and
// parts, or a file and bytes.
type call struct {
	kind    int
	records []string
	n       int
	parts   []int
	file    string
	bytes   string
}

// The calls.
func add(l ...string) call             { return call{kind: doAppend, records: l} }
func sync() call                       { return call{kind: doSync} }
func next(l ...string) call            { return call{kind: doNext, records: l} }
func open() call                       { return call{kind: doOpen} }
func fuse(n int) call                  { return call{kind: doFuse, n: n} }
func crash(n int, parts ...int) call   { return call{kind: doCrash, n: n, parts: parts} }
func create(file string) call          { return call{kind: doMake, file: file} }
func addBytes(file, bytes string) call { return call{kind: doBytes, file: file, bytes: bytes} }
func remove(file string) call          { return call{kind: doRemove, file: file} }
func put(file string, b string) []call { return []call{create(file), addBytes(file, b)} }
func putAll(b string, l ...string) (s []call) {
	for _, file := range l {
		s = append(s, put(file, b)...)
	}
	return s
}

// bytesOf returns records as an argument.
func bytesOf(l []string) (b [][]byte) {
	for _, s := range l {
		b = append(b, []byte(s))
	}
	return b
}

// textsOf returns records as texts.
func textsOf(b [][]byte) (l []string) {
	for _, p := range b {
		l = append(l, string(p))
	}
	return l
}

// onDisk makes a call of a disk.
func (c call) onDisk(d *files.Disk) api.Errno {
	switch c.kind {
	case doFuse:
		return d.Fuse(c.n)
	case doCrash:
		return d.Crash(c.n, c.parts)
	case doMake:
		return d.Make(c.file)
	case doBytes:
		return d.Append(c.file, []byte(c.bytes))
	}
	return d.Remove(c.file)
}

// onLog makes a call of a log, but for an Open.
func (c call) onLog(l *log.Log) api.Errno {
	switch c.kind {
	case doAppend:
		return l.Append(bytesOf(c.records)...)
	case doSync:
		return l.Sync()
	}
	return l.Next(bytesOf(c.records)...)
}

// framed returns the frames of records, made by hand.
func framed(l ...string) string {
	var b []byte
	for _, s := range l {
		size := binary.LittleEndian.AppendUint32(nil, uint32(len(s)))
		sum := crc32.Checksum(append(slices.Clone(size), s...), crc32.MakeTable(crc32.Castagnoli))
		b = binary.LittleEndian.AppendUint32(append(b, size...), sum)
		b = append(b, s...)
	}
	return string(b)
}

// scanned says what Scan says, by the records that all texts of frames could have: it
// cuts the bytes at each length and compares with the frame made by hand.
func scanned(b string) (l []string, whole int, e api.Errno) {
	for at := 0; ; {
		rest := b[at:]
		if len(rest) < 4 {
			return l, at, api.OK
		}
		size := int(binary.LittleEndian.Uint32([]byte(rest)))
		if size > 1<<22 {
			return l, at, api.ErrBad
		}
		if len(rest) < size+8 {
			return l, at, api.OK
		}
		s := rest[8 : size+8]
		if framed(s) != rest[:size+8] {
			return l, at, api.ErrBad
		}
		l, at = append(l, s), at+size+8
	}
}

// An operation is one of a disk.
type operation func(*files.Disk) api.Errno

func makes(file string) operation { return func(d *files.Disk) api.Errno { return d.Make(file) } }
func appends(file, b string) operation {
	return func(d *files.Disk) api.Errno { return d.Append(file, []byte(b)) }
}
func syncs(file string) operation   { return func(d *files.Disk) api.Errno { return d.Sync(file) } }
func removes(file string) operation { return func(d *files.Disk) api.Errno { return d.Remove(file) } }
func renames(from, to string) operation {
	return func(d *files.Disk) api.Errno { return d.Rename(from, to) }
}
func reads(file string) operation {
	return func(d *files.Disk) api.Errno { _, e := d.Read(file); return e }
}

// A reference is a log on a disk of its own. It says the same as the chapter: each call
// is a list of operations, which is known before the first of them is done.
type reference struct {
	d          *files.Disk
	name       string
	up         bool
	generation int
	records    int
	err        api.Errno
}

// file returns the name of a file.
func (r *reference) file(generation int) string {
	return fmt.Sprintf("%s-%d", r.name, generation)
}

// do does operations up to the first error.
func (r *reference) do(l ...operation) api.Errno {
	for _, o := range l {
		if e := o(r.d); e != api.OK {
			return e
		}
	}
	return api.OK
}

// writing returns the operations that write a generation.
func (r *reference) writing(generation int, b string) (l []operation) {
	tmp := "tmp-" + r.name
	if slices.Contains(r.d.Names(), tmp) {
		l = append(l, removes(tmp))
	}
	return append(l, makes(tmp), appends(tmp, b), syncs(tmp), renames(tmp, r.file(generation)), (*files.Disk).SyncNames)
}

// generations returns the generations that there are.
func (r *reference) generations() (l []int) {
	is := regexp.MustCompile("^" + r.name + "-([1-9][0-9]{0,5})$")
	for _, s := range r.d.Names() {
		if part := is.FindStringSubmatch(s); part != nil {
			n, _ := strconv.Atoi(part[1])
			l = append(l, n)
		}
	}
	slices.Sort(l)
	return l
}

// open does what Open does.
func (r *reference) open() ([]string, api.Errno) {
	r.up, r.err = false, api.OK
	old := r.generations()
	if len(old) == 0 {
		e := r.do(r.writing(1, "")...)
		r.up, r.generation, r.records = e == api.OK, 1, 0
		return nil, e
	}
	top := old[len(old)-1]
	b, e := r.d.Read(r.file(top))
	if e != api.OK {
		return nil, e
	}
	l, whole, e := scanned(string(b))
	if e != api.OK {
		return nil, e
	}
	tmp := "tmp-" + r.name
	isTmp := slices.Contains(r.d.Names(), tmp)
	if whole < len(b) {
		if top == 999999 {
			return nil, api.ErrLong
		}
		if e := r.do(r.writing(top+1, framed(l...))...); e != api.OK {
			return nil, e
		}
		top, isTmp = top+1, false
	}
	var last []operation
	for _, n := range old {
		if n != top {
			last = append(last, removes(r.file(n)))
		}
	}
	if isTmp {
		last = append(last, removes(tmp))
	}
	if last != nil {
		last = append(last, (*files.Disk).SyncNames)
	}
	if e := r.do(last...); e != api.OK {
		return nil, e
	}
	r.up, r.generation, r.records = true, top, len(l)
	return l, api.OK
}

// change does what Append, Sync and Next do.
func (r *reference) change(c call) api.Errno {
	for _, s := range c.records {
		if len(s) > 1<<22 {
			return api.ErrLong
		}
	}
	if c.kind == doNext && r.generation == 999999 {
		return api.ErrLong
	}
	if r.err != api.OK {
		return r.err
	}
	switch {
	case c.kind == doSync:
		r.err = r.do(syncs(r.file(r.generation)))
	case c.kind == doAppend && len(c.records) > 0:
		r.err = r.do(appends(r.file(r.generation), framed(c.records...)))
		if r.err == api.OK {
			r.records += len(c.records)
		}
	case c.kind == doNext:
		if r.err = r.do(r.writing(r.generation+1, framed(c.records...))...); r.err != api.OK {
			return r.err
		}
		r.generation, r.records = r.generation+1, len(c.records)
		r.err = r.do(removes(r.file(r.generation - 1)))
	}
	return r.err
}

// A pair is a log, and the reference with which it is compared.
type pair struct {
	d *files.Disk
	l *log.Log
	r *reference
}

// made returns a pair without a log, with a disk on which calls were made.
func made(t *testing.T, room int, name string, l ...call) *pair {
	t.Helper()
	d, e := files.New(room)
	twin, _ := files.New(room)
	if e != api.OK {
		t.Fatal(e)
	}
	x := &pair{d: d, r: &reference{d: twin, name: name}}
	x.do(t, l...)
	return x
}

// do makes calls, checks what each returns, and what there is afterwards. It returns
// the error of the last one.
func (x *pair) do(t *testing.T, l ...call) (last api.Errno) {
	t.Helper()
	for _, c := range l {
		last = x.one(t, c)
		x.check(t)
	}
	return last
}

// one makes a call.
func (x *pair) one(t *testing.T, c call) api.Errno {
	t.Helper()
	switch {
	case c.kind == doOpen:
		_, e := x.open(t)
		return e
	case c.kind > doOpen:
		e, want := c.onDisk(x.d), c.onDisk(x.r.d)
		if e != want {
			t.Fatalf("%+v: error %d, not %d", c, e, want)
		}
		return e
	case x.l == nil:
		return api.OK
	}
	e, want := c.onLog(x.l), x.r.change(c)
	if e != want {
		t.Fatalf("%+v: error %d, not %d", c, e, want)
	}
	return e
}

// open opens the log. It returns its records.
func (x *pair) open(t *testing.T) ([]string, api.Errno) {
	t.Helper()
	want, wantErr := x.r.open()
	l, s, e := log.Open(x.d, x.r.name)
	if e != wantErr || !slices.Equal(textsOf(s), want) || (l == nil) != (e != api.OK) {
		t.Fatalf("Open: %q, error %d, not %q, error %d", s, e, want, wantErr)
	}
	x.l = l
	return want, e
}

// check checks what is seen without an operation.
func (x *pair) check(t *testing.T) {
	t.Helper()
	names := x.r.d.Names()
	if l := x.d.Names(); !slices.Equal(l, names) || x.d.Left() != x.r.d.Left() || x.d.On() != x.r.d.On() {
		t.Fatalf("files %q, %d left, on: %t; not %q, %d, %t", l, x.d.Left(), x.d.On(), names, x.r.d.Left(), x.r.d.On())
	}
	for _, s := range names {
		if x.d.Size(s) != x.r.d.Size(s) {
			t.Fatalf("%s has %d bytes, not %d", s, x.d.Size(s), x.r.d.Size(s))
		}
	}
	if x.l == nil {
		return
	}
	size := x.r.d.Size(x.r.file(x.r.generation))
	if x.l.Generation() != x.r.generation || x.l.Size() != size || x.l.Count() != x.r.records || x.l.Err() != x.r.err {
		t.Fatalf("generation %d of %d bytes, %d records, error %d; not %d, %d, %d, %d", x.l.Generation(), x.l.Size(), x.l.Count(), x.l.Err(), x.r.generation, size, x.r.records, x.r.err)
	}
}

// sees checks all bytes of the disks, which are on and have no fuse.
func (x *pair) sees(t *testing.T) {
	t.Helper()
	if l, want := dump(t, x.d), dump(t, x.r.d); !slices.Equal(l, want) {
		t.Fatalf("%q, not %q", l, want)
	}
}

// dump returns all files of a disk that is on and has no fuse.
func dump(t *testing.T, d *files.Disk) (l []string) {
	t.Helper()
	for _, name := range d.Names() {
		b, e := d.Read(name)
		if e != api.OK {
			t.Fatalf("%s: error %d", name, e)
		}
		l = append(l, name+":"+string(b))
	}
	return l
}

// want checks all files, with their records: each text is the name of a file, a colon,
// and records with commas between them.
func (x *pair) want(t *testing.T, want ...string) {
	t.Helper()
	var l []string
	for _, s := range dump(t, x.d) {
		name, b, _ := strings.Cut(s, ":")
		records, whole, e := scanned(b)
		if e != api.OK || whole != len(b) {
			records = []string{"no frames"}
		}
		l = append(l, name+":"+strings.Join(records, ","))
	}
	if !slices.Equal(l, want) {
		t.Fatalf("%q, not %q", l, want)
	}
}
