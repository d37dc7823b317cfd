package log

import (
	"slices"

	"waterwheel/api"
	"waterwheel/files"
)

// Open opens a log, and returns its records. It ends what a crash has left undone: a
// frame that is torn, or a generation that has another one after it.
func Open(d *files.Disk, name string) (*Log, [][]byte, api.Errno) {
	if !isMade(d) {
		return nil, nil, api.ErrNil
	}
	if !isName(name) {
		return nil, nil, api.ErrArg
	}
	l := &Log{disk: d, name: name}
	l.self = l
	s, e := l.load()
	if e != api.OK {
		return nil, nil, e
	}
	return l, s, api.OK
}

// isMade reports whether files.New returned d. A call without a valid name is no
// operation: it has no effect, and no fuse counts it.
func isMade(d *files.Disk) bool {
	return d.Make("") != api.ErrNil
}

// load reads the greatest generation, and removes the others. If there is none, it
// writes the first one.
func (l *Log) load() (s [][]byte, e api.Errno) {
	old := l.generations()
	if len(old) == 0 {
		return nil, l.write(1, nil, 0)
	}
	l.generation = slices.Max(old)
	var b []byte
	e = all(
		func() (e api.Errno) { b, e = l.disk.Read(l.file()); return e },
		func() (e api.Errno) { s, e = l.take(b); return e },
		l.clean,
	)
	return s, e
}

// generations returns the generations of which there is a file, ascending.
func (l *Log) generations() (s []int) {
	for _, file := range l.disk.Names() {
		if n, is := Of(l.name, file); is {
			s = append(s, n)
		}
	}
	slices.Sort(s)
	return s
}

// take takes the bytes of the file. If it is torn, the next generation is written
// without what is torn, because nothing could be read that is appended after that.
func (l *Log) take(b []byte) (s [][]byte, e api.Errno) {
	s, whole, e := Scan(b)
	if e != api.OK {
		return nil, e
	}
	l.count = len(s)
	if whole == len(b) {
		return s, api.OK
	}
	return s, all(
		l.hasNext,
		func() api.Errno { return l.write(l.generation+1, b[:whole], len(s)) },
	)
}

// hasNext returns the error of a log that has its last generation.
func (l *Log) hasNext() api.Errno {
	if l.generation == mostGeneration {
		return api.ErrLong
	}
	return api.OK
}

// write writes a generation with the frames of n records, which then is that of the
// log. Until it is renamed a crash leaves the one before it.
func (l *Log) write(generation int, frames []byte, n int) api.Errno {
	draft, file := draftOf(l.name), fileOf(l.name, generation)
	return all(
		func() api.Errno { return l.remove(draft) },
		func() api.Errno { return l.disk.Make(draft) },
		func() api.Errno { return l.disk.Append(draft, frames) },
		func() api.Errno { return l.disk.Sync(draft) },
		func() api.Errno { return l.disk.Rename(draft, file) },
		l.disk.SyncNames,
		func() api.Errno {
			l.generation, l.count = generation, n
			return api.OK
		},
	)
}

// clean removes all other files of the log.
func (l *Log) clean() api.Errno {
	var old []string
	for _, n := range l.generations() {
		if n != l.generation {
			old = append(old, fileOf(l.name, n))
		}
	}
	if draft := draftOf(l.name); l.has(draft) {
		old = append(old, draft)
	}
	if len(old) == 0 {
		return api.OK
	}
	return all(
		func() api.Errno { return l.remove(old...) },
		l.disk.SyncNames,
	)
}

// remove removes those files that exist, up to the first error.
func (l *Log) remove(old ...string) api.Errno {
	for _, file := range old {
		if !l.has(file) {
			continue
		}
		if e := l.disk.Remove(file); e != api.OK {
			return e
		}
	}
	return api.OK
}

// has reports whether a file exists. This is no operation of the disk.
func (l *Log) has(file string) bool {
	return l.disk.Size(file) >= 0
}
