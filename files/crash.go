package files

import (
	"maps"

	"waterwheel/api"
)

// Fuse sets a fuse that goes off at the operation after n more. A number below 0
// removes the one that is set.
func (d *Disk) Fuse(n int) api.Errno {
	if !d.valid() {
		return api.ErrNil
	}
	d.fuse = n
	return api.OK
}

// Crash takes away what is not safe, but for the first changes of names, and the
// first bytes of each file. Then the disk is on.
func (d *Disk) Crash(names int, parts []int) api.Errno {
	if !d.valid() {
		return api.ErrNil
	}
	d.keep(first(names, len(d.changes)))
	d.now = maps.Clone(d.safe)
	d.cut(parts)
	d.fuse, d.off = -1, false
	return api.OK
}

// On reports whether the disk has power.
func (d *Disk) On() bool {
	return d.valid() && !d.off
}

// begin begins an operation with these names. It returns the error for which the
// operation is not done.
func (d *Disk) begin(names ...string) api.Errno {
	if !d.valid() {
		return api.ErrNil
	}
	for _, s := range names {
		if !Name(s) {
			return api.ErrArg
		}
	}
	if d.fuse == 0 {
		d.off = true
	}
	if d.off {
		return api.ErrOff
	}
	// Without a fuse there is nothing to count: its number could go round.
	if d.fuse > 0 {
		d.fuse--
	}
	return api.OK
}

// open begins an operation with these names, and returns the file that has the
// first one.
func (d *Disk) open(names ...string) (*file, api.Errno) {
	if e := d.begin(names...); e != api.OK {
		return nil, e
	}
	f := d.now[names[0]]
	if f == nil {
		return nil, api.ErrNone
	}
	return f, api.OK
}

// change makes a change of names in what is there now, and records it for what is
// safe.
func (d *Disk) change(do func(folder)) {
	do(d.now)
	d.changes = append(d.changes, do)
}

// keep makes the first n changes of names safe, and forgets all of them.
func (d *Disk) keep(n int) {
	for _, do := range d.changes[:n] {
		do(d.safe)
	}
	d.changes = nil
}

// cut leaves each file its safe bytes, and the first ones of those after them, as
// parts say. What is left is safe.
func (d *Disk) cut(parts []int) {
	d.used = 0
	for at, name := range d.Names() {
		f, part := d.now[name], 0
		if at < len(parts) {
			part = parts[at]
		}
		f.safe += first(part, len(f.bytes)-f.safe)
		f.bytes = f.bytes[:f.safe]
		d.used += f.safe
	}
}

// first returns how many of all things the first ones are, as n says.
func first(n, all int) int {
	return max(n, 0) % (all + 1)
}
