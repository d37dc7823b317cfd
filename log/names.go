package log

import (
	"strconv"
	"strings"

	"waterwheel/api"
)

const (
	mostName       = 8 // bytes of a name
	mostGeneration = 999_999
)

// File returns the name of the file of a generation of a log.
func File(name string, generation int) (string, api.Errno) {
	if !isName(name) || generation < 1 || generation > mostGeneration {
		return "", api.ErrArg
	}
	return fileOf(name, generation), api.OK
}

// Of returns the generation of a log whose file has this name, and whether there is
// one.
func Of(name, file string) (int, bool) {
	// Atoi takes more than the digits of a generation, so that the name is made again.
	n, _ := strconv.Atoi(strings.TrimPrefix(file, name+"-"))
	if s, e := File(name, n); e != api.OK || s != file {
		return 0, false
	}
	return n, true
}

// isName reports whether s is the name of a log.
func isName(s string) bool {
	isOther := func(c rune) bool { return c < 'a' || c > 'z' }
	return s != "" && len(s) <= mostName && !strings.ContainsFunc(s, isOther)
}

// fileOf returns the name of the file of a valid generation.
func fileOf(name string, generation int) string {
	return name + "-" + strconv.Itoa(generation)
}

// draftOf returns the name that the file of a generation has while it is written.
func draftOf(name string) string {
	return "tmp-" + name
}
