package log_test

import (
	"fmt"
	"math"
	"strings"
	"testing"

	"waterwheel/api"
	"waterwheel/files"
	"waterwheel/log"
)

// numbers are generations at their limits, and numbers that are none.
func numbers() []int {
	return []int{math.MinInt, -999999, -1, 0, 1, 2, 9, 10, 12, 99, 100, 99999, 100000, 999998, 999999, 1000000, 1000001, 1 << 32, 1<<32 + 1, math.MaxInt}
}

// isName says whether a text is the name of a log.
func isName(s string) bool {
	return len(s) >= 1 && len(s) <= 8 && strings.Trim(s, "abcdefghijklmnopqrstuvwxyz") == ""
}

// names are names of logs, and texts that are none: each byte, at each place, and
// lengths.
func names() []string {
	l := []string{"", "tmp", "wheel", "tmp-x", "x-1", "a b", "\u2028", "é", "abcdefg\xc3\xa9"}
	for n := range 30 {
		l = append(l, strings.Repeat("z", n), strings.Repeat("a", n))
	}
	for c := range 256 {
		b := string([]byte{byte(c)})
		l = append(l, b, "a"+b, b+"a", "a"+b+"a", b+b, "abcdefg"+b, b+"abcdefg", "abcdefgh"+b)
	}
	return l
}

// P23.1: File of each name with each generation, at their limits.
func TestFile(t *testing.T) {
	for _, name := range names() {
		for _, n := range numbers() {
			s, e := log.File(name, n)
			if !isName(name) || n < 1 || n > 999999 {
				if s != "" || e != api.ErrArg {
					t.Errorf("%q %d: %q, error %d", name, n, s, e)
				}
				continue
			}
			if s != fmt.Sprintf("%s-%d", name, n) || e != api.OK || !files.Name(s) {
				t.Errorf("%q %d: %q, error %d", name, n, s, e)
			}
		}
	}
}

// P23.1: Of is the inverse of File, for each generation.
func TestOf(t *testing.T) {
	for _, name := range []string{"x", "tmp", "abcdefgh"} {
		for n := 1; n <= 999999; n++ {
			s, _ := log.File(name, n)
			if m, is := log.Of(name, s); m != n || !is {
				t.Fatalf("%s: %d, %t", s, m, is)
			}
		}
	}
	for _, name := range names() {
		for _, n := range numbers() {
			m, is := log.Of(name, fmt.Sprintf("%s-%d", name, n))
			if want := isName(name) && n >= 1 && n <= 999999; is != want || is && m != n || !is && m != 0 {
				t.Errorf("%q %d: %d, %t", name, n, m, is)
			}
		}
	}
}

// P23.1: what is no file of the log x.
func TestOfNone(t *testing.T) {
	l := []string{
		"", "x", "x-", "-1", "1", "x1", "x--1", "x-+1", "x-01", "x-012", "x-0", "x-00", "x-1 ", " x-1", "x-1.", "x-1-1", "x-1x", "x-0x1", "x-1e3", "x-1_0", "x-١",
		"x-1\x00", "x-1000000", "x-9999999", "x-18446744073709551617", "x-9223372036854775808", "x-99999999999999999999999", "y-1", "xx-1", "xx-x-1", "x-x-1",
		"tmp-x", "tmp-x-1", "tmp-1", "X-1", "x_1", "x-a", "x-.1",
	}
	for _, s := range l {
		if n, is := log.Of("x", s); n != 0 || is {
			t.Errorf("%q: %d, %t", s, n, is)
		}
	}
	for _, name := range []string{"", "X", "x-1", "tmp-x", "abcdefghi", "x "} {
		for _, s := range append(l, name+"-1", name+"-12") {
			if n, is := log.Of(name, s); n != 0 || is {
				t.Errorf("%q of %q: %d, %t", s, name, n, is)
			}
		}
	}
	// All short texts: only the digits of a number without a 0 before them are taken.
	const of = "019x-+ ."
	for i := range len(of) * len(of) * len(of) {
		s := string([]byte{of[i%8], of[i/8%8], of[i/64]})
		for _, s := range []string{s, s[:2], s[:1]} {
			n, is := log.Of("x", "x-"+s)
			want := strings.Trim(s, "019") == "" && s[0] != '0'
			if is != want || is && fmt.Sprint(n) != s || !is && n != 0 {
				t.Errorf("%q: %d, %t", s, n, is)
			}
		}
	}
}
