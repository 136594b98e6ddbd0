package line_test

import (
	"math"
	"math/rand/v2"
	"strconv"
	"strings"

	"isobar/api"
)

// nameBytes are the bytes that a path's name may have.
const nameBytes = "abcdefghijklmnopqrstuvwxyzABCDEFGHIJKLMNOPQRSTUVWXYZ0123456789_-:%#@+="

// texts are all texts of up to n bytes of an alphabet, the shorter ones first.
func texts(alphabet string, n int) []string {
	list := []string{""}
	for from := 0; n > 0; n-- {
		to := len(list)
		for _, w := range list[from:to] {
			for i := range len(alphabet) {
				list = append(list, w+alphabet[i:i+1])
			}
		}
		from = to
	}
	return list
}

// rows are all rows of up to n of some texts, without anything between.
func rows(list []string, n int) []string {
	all := []string{""}
	for from := 0; n > 0; n-- {
		to := len(all)
		for _, row := range all[from:to] {
			for _, s := range list {
				all = append(all, row+s)
			}
		}
		from = to
	}
	return all
}

// some is a text of up to n bytes of an alphabet, by a seed.
func some(r *rand.Rand, alphabet string, n int) string {
	b := make([]byte, r.IntN(n+1))
	for i := range b {
		b[i] = alphabet[r.IntN(len(alphabet))]
	}
	return string(b)
}

// oneOf is one of some things, by a seed.
func oneOf[T any](r *rand.Rand, list ...T) T { return list[r.IntN(len(list))] }

// allBytes are all of them, rising.
func allBytes() string {
	var b []byte
	for c := range 256 {
		b = append(b, byte(c))
	}
	return string(b)
}

// alike are n parts of one kind with points between.
func alike(part string, n int) string {
	return strings.TrimSuffix(strings.Repeat(part+".", n), ".")
}

// longPath is a path of so many bytes, from 1 to 263, of as few names as may be.
func longPath(size int) string {
	var names []string
	for size > 32 {
		// What is left has a name of one byte, at least.
		n := min(32, size-2)
		names, size = append(names, strings.Repeat("n", n)), size-n-1
	}
	return strings.Join(append(names, strings.Repeat("n", size)), ".")
}

// somePath is a path, by a seed.
func somePath(r *rand.Rand) string {
	alphabet := oneOf(r, "ab", "abc-", nameBytes)
	size := oneOf(r, 0, 3, 31)
	var names []string
	for range 1 + r.IntN(oneOf(r, 1, 3, 8)) {
		names = append(names, some(r, alphabet, size)+oneOf(r, strings.Split(alphabet, "")...))
	}
	return strings.Join(names, ".")
}

// someNumber is a number's text, by a seed; seldom one beyond what can be told, or too long.
func someNumber(r *rand.Rand) string {
	sign := oneOf(r, "", "", "-", "+")
	whole := oneOf(r, strconv.Itoa(r.IntN(100)), strconv.FormatUint(r.Uint64()>>r.IntN(64), 10), "9223372036854", "000"+strconv.Itoa(r.IntN(5)))
	decimals := some(r, "0123456789", oneOf(r, 0, 3, 8, 60))
	switch r.IntN(5) {
	case 0:
		return sign + whole
	case 1:
		return sign + whole + "."
	case 2:
		return sign + "." + decimals + "5"
	}
	return sign + whole + "." + decimals
}

// someTime is a whole text, or that for now, by a seed; seldom one beyond what can be told.
func someTime(r *rand.Rand) string {
	return oneOf(r, "-1", strconv.Itoa(r.IntN(1000)), strconv.Itoa(r.IntN(1<<40+1)), strconv.Itoa(1<<40-1+r.IntN(3)), "000"+strconv.Itoa(r.IntN(5)), "0")
}

// someBlanks are from n to most blanks and tabs, by a seed.
func someBlanks(r *rand.Rand, n, most int) string {
	b := []byte(strings.Repeat(" ", n+r.IntN(most-n+1)))
	for i := range b {
		b[i] = " \t"[r.IntN(2)]
	}
	return string(b)
}

// someLine is a line, by a seed, that says a sample more often than not.
func someLine(r *rand.Rand) string {
	wide := oneOf(r, 1, 1, 3, 60)
	end := oneOf(r, "", "", "\r")
	return someBlanks(r, 0, wide-1) + somePath(r) + someBlanks(r, 1, wide) + someNumber(r) + someBlanks(r, 1, wide) + someTime(r) + someBlanks(r, 0, wide-1) + end
}

// spoilt is a text of which a byte went, came, or became another one, by a seed.
func spoilt(r *rand.Rand, s string) string {
	at := r.IntN(len(s) + 1)
	ahead, behind := s[:at], s[at:]
	if behind != "" && r.IntN(3) != 0 {
		behind = behind[1:]
	}
	return ahead + oneOf(r, "", " ", "\t", "\r", " 1 ", ".", "-", oneOf(r, strings.Split(nameBytes, "")...), some(r, allBytes(), 1)) + behind
}

// goodPaths are paths, told by hand.
func goodPaths() []string {
	return []string{"a", "a.b", "Z", "0", "-1", "5", "1.5", "-", "_-:%#@+=", "None", "a.b.c.d.e.f.g.h", "servers.web-01.load", strings.Repeat("x", 32), alike(strings.Repeat("x", 32), 8)}
}

// badPaths are texts that are no paths, told by hand.
func badPaths() []string {
	return []string{"", ".", "..", "a.", ".a", "a..b", "a.b.", "a b", " a", "a ", "a\t", "a\r", "a\n", "a*", "*", "?", "{a}", "[a]", "a,b", "a/b", "a;b=c", "\x00", "\xff", "é", "a.\x80", strings.Repeat("x", 33), "a." + strings.Repeat("x", 33), alike("a", 9), alike("a", 1000), alike(strings.Repeat("x", 33), 8)}
}

// goodValues are all kinds of values that a sample may have.
func goodValues() []int64 {
	return []int64{0, 1, -1, 10, 499999, -500000, 999999, 1000000, -1000000, 1500000, -1200000, 123456789, 1 << 40, -(1 << 53), math.MaxInt64 - 1, math.MaxInt64, -math.MaxInt64, math.MinInt64 + 2}
}

// goodTimes are times that a sample may have; badTimes those that it may not.
func goodTimes() []int {
	return []int{-1, 0, 1, 59, 60, 86400, 1 << 31, 1 << 32, 1<<40 - 1, 1 << 40}
}

func badTimes() []int {
	return []int{-2, -3, -60, -1 << 31, -1 << 32, -1<<32 - 1, -1 << 40, math.MinInt + 1, math.MinInt, 1<<40 + 1, 1<<40 + 60, 1 << 41, 1<<41 - 1, 1 << 62, math.MaxInt - 1, math.MaxInt}
}

// samples are all of some paths, values and times.
func samples(paths []string, values []int64, times []int) []api.Sample {
	var list []api.Sample
	for _, path := range paths {
		for _, value := range values {
			for _, time := range times {
				list = append(list, api.Sample{Path: path, Value: value, Time: time})
			}
		}
	}
	return list
}
