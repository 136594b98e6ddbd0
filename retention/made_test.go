package retention_test

import (
	"math"
	"math/rand/v2"
	"strconv"
	"strings"

	"isobar/api"
)

// letters are the units' letters.
const letters = "smhdwy"

// words are all texts of up to n signs, the shorter ones first.
func words(signs []string, n int) []string {
	list := []string{""}
	for from := 0; n > 0; n-- {
		to := len(list)
		for _, w := range list[from:to] {
			for _, sign := range signs {
				list = append(list, w+sign)
			}
		}
		from = to
	}
	return list
}

// oneOf is one of some things, by a seed.
func oneOf[T any](r *rand.Rand, list ...T) T { return list[r.IntN(len(list))] }

// edges are whole numbers at which something of a rung changes, and those beside them.
func edges() []int {
	list := []int{math.MinInt, math.MinInt + 1, math.MinInt32, -86400, -400, -60, -2, -1, 0, 1, 2, 3, 4, 59, 60, 61, 199, 200, 201, 399, 400, 401, 402, 3600, 43200, 86399, 86400, 86401, 86402, 172800, math.MaxInt32, math.MaxInt - 1, math.MaxInt}
	for _, bit := range []int{16, 17, 20, 31, 32, 33, 40, 46, 47, 48, 55, 62} {
		list = append(list, 1<<bit-1, 1<<bit, 1<<bit+1, 1<<bit+60, 1<<bit+400)
	}
	return list
}

// someDigits are digits, by a seed: mostly few.
func someDigits(r *rand.Rand) string {
	switch r.IntN(12) {
	case 0:
		return strings.Repeat("0", 1+r.IntN(3)) + strconv.Itoa(r.IntN(500))
	case 1:
		return strconv.Itoa(1<<40 - 2 + r.IntN(4))
	case 2:
		return strconv.FormatUint(r.Uint64(), 10) + strings.Repeat("7", r.IntN(20))
	case 3, 4:
		return strconv.Itoa(r.IntN(100000))
	}
	return strconv.Itoa(r.IntN(70))
}

// someAmount is a span's text, or digits alone, by a seed.
func someAmount(r *rand.Rand) string {
	return someDigits(r) + oneOf(r, "", "", "s", "s", "m", "m", "h", "d", "w", "y")
}

// someList is a list's text, by a seed; its rungs seldom go together.
func someList(r *rand.Rand) string {
	var parts []string
	for range 1 + r.IntN(5) {
		blanks := strings.Repeat(" ", r.IntN(3)*r.IntN(2))
		parts = append(parts, blanks+someAmount(r)+":"+someAmount(r)+oneOf(r, "", "", " "))
	}
	return strings.Join(parts, ",")
}

// spoilt is a text of which a byte went, came, or became another, by a seed.
func spoilt(r *rand.Rand, s string) string {
	at := r.IntN(len(s) + 1)
	c := oneOf(r, "0", "9", "s", "y", ":", ",", " ", "\t", "-", "+", ".", "\x00", "\xff", "é", "S", "x")
	switch {
	case at < len(s) && r.IntN(3) == 0:
		return s[:at] + s[at+1:]
	case at < len(s) && r.IntN(2) == 0:
		return s[:at] + c + s[at+1:]
	}
	return s[:at] + c + s[at:]
}

// someRungs are rungs, by a seed, that go together, or are beside it by one step or count.
func someRungs(r *rand.Rand) []api.Rung {
	l := []api.Rung{{Step: oneOf(r, 1, 2, 5, 7, 10, 60, 300, 3600), Count: 1 + r.IntN(400)}}
	for range r.IntN(5) {
		last := l[len(l)-1]
		times := 2 + r.IntN(min(last.Count, 90))
		step := last.Step * times
		l = append(l, api.Rung{Step: step, Count: last.Count/times + 1 + r.IntN(200)})
	}
	if r.IntN(2) == 0 {
		return l
	}
	by, at := oneOf(r, -1, 1), r.IntN(len(l))
	if r.IntN(2) == 0 {
		l[at].Step += by
	} else {
		l[at].Count += by
	}
	return l
}

// textOf is a text of rungs, by a seed, with noughts, blanks and units where they may stand.
func textOf(r *rand.Rand, l []api.Rung) string {
	var parts []string
	for _, rung := range l {
		step := strings.Repeat("0", r.IntN(3)) + strconv.Itoa(rung.Step) + oneOf(r, "", "s")
		if rung.Step%60 == 0 && r.IntN(2) == 0 {
			step = strconv.Itoa(rung.Step/60) + "m"
		}
		length := strconv.Itoa(rung.Count)
		if r.IntN(2) == 0 && rung.Step > 0 && rung.Count > 0 {
			// Seconds that make no whole slot are let go.
			length = strconv.Itoa(rung.Step*rung.Count+r.IntN(rung.Step)) + "s"
		}
		parts = append(parts, oneOf(r, "", " ", "   ")+step+":"+length+oneOf(r, "", " "))
	}
	return strings.Join(parts, ",")
}
