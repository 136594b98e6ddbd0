package glob_test

import (
	"math/rand/v2"
	"strings"
)

// words are all texts of up to n bytes of an alphabet, the shorter ones first.
func words(alphabet string, n int) []string {
	list := []string{""}
	for from := 0; n > 0; n-- {
		to := len(list)
		for _, w := range list[from:to] {
			for i := range len(alphabet) {
				list = append(list, w+alphabet[i:i+1])
			}
		}
		from = to
	}
	return list
}

// some is a text of up to n bytes of an alphabet, by a seed.
func some(r *rand.Rand, alphabet string, n int) string {
	b := make([]byte, r.IntN(n+1))
	for i := range b {
		b[i] = alphabet[r.IntN(len(alphabet))]
	}
	return string(b)
}

// oneOf is one of some things, by a seed.
func oneOf[T any](r *rand.Rand, list ...T) T { return list[r.IntN(len(list))] }

// allBytes are all of them, rising.
func allBytes() string {
	var b []byte
	for c := range 256 {
		b = append(b, byte(c))
	}
	return string(b)
}

// someClass is a class, by a seed, that now and then is none, since a range falls.
func someClass(r *rand.Rand, alphabet string) string {
	var b strings.Builder
	b.WriteString("[")
	for range 1 + r.IntN(3) {
		low, high := alphabet[r.IntN(len(alphabet))], alphabet[r.IntN(len(alphabet))]
		if low > high && r.IntN(6) != 0 {
			low, high = high, low
		}
		b.WriteString(oneOf(r, string(low), string(low)+"-"+string(high), "-"))
	}
	return b.String() + "]"
}

// somePattern is a pattern of up to n pieces side by side, by a seed, with braces within braces down to a depth; now and then it is none.
func somePattern(r *rand.Rand, alphabet string, n, deep int) string {
	var b strings.Builder
	for range r.IntN(n + 1) {
		switch k := r.IntN(8); {
		case k == 0:
			b.WriteString("?")
		case k == 1:
			b.WriteString("*")
		case k == 2:
			b.WriteString(someClass(r, alphabet))
		case k <= 4 && deep > 0:
			var ways []string
			for range 1 + r.IntN(3) {
				ways = append(ways, somePattern(r, alphabet, n-1, deep-1))
			}
			b.WriteString("{" + strings.Join(ways, ",") + "}")
		default:
			b.WriteString(some(r, alphabet, 2))
		}
	}
	return b.String()
}

// spoilt is a pattern of which a byte went, came, or became another one, by a seed; mostly it is none then.
func spoilt(r *rand.Rand, pattern string) string {
	at := r.IntN(len(pattern) + 1)
	ahead, behind := pattern[:at], pattern[at:]
	if behind != "" && r.IntN(3) != 0 {
		behind = behind[1:]
	}
	return ahead + oneOf(r, "", oneOf(r, strings.Split(signs, "")...), oneOf(r, strings.Split(nameBytes, "")...), some(r, allBytes(), 1)) + behind
}

// nested are braces within braces, so many in all, about a text.
func nested(n int, text string) string {
	return strings.Repeat("{", n) + text + strings.Repeat("}", n)
}
