package trail_test

import (
	"math/rand/v2"
	"strings"
)

// words are all texts of up to n bytes of an alphabet, the shorter ones first.
func words(alphabet string, n int) []string {
	list := []string{""}
	for from := 0; n > 0; n-- {
		to := len(list)
		for _, w := range list[from:to] {
			for i := range len(alphabet) {
				list = append(list, w+alphabet[i:i+1])
			}
		}
		from = to
	}
	return list
}

// some is a text of up to n bytes of an alphabet, by a seed.
func some(r *rand.Rand, alphabet string, n int) string {
	b := make([]byte, r.IntN(n+1))
	for i := range b {
		b[i] = alphabet[r.IntN(len(alphabet))]
	}
	return string(b)
}

// oneOf is one of some things, by a seed.
func oneOf[T any](r *rand.Rand, list ...T) T { return list[r.IntN(len(list))] }

// allBytes are all of them, rising.
func allBytes() string {
	var b []byte
	for c := range 256 {
		b = append(b, byte(c))
	}
	return string(b)
}

// alike are n parts of one kind with points between.
func alike(part string, n int) string {
	return strings.TrimSuffix(strings.Repeat(part+".", n), ".")
}

// somePath is a path, by a seed, of up to n names of an alphabet, of up to size bytes.
func somePath(r *rand.Rand, alphabet string, n, size int) string {
	var names []string
	for range 1 + r.IntN(n) {
		names = append(names, some(r, alphabet, size-1)+string(alphabet[r.IntN(len(alphabet))]))
	}
	return strings.Join(names, ".")
}

// someNode is a pattern of one name, by a seed, that fits a name now and then; it may be none.
func someNode(r *rand.Rand, name string) string {
	at := r.IntN(len(name))
	ahead, one, behind := name[:at], name[at:at+1], name[at+1:]
	return oneOf(r, name, name, "*", ahead+"?"+behind, ahead+"*", "*"+behind, ahead+"["+one+"-z]"+behind, ahead+"["+one+"]"+behind, "{"+ahead+","+name+"}", ahead+"{"+one+",}"+behind, ahead+"{a,{?,c}}"+behind, ahead+"{}"+behind, ahead, "["+behind)
}

// somePattern is a pattern, by a seed, that fits a path now and then: of as many names, or of one less or more.
func somePattern(r *rand.Rand, path string) string {
	var nodes []string
	for _, name := range strings.Split(path, ".") {
		nodes = append(nodes, someNode(r, name))
	}
	switch r.IntN(12) {
	case 0:
		nodes = nodes[1:]
	case 1:
		nodes = append(nodes, "*")
	}
	return strings.Join(nodes, ".")
}

// spoilt is a text of which a byte went, came, or became another one, by a seed.
func spoilt(r *rand.Rand, s string) string {
	at := r.IntN(len(s) + 1)
	ahead, behind := s[:at], s[at:]
	if behind != "" && r.IntN(3) != 0 {
		behind = behind[1:]
	}
	return ahead + oneOf(r, "", ".", oneOf(r, strings.Split(signs, "")...), oneOf(r, strings.Split(nameBytes, "")...), some(r, allBytes(), 1)) + behind
}
