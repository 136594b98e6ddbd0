package trie_test

import (
	"math/rand/v2"
	"slices"
	"strings"
)

// some is a text of up to n bytes of an alphabet, by a seed.
func some(r *rand.Rand, alphabet string, n int) string {
	b := make([]byte, r.IntN(n+1))
	for i := range b {
		b[i] = alphabet[r.IntN(len(alphabet))]
	}
	return string(b)
}

// oneOf is one of some things, by a seed.
func oneOf[T any](r *rand.Rand, list ...T) T { return list[r.IntN(len(list))] }

// alike are n parts of one kind with points between.
func alike(part string, n int) string {
	return strings.TrimSuffix(strings.Repeat(part+".", n), ".")
}

// many are n paths of one name each, none of them the same, rising.
func many(n int) []string {
	var l []string
	for i := range n {
		l = append(l, "m"+string([]byte{byte('a' + i/26), byte('a' + i%26)}))
	}
	return l
}

// mixed are the things of a list in another order, by a seed.
func mixed[T any](r *rand.Rand, list []T) []T {
	list = slices.Clone(list)
	r.Shuffle(len(list), func(i, j int) { list[i], list[j] = list[j], list[i] })
	return list
}

// somePath is a path, by a seed, of up to n names of an alphabet, of up to size bytes.
func somePath(r *rand.Rand, alphabet string, n, size int) string {
	var names []string
	for range 1 + r.IntN(n) {
		names = append(names, some(r, alphabet, size-1)+string(alphabet[r.IntN(len(alphabet))]))
	}
	return strings.Join(names, ".")
}

// somePattern is a pattern, by a seed, that fits a path now and then: of as many names, or of one less or more; seldom it is none.
func somePattern(r *rand.Rand, path string) string {
	var globs []string
	for _, name := range strings.Split(path, ".") {
		at := r.IntN(len(name))
		ahead, one, behind := name[:at], name[at:at+1], name[at+1:]
		globs = append(globs, oneOf(r, name, name, "*", "*", "?", ahead+"*", "*"+behind, ahead+"?"+behind, ahead+"["+one+"-z]"+behind, "{"+ahead+","+name+"}", ahead+"{"+one+","+one+",a,{?,-}}"+behind, "{*,"+name+"}", oneOf(r, "*", ahead, "["+behind)))
	}
	switch r.IntN(8) {
	case 0:
		globs = globs[1:]
	case 1:
		globs = append(globs, "*")
	}
	return strings.Join(globs, ".")
}

// patterns are some, told by hand, that fit much of what is short.
func patterns() []string {
	return []string{"*", "*.*", "*.*.*", "*.*.*.*", "?", "?.?", "a", "b", "a.*", "*.a", "a.a", "a.b", "b.*", "*.b.*", "a.b.*", "*.*.a", "{a,b}", "{a,a}.{b,*}", "{*,*}", "[a-b].[a-b]", "a?", "a*", "a*.*", "*-*", "{}", "x", "a.x", "*.x.*", "*.*.*.*.*.*.*.*"}
}
