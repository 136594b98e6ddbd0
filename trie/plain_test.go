package trie_test

import (
	"fmt"
	"regexp"
	"slices"
	"strings"
	"testing"

	"isobar/api"
	"isobar/trail"
	"isobar/trie"
)

// nameBytes are the bytes that a name may have.
const nameBytes = "abcdefghijklmnopqrstuvwxyzABCDEFGHIJKLMNOPQRSTUVWXYZ0123456789_-:%#@+="

// paths are layer 16's, as one regular expression.
var paths = regexp.MustCompile(`\A[a-zA-Z0-9_:%#@+=-]{1,32}(?:\.[a-zA-Z0-9_:%#@+=-]{1,32}){0,7}\z`)

// A list is what a trie is to tell, by the chapter's words: the paths that are held, in the order in which they came.
type list []string

// insert is what Insert says of a path, which is held from then on, if it says nothing.
func (l *list) insert(path string) api.Errno {
	switch {
	case !paths.MatchString(path):
		return api.ErrPath
	case slices.Contains(*l, path):
		return api.ErrExist
	case len(*l) == 64:
		return api.ErrMany
	}
	*l = append(*l, path)
	return api.OK
}

// drop is what Delete says of a path, which isn't held from then on, if it says nothing.
func (l *list) drop(path string) api.Errno {
	if !paths.MatchString(path) {
		return api.ErrPath
	}
	at := slices.Index(*l, path)
	if at < 0 {
		return api.ErrNone
	}
	*l = slices.Delete(slices.Clone(*l), at, at+1)
	return api.OK
}

// rising are the paths, by their bytes.
func (l list) rising() []string { return slices.Sorted(slices.Values(l)) }

// find are the paths that a pattern, of which it is known that it is one, fits.
func (l list) find(pattern string) []string {
	var fit []string
	for _, path := range l.rising() {
		if is, _ := trail.Match(pattern, path); is {
			fit = append(fit, path)
		}
	}
	return fit
}

// places are all paths at which there is a node: those that are held, and what stands in them ahead of each point.
func (l list) places() []string {
	var all []string
	for _, path := range l {
		for i := range path {
			if path[i] == '.' {
				all = append(all, path[:i])
			}
		}
		all = append(all, path)
	}
	slices.Sort(all)
	return slices.Compact(all)
}

// nodes are the nodes that a pattern, of which it is known that it is one, fits.
func (l list) nodes(pattern string) []api.Hit {
	var hits []api.Hit
	for _, place := range l.places() {
		if is, _ := trail.Match(pattern, place); is {
			longer := func(path string) bool { return strings.HasPrefix(path, place+".") }
			hits = append(hits, api.Hit{Path: place, Leaf: slices.Contains(l, place), Branch: slices.ContainsFunc(l, longer)})
		}
	}
	return hits
}

// brief is what a test tells of something: what is long would bury the rest.
func brief(x any) string {
	s := fmt.Sprintf("%q", x)
	if len(s) > 300 {
		return s[:300] + "..."
	}
	return s
}

// built is a trie of paths, each of which can be held.
func built(t *testing.T, l []string) *trie.Trie {
	t.Helper()
	x, e := trie.Build(l)
	if e != api.OK || x == nil {
		t.Fatalf("Build(%s) = %v, %d", brief(l), x, e)
	}
	return x
}

// tells holds what a trie says to what a list of paths is to say: of all of them, of each, of paths about them, and of patterns, which may be wrong ones.
func tells(t *testing.T, x *trie.Trie, l list, patterns ...string) {
	t.Helper()
	if x.Len() != len(l) {
		t.Fatalf("Len() of %s = %d", brief(l), x.Len())
	}
	if got := x.Paths(); !slices.Equal(got, l.rising()) {
		t.Fatalf("Paths() of %s = %s", brief(l), brief(got))
	}
	for _, place := range append(l.places(), "a", "zz", "a.b", "") {
		for _, path := range []string{place, place + ".a", place + ".", place + "a", place + "-", "." + place} {
			if x.Has(path) != slices.Contains(l, path) {
				t.Fatalf("Has(%s) of %s = %t", brief(path), brief(l), x.Has(path))
			}
		}
	}
	for _, pattern := range patterns {
		if _, e := trail.Nodes(pattern); e != api.OK {
			refuses(t, x, pattern, e)
			continue
		}
		finds(t, x, pattern, l.find(pattern)...)
		hits(t, x, pattern, l.nodes(pattern)...)
	}
}

// finds holds Find of a pattern to an answer.
func finds(t *testing.T, x *trie.Trie, pattern string, want ...string) {
	t.Helper()
	if got, e := x.Find(pattern); e != api.OK || !slices.Equal(got, want) {
		t.Fatalf("of %s Find(%s) = %s, %d, want %s", brief(x.Paths()), brief(pattern), brief(got), e, brief(want))
	}
}

// hits holds Nodes of a pattern to an answer.
func hits(t *testing.T, x *trie.Trie, pattern string, want ...api.Hit) {
	t.Helper()
	if got, e := x.Nodes(pattern); e != api.OK || !slices.Equal(got, want) {
		t.Fatalf("of %s Nodes(%s) = %v, %d, want %v", brief(x.Paths()), brief(pattern), got, e, want)
	}
}

// refuses holds Find and Nodes of a pattern to an error, and to nothing beside it.
func refuses(t *testing.T, x *trie.Trie, pattern string, want api.Errno) {
	t.Helper()
	if got, e := x.Find(pattern); e != want || len(got) != 0 {
		t.Fatalf("Find(%s) = %s, %d, want %d", brief(pattern), brief(got), e, want)
	}
	if got, e := x.Nodes(pattern); e != want || len(got) != 0 {
		t.Fatalf("Nodes(%s) = %v, %d, want %d", brief(pattern), got, e, want)
	}
}

// inserts holds Insert of a path to an answer.
func inserts(t *testing.T, x *trie.Trie, path string, want api.Errno) {
	t.Helper()
	if e := x.Insert(path); e != want {
		t.Fatalf("into %s Insert(%s) = %d, want %d", brief(x.Paths()), brief(path), e, want)
	}
}

// drops holds Delete of a path to an answer.
func drops(t *testing.T, x *trie.Trie, path string, want api.Errno) {
	t.Helper()
	if e := x.Delete(path); e != want {
		t.Fatalf("out of %s Delete(%s) = %d, want %d", brief(x.Paths()), brief(path), e, want)
	}
}

// builds holds Build of paths to an error, and to no trie beside it.
func builds(t *testing.T, l []string, want api.Errno) {
	t.Helper()
	if x, e := trie.Build(l); e != want || x != nil {
		t.Fatalf("Build(%s) = %v, %d, want nil, %d", brief(l), x, e, want)
	}
}

// The kinds of nodes, as a path and what stands there.
func leaf(path string) api.Hit   { return api.Hit{Path: path, Leaf: true} }
func branch(path string) api.Hit { return api.Hit{Path: path, Branch: true} }
func both(path string) api.Hit   { return api.Hit{Path: path, Leaf: true, Branch: true} }
