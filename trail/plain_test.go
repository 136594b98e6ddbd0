package trail_test

import (
	"fmt"
	"math"
	"regexp"
	"slices"
	"strings"
	"testing"

	"isobar/api"
	"isobar/glob"
	"isobar/trail"
)

// nameBytes are the bytes that a name may have, and signs those that mean something else in a pattern of one.
const (
	nameBytes = "abcdefghijklmnopqrstuvwxyzABCDEFGHIJKLMNOPQRSTUVWXYZ0123456789_-:%#@+="
	signs     = "?*[]{},"
)

// paths are the chapter's, as one regular expression.
var paths = regexp.MustCompile(`\A[a-zA-Z0-9_:%#@+=-]{1,32}(?:\.[a-zA-Z0-9_:%#@+=-]{1,32}){0,7}\z`)

// cut is a text between its points, by going through it byte by byte.
func cut(s string) []string {
	list, part := []string{}, []byte{}
	for _, c := range []byte(s) {
		if c == '.' {
			list, part = append(list, string(part)), nil
			continue
		}
		part = append(part, c)
	}
	return append(list, string(part))
}

// checked is what Nodes says of a pattern beside the list.
func checked(pattern string) api.Errno {
	list := cut(pattern)
	if len(list) > 8 {
		return api.ErrMany
	}
	for _, node := range list {
		if e := glob.Check(node); e != api.OK {
			return e
		}
	}
	return api.OK
}

// expression is a pattern, of which it is known that it is one, as one regular expression of whole paths. No byte of a name is a point, so what fits one fits none.
func expression(pattern string) *regexp.Regexp {
	var b strings.Builder
	for i := 0; i < len(pattern); i++ {
		switch c := pattern[i]; c {
		case '*':
			b.WriteString("[^.]*")
		case '?':
			b.WriteString("[^.]")
		case '{':
			b.WriteString("(?:")
		case ',':
			b.WriteString("|")
		case '}':
			b.WriteString(")")
		case '[':
			size := strings.IndexByte(pattern[i:], ']')
			b.WriteString("[" + members(pattern[i+1:i+size]) + "]")
			i += size
		default:
			b.WriteString(regexp.QuoteMeta(string(c)))
		}
	}
	return regexp.MustCompile(`\A(?:` + b.String() + `)\z`)
}

// members are the bytes that what stands in a class fits, other than the point, each written for a regular expression.
func members(inside string) string {
	var b strings.Builder
	for inside != "" {
		low, high, size := inside[0], inside[0], 1
		if len(inside) >= 3 && inside[1] == '-' {
			high, size = inside[2], 3
		}
		for c := int(low); c <= int(high); c++ {
			if c != '.' {
				fmt.Fprintf(&b, `\x%02x`, c)
			}
		}
		inside = inside[size:]
	}
	return b.String()
}

// brief is what a test tells of something: what is long would bury the rest.
func brief(x any) string {
	s := fmt.Sprintf("%q", x)
	if len(s) > 300 {
		return s[:300] + "..."
	}
	return s
}

// reads holds all calls of one text to the chapter's words: as a path, and as a pattern. It answers whether it is a path, and whether it is a pattern.
func reads(t *testing.T, s string) (path, pattern bool) {
	t.Helper()
	if paths.MatchString(s) {
		splits(t, s, cut(s)...)
		path = true
	} else {
		noPath(t, s)
	}
	if e := checked(s); e != api.OK {
		refuses(t, s, e)
		return path, false
	}
	parts(t, s, cut(s)...)
	return path, true
}

// splits holds a path's calls to its names.
func splits(t *testing.T, path string, want ...string) {
	t.Helper()
	if !trail.Right(path) || !trail.Plain(path) {
		t.Fatalf("%s: Right %t, Plain %t", brief(path), trail.Right(path), trail.Plain(path))
	}
	if l, e := trail.Split(path); e != api.OK || !slices.Equal(l, want) {
		t.Fatalf("Split(%s) = %s, %d, want %s", brief(path), brief(l), e, brief(want))
	}
	for n := 1; n <= len(want); n++ {
		heads(t, path, n, strings.Join(want[:n], "."))
	}
	for _, n := range []int{math.MinInt, -1 << 32, -8, -1, 0, len(want) + 1, len(want) + 2, 9, 1<<32 + 1, math.MaxInt} {
		if s, e := trail.Head(path, n); e != api.ErrArg || s != "" {
			t.Fatalf("Head(%s, %d) = %s, %d, want %d", brief(path), n, brief(s), e, api.ErrArg)
		}
	}
}

// heads holds Head to an answer.
func heads(t *testing.T, path string, n int, want string) {
	t.Helper()
	if s, e := trail.Head(path, n); e != api.OK || s != want {
		t.Fatalf("Head(%s, %d) = %s, %d, want %s", brief(path), n, brief(s), e, brief(want))
	}
}

// noPath holds the calls of a text that is no path to their error, and to nothing beside it.
func noPath(t *testing.T, s string) {
	t.Helper()
	if trail.Right(s) || trail.Plain(s) {
		t.Fatalf("%s: Right %t, Plain %t", brief(s), trail.Right(s), trail.Plain(s))
	}
	if l, e := trail.Split(s); e != api.ErrPath || len(l) != 0 {
		t.Fatalf("Split(%s) = %s, %d, want %d", brief(s), brief(l), e, api.ErrPath)
	}
	for _, n := range []int{math.MinInt, -1, 0, 1, 2, 3, 8, 9, math.MaxInt} {
		if head, e := trail.Head(s, n); e != api.ErrPath || head != "" {
			t.Fatalf("Head(%s, %d) = %s, %d, want %d", brief(s), n, brief(head), e, api.ErrPath)
		}
	}
	for _, pattern := range []string{"*", "a", "*.*"} {
		if is, e := trail.Match(pattern, s); e != api.ErrPath || is {
			t.Fatalf("Match(%s, %s) = %t, %d, want %d", pattern, brief(s), is, e, api.ErrPath)
		}
	}
}

// parts holds Nodes of a pattern to an answer.
func parts(t *testing.T, pattern string, want ...string) {
	t.Helper()
	if l, e := trail.Nodes(pattern); e != api.OK || !slices.Equal(l, want) {
		t.Fatalf("Nodes(%s) = %s, %d, want %s", brief(pattern), brief(l), e, brief(want))
	}
}

// refuses holds Nodes and Match of a pattern to an error, whatever the path is, and to nothing beside it.
func refuses(t *testing.T, pattern string, want api.Errno) {
	t.Helper()
	if l, e := trail.Nodes(pattern); e != want || len(l) != 0 {
		t.Fatalf("Nodes(%s) = %s, %d, want %d", brief(pattern), brief(l), e, want)
	}
	for _, path := range []string{"", "a", "a.b", "a..b", pattern, "a.b.c.d.e.f.g.h.i"} {
		if is, e := trail.Match(pattern, path); e != want || is {
			t.Fatalf("Match(%s, %s) = %t, %d, want false, %d", brief(pattern), brief(path), is, e, want)
		}
	}
}

// matches holds Match of a pattern and a path to an answer.
func matches(t *testing.T, pattern, path string, want bool) {
	t.Helper()
	if is, e := trail.Match(pattern, path); e != api.OK || is != want {
		t.Fatalf("Match(%s, %s) = %t, %d, want %t", brief(pattern), brief(path), is, e, want)
	}
}
