package trail_test

import (
	"strings"
	"testing"

	"isobar/api"
	"isobar/trail"
)

// strange are texts that are no paths, told by hand.
func strange() []string {
	return []string{
		"",
		// a name of no bytes
		".", "..", "...", ".a", "a.", ".a.", "a..b", "a.b.", ".a.b", "a...b", "a.b..c", "..a", "a..", ".......", "a.b.c.d.e.f.g.", ".b.c.d.e.f.g.h",
		// a byte that no name has
		" ", "a b", " a", "a ", "a. b", "a .b", "a\n", "a.b\n", "\t", "a/b", "a\\.b", "a,b", "a;b", "a!", "a$b", "(a)", "a&b", "a'b", "a\"", "a^", "a|b", "~a", "a<b", "a>b", "`a", "\x00", "a\x00", "a.\x00", "\x7f", "\x80", "\xff", "a.\xff.b", "é", "a.é", "a\xc3",
		// what has a meaning in patterns alone
		"*", "a*", "*.a", "a.*", "?", "a?", "a.b?", "[a]", "a.[a-c]", "{a}", "{a,b}.c", "a.{}", "]", "}", "{", "[",
		// more than eight names
		"a.b.c.d.e.f.g.h.i", alike("a", 9), alike("a", 10), alike("a", 100), alike("ab", 1000), "a.b.c.d.e.f.g.h.", "a.b.c.d.e.f.g.h..", ".a.b.c.d.e.f.g.h",
		// a name of more than 32 bytes
		strings.Repeat("a", 33), strings.Repeat("a", 64), strings.Repeat("a", 128), strings.Repeat("a", 129), "a." + strings.Repeat("b", 33), strings.Repeat("b", 33) + ".a", "a." + strings.Repeat("b", 33) + ".c", alike(strings.Repeat("a", 33), 8), alike(strings.Repeat("a", 32), 7) + "." + strings.Repeat("a", 33), alike(strings.Repeat("a", 32), 9),
	}
}

func TestStrange(t *testing.T) {
	for _, s := range strange() {
		noPath(t, s)
		if paths.MatchString(s) {
			t.Errorf("%q is a path by the tests' own reading", s)
		}
		reads(t, s)
		// With more beside it it stays none.
		for _, more := range []string{"a." + s, s + ".a", s + ".", "." + s} {
			noPath(t, more)
		}
	}
}

// TestDepths: eight names are taken, and eight patterns of names; nine and more aren't, whatever they are.
func TestDepths(t *testing.T) {
	for n := 1; n <= 40; n++ {
		for _, part := range []string{"a", "abc", "-", strings.Repeat("x", 32)} {
			path := alike(part, n)
			reads(t, path)
			if n > 8 {
				noPath(t, path)
				refuses(t, path, api.ErrMany)
				continue
			}
			splits(t, path, cut(path)...)
			for k := 1; k <= 8; k++ {
				matches(t, alike("*", k), path, k == n)
				matches(t, alike(part, k), path, k == n)
			}
		}
		for _, part := range []string{"*", "?", "[a-c]", "{a,b}", "{}", "a*", strings.Repeat("*", 128)} {
			reads(t, alike(part, n))
			if n > 8 {
				refuses(t, alike(part, n), api.ErrMany)
			}
		}
	}
}

// TestLengths: a name has up to 32 bytes, wherever it stands; a pattern of one up to 128.
func TestLengths(t *testing.T) {
	for n := range 140 {
		for at := range 8 {
			list := []string{"a", "b", "c", "d", "e", "f", "g", "h"}
			list[at] = strings.Repeat("x", n)
			s := strings.Join(list, ".")
			reads(t, s)
			if is := trail.Right(s); is != (1 <= n && n <= 32) {
				t.Fatalf("%d bytes at %d: Right %t", n, at, is)
			}
			switch {
			case n == 0:
				refuses(t, s, api.ErrPattern)
			case n > 128:
				refuses(t, s, api.ErrLong)
			default:
				parts(t, s, list...)
				matches(t, s, "a.b.c.d.e.f.g.h", false)
			}
		}
	}
}

// TestWrongPatterns: patterns of which one may not be, told by hand.
func TestWrongPatterns(t *testing.T) {
	for _, c := range []struct {
		pattern string
		want    api.Errno
	}{
		{"", api.ErrPattern}, {".", api.ErrPattern}, {"..", api.ErrPattern}, {".......", api.ErrPattern}, {"........", api.ErrMany},
		{".a", api.ErrPattern}, {"a.", api.ErrPattern}, {"a..b", api.ErrPattern}, {"*.", api.ErrPattern}, {".*", api.ErrPattern}, {"*..*", api.ErrPattern},
		{"a.[", api.ErrPattern}, {"[.a", api.ErrPattern}, {"a.{", api.ErrPattern}, {"}.a", api.ErrPattern}, {"a,b", api.ErrPattern}, {"a.b,c", api.ErrPattern}, {"a b", api.ErrPattern}, {"a.\xff", api.ErrPattern}, {"a.*\n", api.ErrPattern}, {"a.[b-a]", api.ErrPattern}, {"a.[]", api.ErrPattern}, {"[].a", api.ErrPattern},
		// A point parts, wherever it stands: neither braces nor a class go over it.
		{"{a.b}", api.ErrPattern}, {"{a,b.c}", api.ErrPattern}, {"{a.b,c.d}", api.ErrPattern}, {"{a}.{b", api.ErrPattern}, {"[a.b]", api.ErrPattern}, {"[.]", api.ErrPattern}, {"a[--.]b", api.ErrPattern}, {"{.}", api.ErrPattern}, {"a.{b.c}.d", api.ErrPattern},
		{strings.Repeat("a", 129), api.ErrLong}, {"a." + strings.Repeat("a", 129), api.ErrLong}, {strings.Repeat("*", 129) + ".a", api.ErrLong}, {"a." + strings.Repeat(" ", 129), api.ErrLong},
		{"{{{{{a}}}}}", api.ErrDeep}, {"a.{{{{{a}}}}}", api.ErrDeep}, {"{{{{{a}}}}}.b", api.ErrDeep},
		{"{a,b}{a,b}{a,b}{a,b}{a,b}{a,b}{a,b}", api.ErrMany}, {"a.{a,b}{a,b}{a,b}{a,b}{a,b}{a,b}{a,b}", api.ErrMany}, {"{" + strings.Repeat(",", 64) + "}.a", api.ErrMany},
	} {
		refuses(t, c.pattern, c.want)
		if e := checked(c.pattern); e != c.want {
			t.Errorf("%q: %d by the tests' own reading", c.pattern, e)
		}
		for _, ahead := range []string{"a.", "*.", "{a,b}.", "a.b.c.d.e."} {
			refuses(t, ahead+c.pattern, checked(ahead+c.pattern))
		}
	}
}

// TestFirstError: of several patterns of names that may not be the first one's error is told, whichever it is; more than eight come ahead of all of them.
func TestFirstError(t *testing.T) {
	bad := []struct {
		node string
		want api.Errno
	}{
		{"", api.ErrPattern}, {"[", api.ErrPattern}, {"a b", api.ErrPattern},
		{strings.Repeat("a", 129), api.ErrLong},
		{"{{{{{a}}}}}", api.ErrDeep},
		{"{" + strings.Repeat(",", 64) + "}", api.ErrMany},
	}
	good := []string{"a", "*", "[a-c]", "{a,b}"}
	for i, x := range bad {
		for _, y := range bad {
			refuses(t, x.node+"."+y.node, x.want)
			for k, ahead := range good {
				between := good[(k+i)%len(good)]
				refuses(t, ahead+"."+x.node+"."+between+"."+y.node, x.want)
				refuses(t, ahead+"."+between+"."+x.node+"."+y.node+"."+ahead, x.want)
			}
		}
		for n := range 8 {
			refuses(t, alike("a", 8-n-1)+"."+x.node+strings.Repeat(".*", n), checked(alike("a", 8-n-1)+"."+x.node+strings.Repeat(".*", n)))
			if n < 7 {
				refuses(t, alike("a", 7-n)+"."+x.node+strings.Repeat(".*", n), x.want)
			}
			refuses(t, alike("a", 8-n)+"."+x.node+strings.Repeat(".*", n), api.ErrMany)
		}
		refuses(t, x.node+strings.Repeat(".a", 8), api.ErrMany)
		refuses(t, alike(x.node, 8), x.want)
		refuses(t, strings.Repeat(x.node+".", 8)+x.node, api.ErrMany)
	}
}

// TestPatternAheadOfPath: a pattern's error is told whatever the path is; a path's ahead of how many names there are.
func TestPatternAheadOfPath(t *testing.T) {
	for _, path := range append(strange(), "a", "a.b") {
		for pattern, want := range map[string]api.Errno{"": api.ErrPattern, "a..b": api.ErrPattern, "[": api.ErrPattern, "*.*.*.*.*.*.*.*.*": api.ErrMany, "{{{{{}}}}}": api.ErrDeep, strings.Repeat("a", 129): api.ErrLong} {
			if is, e := trail.Match(pattern, path); e != want || is {
				t.Fatalf("Match(%s, %s) = %t, %d, want %d", brief(pattern), brief(path), is, e, want)
			}
		}
	}
	for _, path := range strange() {
		for _, pattern := range []string{"*", "a", "{}", "*.*", alike("*", 8), "{a,b}.[a-c]", strings.Repeat("*", 128)} {
			if is, e := trail.Match(pattern, path); e != api.ErrPath || is {
				t.Fatalf("Match(%s, %s) = %t, %d, want %d", brief(pattern), brief(path), is, e, api.ErrPath)
			}
		}
	}
}

// TestLong: texts far longer than what may be end soon.
func TestLong(t *testing.T) {
	const n = 1 << 24
	for s, want := range map[string]api.Errno{
		strings.Repeat(".", n):                             api.ErrMany,
		strings.Repeat("a.", n):                            api.ErrMany,
		strings.Repeat("a", n):                             api.ErrLong,
		"a." + strings.Repeat("*", n):                      api.ErrLong,
		strings.Repeat("\xff", n) + ".a":                   api.ErrLong,
		strings.Repeat("{", n):                             api.ErrLong,
		"{." + strings.Repeat("a", n):                      api.ErrPattern,
		"a.b.c.d.e.f.g.h." + "a" + string(make([]byte, n)): api.ErrMany,
	} {
		noPath(t, s)
		refuses(t, s, want)
	}
	ways := strings.Repeat("{*a,a*}", 6) + strings.Repeat("*a", 43)
	matches(t, alike(ways, 8), alike(strings.Repeat("a", 32), 8), false)
	matches(t, alike(strings.Repeat("*", 128), 8), alike(strings.Repeat("a", 32), 8), true)
}
