package trie_test

import (
	"slices"
	"strings"
	"testing"

	"isobar/api"
	"isobar/trie"
)

// strange are texts that are no paths, told by hand.
func strange() []string {
	return []string{
		"", ".", "..", ".a", "a.", "a..b", "a.b.", ".......",
		" ", "a b", " a", "a ", "a\n", "a/b", "a\\.b", "a,b", "(a)", "\x00", "a.\xff.b", "é",
		"*", "a.*", "?", "[a]", "{a}", "{a,b}.c", "a.{}", "[", "a.{",
		"a.b.c.d.e.f.g.h.i", alike("a", 9), alike("a", 1000), "a.b.c.d.e.f.g.h.",
		strings.Repeat("a", 33), "a." + strings.Repeat("b", 33), strings.Repeat("b", 129) + ".a", alike(strings.Repeat("a", 32), 9),
	}
}

// wrong are patterns that may not be, and what Find and Nodes say of them, told by hand.
func wrong() map[string]api.Errno {
	return map[string]api.Errno{
		"": api.ErrPattern, ".": api.ErrPattern, "a..b": api.ErrPattern, "a.": api.ErrPattern, ".*": api.ErrPattern, "[": api.ErrPattern, "a.[": api.ErrPattern, "{a.b}": api.ErrPattern, "a,b": api.ErrPattern, "a b": api.ErrPattern, "[b-a]": api.ErrPattern, "*.[]": api.ErrPattern, "\xff": api.ErrPattern,
		strings.Repeat("*", 129): api.ErrLong, "a." + strings.Repeat("a", 129): api.ErrLong,
		"{{{{{a}}}}}": api.ErrDeep, "*.{{{{{}}}}}": api.ErrDeep,
		"{" + strings.Repeat(",", 64) + "}": api.ErrMany, alike("*", 9): api.ErrMany, alike("a", 9): api.ErrMany, "........": api.ErrMany, alike("[", 9): api.ErrMany,
		// of several the first one's
		"[.{{{{{a}}}}}":                         api.ErrPattern,
		"{{{{{a}}}}}.[":                         api.ErrDeep,
		strings.Repeat("a", 129) + ".[":         api.ErrLong,
		"x.{" + strings.Repeat(",", 64) + "}.[": api.ErrMany,
	}
}

// TestStrange: what is no path isn't held, and what is held stays as it was.
func TestStrange(t *testing.T) {
	for _, l := range []list{nil, {"a"}, {"a", "a.b", "a.b.c"}, many(64)} {
		x := built(t, l)
		for _, s := range strange() {
			// With more beside it, it stays none.
			for _, path := range []string{s, "a." + s, s + ".a", s + "."} {
				inserts(t, x, path, api.ErrPath)
				drops(t, x, path, api.ErrPath)
				if x.Has(path) {
					t.Errorf("Has(%q)", path)
				}
			}
			builds(t, []string{s}, api.ErrPath)
			builds(t, []string{"a", "b", s}, api.ErrPath)
		}
		tells(t, x, l, patterns()...)
	}
}

// TestWrongPatterns: each error of a pattern, whatever is held, of a nil Trie, too.
func TestWrongPatterns(t *testing.T) {
	for _, x := range []*trie.Trie{nil, trie.New(), built(t, []string{"a"}), built(t, []string{"a.b", "a.b.c", "x"}), built(t, many(64))} {
		held := x.Paths()
		for pattern, e := range wrong() {
			refuses(t, x, pattern, e)
		}
		if !slices.Equal(x.Paths(), held) {
			t.Errorf("%q became %q", held, x.Paths())
		}
	}
}

// TestNotHeld: what is about a path that is held isn't it.
func TestNotHeld(t *testing.T) {
	x := built(t, []string{"ab.cd.ef"})
	for _, path := range []string{"ab", "ab.cd", "ab.cd.ef.gh", "ab.cd.e", "ab.cd.eff", "ab.c", "cd", "cd.ef", "ef", "ab.ef", "AB.cd.ef", "ab.cd.EF", "abcd", "ab-cd-ef", "ef.cd.ab", "ab.cd.ef.ab.cd.ef"} {
		if x.Has(path) {
			t.Errorf("Has(%q)", path)
		}
		drops(t, x, path, api.ErrNone)
		inserts(t, x, path, api.OK)
		inserts(t, x, path, api.ErrExist)
		tells(t, x, list{"ab.cd.ef", path}, patterns()...)
		drops(t, x, path, api.OK)
		tells(t, x, list{"ab.cd.ef"}, patterns()...)
	}
}

// TestMany: 64 are held, and not one more, till one of them goes; nodes that are branches alone don't count.
func TestMany(t *testing.T) {
	deep := many(64)
	for i, path := range deep {
		deep[i] = alike(path, 1+i%8)
	}
	apart := many(64)
	for i, path := range apart {
		apart[i] = alike(path, 8)
	}
	for _, l := range []list{many(64), deep, apart} {
		x, held := trie.New(), list{}
		for _, path := range l {
			inserts(t, x, path, held.insert(path))
			tells(t, x, held, "*", "*.*", "ma[a-d]*", alike("*", 8))
		}
		if x.Len() != 64 {
			t.Fatalf("Len() = %d", x.Len())
		}
		for _, path := range []string{"n", "n.a", "maa.x.y", "ma", alike("x", 8), "zz"} {
			inserts(t, x, path, api.ErrMany)
			drops(t, x, path, api.ErrNone)
		}
		// What is no path, and what is held, is told ahead of how many there are.
		inserts(t, x, "n.", api.ErrPath)
		inserts(t, x, "", api.ErrPath)
		for _, path := range l {
			inserts(t, x, path, api.ErrExist)
		}
		tells(t, x, l, patterns()...)
		for _, path := range l {
			drops(t, x, path, api.OK)
			inserts(t, x, "n", api.OK)
			inserts(t, x, path, api.ErrMany)
			inserts(t, x, "n", api.ErrExist)
			drops(t, x, "n", api.OK)
			inserts(t, x, path, api.OK)
		}
		tells(t, x, l, patterns()...)
	}
}

// TestBuildFirstError: of several paths that can't be held the first one's error is told.
func TestBuildFirstError(t *testing.T) {
	builds(t, []string{"a", "a"}, api.ErrExist)
	builds(t, []string{"a", "b", "c", "b"}, api.ErrExist)
	builds(t, []string{"a.b", "a", "a.b"}, api.ErrExist)
	builds(t, []string{"a", "a", "b."}, api.ErrExist)
	builds(t, []string{"a", "b.", "a"}, api.ErrPath)
	builds(t, []string{"", ""}, api.ErrPath)
	full := many(64)
	with := func(more ...string) []string { return slices.Concat(full, more) }
	builds(t, with("n"), api.ErrMany)
	builds(t, with("n", "maa"), api.ErrMany)
	builds(t, with("n", "n."), api.ErrMany)
	builds(t, with("maa", "n"), api.ErrExist)
	builds(t, with("n.", "n"), api.ErrPath)
	builds(t, with("n.", "maa"), api.ErrPath)
	builds(t, with(full...), api.ErrExist)
	builds(t, slices.Concat([]string{"n"}, full), api.ErrMany)
	builds(t, slices.Concat([]string{"n", "."}, full), api.ErrPath)
	builds(t, many(65), api.ErrMany)
	builds(t, many(600), api.ErrMany)
	tells(t, built(t, full), full, patterns()...)
	tells(t, built(t, many(63)), many(63), patterns()...)
}

// TestNil: a nil Trie holds nothing, and takes nothing.
func TestNil(t *testing.T) {
	var none *trie.Trie
	for range 2 {
		tells(t, none, nil, patterns()...)
		for _, path := range append(strange(), "a", "a.b", alike("x", 8)) {
			inserts(t, none, path, api.ErrArg)
			want := api.ErrPath
			if paths.MatchString(path) {
				want = api.ErrNone
			}
			drops(t, none, path, want)
			if none.Has(path) {
				t.Errorf("Has(%q)", path)
			}
		}
		drops(t, none, "a", api.ErrNone)
		drops(t, none, "a..", api.ErrPath)
	}
}

// TestLong: texts far longer than what may be end soon, and so do patterns that fit in many ways.
func TestLong(t *testing.T) {
	const n = 1 << 24
	x := built(t, many(60))
	for s, want := range map[string]api.Errno{
		strings.Repeat(".", n):        api.ErrMany,
		strings.Repeat("a.", n):       api.ErrMany,
		strings.Repeat("a", n):        api.ErrLong,
		"a." + strings.Repeat("*", n): api.ErrLong,
	} {
		inserts(t, x, s, api.ErrPath)
		drops(t, x, s, api.ErrPath)
		refuses(t, x, s, want)
	}
	ways := strings.Repeat("{*a,a*}", 6) + strings.Repeat("*a", 43)
	var l list
	for i := range 64 {
		l = append(l, strings.Repeat(strings.Repeat("a", 32)+".", 7)+strings.Repeat("a", 30)+string([]byte{byte('a' + i/8), byte('a' + i%8)}))
	}
	x = built(t, l)
	finds(t, x, alike(strings.Repeat("*", 128), 8), l.rising()...)
	finds(t, x, alike(ways, 8))
	hits(t, x, alike(strings.Repeat("*a", 32), 7), branch(alike(strings.Repeat("a", 32), 7)))
}
