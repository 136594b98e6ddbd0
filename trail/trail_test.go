package trail_test

import (
	"math/rand/v2"
	"slices"
	"strings"
	"testing"

	"isobar/api"
	"isobar/trail"
)

// TestExamples: the chapter's.
func TestExamples(t *testing.T) {
	matches(t, "a.b*.c", "a.bx.c", true)
	matches(t, "a.b*.c", "a.bx", false)
	matches(t, "a.b*.c", "a.b.x.c", false)
	noPath(t, "a..b")
	refuses(t, "a..b", api.ErrPattern)
}

// TestPaths: paths, and their names, told by hand; each is a pattern, too.
func TestPaths(t *testing.T) {
	for path, want := range map[string][]string{
		"a":                                      {"a"},
		"Z":                                      {"Z"},
		"0":                                      {"0"},
		"-":                                      {"-"},
		"_-:%#@+=":                               {"_-:%#@+="},
		"a.b":                                    {"a", "b"},
		"b.a":                                    {"b", "a"},
		"a.a":                                    {"a", "a"},
		"a.b1.c-d":                               {"a", "b1", "c-d"},
		"servers.web-01.load":                    {"servers", "web-01", "load"},
		"1.2.3":                                  {"1", "2", "3"},
		"-.-":                                    {"-", "-"},
		"=.+.@":                                  {"=", "+", "@"},
		"a.b.c.d.e.f.g":                          {"a", "b", "c", "d", "e", "f", "g"},
		"a.b.c.d.e.f.g.h":                        {"a", "b", "c", "d", "e", "f", "g", "h"},
		"12345678901234567890123456789012":       {"12345678901234567890123456789012"},
		"a.12345678901234567890123456789012.b":   {"a", "12345678901234567890123456789012", "b"},
		alike(strings.Repeat("x", 32), 8):        slices.Repeat([]string{strings.Repeat("x", 32)}, 8),
		"abcdefghijklmnopqrstuvwxyz.ABCDEFGHIJK": {"abcdefghijklmnopqrstuvwxyz", "ABCDEFGHIJK"},
	} {
		splits(t, path, want...)
		parts(t, path, want...)
		reads(t, path)
		matches(t, path, path, true)
	}
}

// TestHead: a path's first names, told by hand.
func TestHead(t *testing.T) {
	heads(t, "a", 1, "a")
	heads(t, "ab.cd.ef", 1, "ab")
	heads(t, "ab.cd.ef", 2, "ab.cd")
	heads(t, "ab.cd.ef", 3, "ab.cd.ef")
	heads(t, "a.a.a.a", 3, "a.a.a")
	for n, want := range []string{"a", "a.bc", "a.bc.d", "a.bc.d.efg", "a.bc.d.efg.h", "a.bc.d.efg.h.i", "a.bc.d.efg.h.i.jk", "a.bc.d.efg.h.i.jk.l"} {
		heads(t, "a.bc.d.efg.h.i.jk.l", n+1, want)
	}
	for n := -20; n <= 20; n++ {
		for k := 1; k <= 8; k++ {
			path := alike("xy", k)
			if 1 <= n && n <= k {
				heads(t, path, n, alike("xy", n))
				continue
			}
			if s, e := trail.Head(path, n); e != api.ErrArg || s != "" {
				t.Errorf("Head(%q, %d) = %q, %d", path, n, s, e)
			}
		}
	}
}

// TestNodes: patterns, and their patterns of names as they stand, told by hand.
func TestNodes(t *testing.T) {
	for pattern, want := range map[string][]string{
		"*":                      {"*"},
		"*.*":                    {"*", "*"},
		"a.{b,c}.*":              {"a", "{b,c}", "*"},
		"{}.{,}.{a,}":            {"{}", "{,}", "{a,}"},
		"?.[a-c].[-]":            {"?", "[a-c]", "[-]"},
		"a*b?[cd]{e,f{g,h}}.x":   {"a*b?[cd]{e,f{g,h}}", "x"},
		"{{{{a}}}}.{{{{b}}}}":    {"{{{{a}}}}", "{{{{b}}}}"},
		"*.*.*.*.*.*.*.*":        {"*", "*", "*", "*", "*", "*", "*", "*"},
		strings.Repeat("a", 128): {strings.Repeat("a", 128)},
		// Each may be long, and expand to many, for itself.
		alike(strings.Repeat("*", 128), 8):             slices.Repeat([]string{strings.Repeat("*", 128)}, 8),
		alike("{"+strings.Repeat(",", 63)+"}", 8):      slices.Repeat([]string{"{" + strings.Repeat(",", 63) + "}"}, 8),
		alike(strings.Repeat("{a,b}", 6), 8):           slices.Repeat([]string{strings.Repeat("{a,b}", 6)}, 8),
		alike("{{{{a}}}}", 8):                          slices.Repeat([]string{"{{{{a}}}}"}, 8),
		"a." + strings.Repeat("x", 33):                 {"a", strings.Repeat("x", 33)},
		strings.Repeat("x", 33) + ".a":                 {strings.Repeat("x", 33), "a"},
		strings.Repeat("{a}", 42) + ".{a,a}":           {strings.Repeat("{a}", 42), "{a,a}"},
		"web{1,2}.cpu[0-9].{user,sys}.{*,a}.{?,[a-b]}": {"web{1,2}", "cpu[0-9]", "{user,sys}", "{*,a}", "{?,[a-b]}"},
	} {
		parts(t, pattern, want...)
		reads(t, pattern)
	}
}

// TestWorkedOut: patterns, paths that they fit, and paths that they don't, told by hand.
func TestWorkedOut(t *testing.T) {
	type list []string
	for _, c := range []struct {
		pattern string
		in, out list
	}{
		{"a", list{"a"}, list{"b", "A", "aa", "a.a", "a.b", "b.a"}},
		{"a.b", list{"a.b"}, list{"a", "b", "ab", "b.a", "a.b.c", "c.a.b", "a.bb", "aa.b", "A.b"}},
		{"*", list{"a", "abc", "-", strings.Repeat("x", 32)}, list{"a.b", "a.b.c", "a.b.c.d.e.f.g.h"}},
		{"**", list{"a", "abc"}, list{"a.b"}},
		{"*.*", list{"a.b", "aa.bb"}, list{"a", "ab", "a.b.c"}},
		{"*.*.*.*.*.*.*.*", list{"a.b.c.d.e.f.g.h"}, list{"a", "a.b.c.d.e.f.g"}},
		{"a.*", list{"a.b", "a.a", "a.xyz"}, list{"a", "b.a", "aa.b", "a.b.c", "b"}},
		{"*.a", list{"b.a", "a.a", "xyz.a"}, list{"a", "a.b", "b.aa", "c.b.a"}},
		{"a.*.c", list{"a.b.c", "a.c.c", "a.xx.c"}, list{"a.c", "a.b.b.c", "a.b.c.d", "a.b.cc"}},
		{"*.b.*", list{"a.b.c", "b.b.b"}, list{"a.b", "b.c", "a.a.b", "b.a.a", "a.bb.c"}},
		{"?", list{"a", "-"}, list{"ab", "a.b"}},
		{"?.?", list{"a.b"}, list{"a", "ab", "ab.c", "a.bc", "a.b.c"}},
		{"???", list{"abc", "a-b"}, list{"a.b", "a", "ab"}},
		{"a?b", list{"axb", "a-b"}, list{"a.b", "ab"}},
		{"a*b", list{"ab", "axb"}, list{"a.b", "a.xb"}},
		{"[a-c]", list{"a", "c"}, list{"d", "ab", "a.b"}},
		{"[a-c].[a-c]", list{"a.c", "c.a", "b.b"}, list{"a", "a.d", "d.a", "ab.c"}},
		{"x[--0]y", list{"x-y", "x0y"}, list{"x.y", "x", "xy", "x1y"}},
		{"x[#-z]y", list{"x-y", "xay", "x_y"}, list{"x.y", "xy"}},
		{"*.{a,b}", list{"x.a", "x.b"}, list{"x.c", "a", "x.ab", "x.a.b"}},
		{"{a,b}.{a,b}", list{"a.a", "a.b", "b.a", "b.b"}, list{"a", "c.a", "a.c", "ab.a"}},
		{"{a,b*}.c", list{"a.c", "b.c", "bx.c"}, list{"ax.c", "c", "a.cc"}},
		{"a{b,c{d,e}}f.x", list{"abf.x", "acdf.x", "acef.x"}, list{"acf.x", "abf", "x.abf"}},
		{"a.{}", nil, list{"a", "a.a", "a.b"}},
		{"{}", nil, list{"a", "a.b"}},
		{"{}.a", nil, list{"a", "a.a"}},
		{"a.{,b}", list{"a.b"}, list{"a", "a.bb", "a.a"}},
		{"a.{b,}c", list{"a.bc", "a.c"}, list{"a.b", "a", "c"}},
		{"{{*a,b*},?}.{{}x,{y}}", list{"ca.x", "bc.y", "z.x"}, list{"cd.x", "z.xy", "z", "ca.b"}},
		{strings.Repeat("x", 32), list{strings.Repeat("x", 32)}, list{strings.Repeat("x", 31)}},
		{strings.Repeat("x", 33), nil, list{strings.Repeat("x", 32), "x"}},
		{"a." + strings.Repeat("?", 32), list{"a." + strings.Repeat("x", 32)}, list{"a." + strings.Repeat("x", 31), "a"}},
		{"a." + strings.Repeat("?", 33), nil, list{"a." + strings.Repeat("x", 32), "a"}},
		{"servers.web*.cpu.{user,sys}", list{"servers.web.cpu.user", "servers.web-01.cpu.sys"}, list{"servers.web.cpu", "servers.db.cpu.user", "servers.web.cpu.idle", "servers.web.cpu.user.max"}},
	} {
		for _, path := range c.in {
			matches(t, c.pattern, path, true)
			if !expression(c.pattern).MatchString(path) {
				t.Errorf("%q fits %q, but not by the tests' own reading", c.pattern, path)
			}
		}
		for _, path := range c.out {
			matches(t, c.pattern, path, false)
			if expression(c.pattern).MatchString(path) {
				t.Errorf("%q fits %q by the tests' own reading", c.pattern, path)
			}
		}
		reads(t, c.pattern)
	}
}

// TestBytes: name bytes are the bytes of paths, and no other one of all, wherever it stands.
func TestBytes(t *testing.T) {
	n := 0
	for c := range 256 {
		b := string([]byte{byte(c)})
		for _, path := range []string{b, b + "a", "a" + b, "a" + b + "a", b + ".a", "a." + b, "a." + b + ".a", "a.a" + b + "a.a", "a.b.c.d.e.f.g.h" + b, alike("a"+b, 8)} {
			if is, _ := reads(t, path); b != "." && is != strings.Contains(nameBytes, b) {
				t.Errorf("Right(%q) = %t", path, is)
			}
		}
		if trail.Right(b) {
			n++
		}
	}
	if n != 26+26+10+8 {
		t.Errorf("%d name bytes", n)
	}
}

// TestShort holds all short texts to the chapter's words, as paths and as patterns, and those that are ones against each other.
func TestShort(t *testing.T) {
	for _, c := range []struct {
		alphabet string
		n        int
	}{{"a.", 10}, {"a.*", 6}, {"ab.?", 5}, {"a.{,}", 5}, {"a.[-]", 5}, {"a.{}*", 5}, {"a.* \xff", 4}} {
		var ways, fitted []string
		for _, s := range words(c.alphabet, c.n) {
			path, pattern := reads(t, s)
			if path {
				ways = append(ways, s)
			}
			if pattern {
				fitted = append(fitted, s)
			}
		}
		ways = append(ways, "b.a", "a.b.a", "ab", "aaaa.aa")
		for _, pattern := range fitted {
			x := expression(pattern)
			for _, path := range ways {
				matches(t, pattern, path, x.MatchString(path))
			}
		}
	}
}

// TestSome holds paths and patterns by a fixed seed, and what becomes of them when they are spoilt, to the chapter's words.
func TestSome(t *testing.T) {
	r := rand.New(rand.NewPCG(181, 182))
	fits, fails, wrong := 0, 0, 0
	for range 30000 {
		path := somePath(r, oneOf(r, "ab", "abc-", nameBytes), oneOf(r, 2, 4, 8, 9), oneOf(r, 1, 3, 8, 33))
		pattern := somePattern(r, path)
		for range 2 {
			isPath, _ := reads(t, path)
			_, isPattern := reads(t, pattern)
			switch {
			case !isPath || !isPattern:
				wrong++
			case expression(pattern).MatchString(path):
				matches(t, pattern, path, true)
				fits++
			default:
				matches(t, pattern, path, false)
				fails++
			}
			if r.IntN(2) == 0 {
				pattern = spoilt(r, pattern)
			} else {
				path = spoilt(r, path)
			}
		}
	}
	if min(fits, fails, wrong) < 5000 {
		t.Errorf("%d fit, %d don't, of %d one is wrong", fits, fails, wrong)
	}
}

// TestSpoilt: any bytes, of any length about what may be.
func TestSpoilt(t *testing.T) {
	r := rand.New(rand.NewPCG(183, 184))
	for range 40000 {
		s := some(r, oneOf(r, "a.", "ab.*?", "a.{},", "a.[]-", nameBytes+".", "..."+nameBytes+signs, allBytes(), "{a,b}.{c,d}"), oneOf(r, 3, 8, 20, 300))
		_, pattern := reads(t, s)
		if path := somePath(r, "ab", 4, 3); pattern {
			matches(t, s, path, expression(s).MatchString(path))
		}
	}
}
