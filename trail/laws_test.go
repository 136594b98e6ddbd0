package trail_test

import (
	"math/rand/v2"
	"slices"
	"strings"
	"testing"

	"isobar/api"
	"isobar/glob"
	"isobar/trail"
)

// TestNameByName (P16.2): a pattern fits just the paths of as many names each of which its own pattern fits.
func TestNameByName(t *testing.T) {
	nodes := []string{"a", "b", "ab", "*", "?", "a*", "*b", "[a-b]", "{a,ab}", "{}", "{,b}", "-"}
	names := []string{"a", "b", "ab", "-"}
	fits := func(node, name string) bool {
		is, e := glob.Match(node, name)
		if e != api.OK {
			t.Fatalf("%q: %d", node, e)
		}
		return is
	}
	for _, p := range nodes {
		for _, x := range names {
			matches(t, p, x, fits(p, x))
			for _, q := range nodes {
				matches(t, p+"."+q, x, false)
				for _, y := range names {
					matches(t, p, x+"."+y, false)
					matches(t, p+"."+q, x+"."+y, fits(p, x) && fits(q, y))
					matches(t, p+"."+q+"."+p, x+"."+y+"."+x, fits(p, x) && fits(q, y))
					matches(t, p+"."+q+"."+p, x+"."+y+"."+y, fits(p, x) && fits(q, y) && fits(p, y))
					matches(t, p+"."+q+"."+q, x+"."+y+".a", fits(p, x) && fits(q, y) && fits(q, "a"))
				}
			}
		}
	}
}

// TestOneNameOff (P16.2): of a pattern that fits a path one name's pattern that doesn't fit is enough, at each place.
func TestOneNameOff(t *testing.T) {
	for n := 1; n <= 8; n++ {
		path := cut(alike("ab", n))
		for at := range n {
			for node, want := range map[string]bool{"ab": true, "*": true, "a?": true, "{x,ab}": true, "[a][b]": true, "b": false, "?": false, "{}": false, "a": false, "abc": false, "ba": false, "AB": false} {
				pattern := slices.Repeat([]string{"*"}, n)
				pattern[at] = node
				matches(t, strings.Join(pattern, "."), strings.Join(path, "."), want)
				pattern = slices.Clone(path)
				pattern[at] = node
				matches(t, strings.Join(pattern, "."), strings.Join(path, "."), want)
			}
		}
	}
}

// TestSomeNameByName (P16.2): the same by a fixed seed, of patterns and paths of which Nodes and Split tell the parts.
func TestSomeNameByName(t *testing.T) {
	r := rand.New(rand.NewPCG(185, 186))
	fitted := 0
	for range 20000 {
		path := somePath(r, oneOf(r, "ab", "abc-", nameBytes), oneOf(r, 2, 8), 6)
		pattern := somePattern(r, path)
		nodes, e := trail.Nodes(pattern)
		if e != api.OK {
			continue
		}
		names, e := trail.Split(path)
		if e != api.OK {
			t.Fatalf("Split(%q): %d", path, e)
		}
		want := len(nodes) == len(names)
		for i := 0; want && i < len(nodes); i++ {
			want, _ = glob.Match(nodes[i], names[i])
		}
		matches(t, pattern, path, want)
		if want {
			fitted++
		}
		for n := 1; n <= min(len(nodes), len(names)); n++ {
			head, e := trail.Head(path, n)
			if e != api.OK {
				t.Fatalf("Head(%q, %d): %d", path, n, e)
			}
			if want {
				matches(t, strings.Join(nodes[:n], "."), head, true)
			}
		}
	}
	if fitted < 4000 {
		t.Errorf("only %d fit", fitted)
	}
}

// TestPathFitsItself (P16.2): a path, as a pattern, is plain, has the same parts, and fits itself alone.
func TestPathFitsItself(t *testing.T) {
	var all []string
	for _, s := range words("ab.", 5) {
		if trail.Right(s) {
			all = append(all, s)
		}
	}
	for _, p := range all {
		for _, q := range all {
			matches(t, p, q, p == q)
		}
	}
	r := rand.New(rand.NewPCG(187, 188))
	for range 5000 {
		path := somePath(r, nameBytes, 8, 32)
		matches(t, path, path, true)
		parts(t, path, cut(path)...)
		splits(t, path, cut(path)...)
		for range 4 {
			other := spoilt(r, path)
			if trail.Right(other) {
				matches(t, path, other, path == other)
				matches(t, other, path, path == other)
			}
		}
		for _, other := range []string{strings.ToUpper(path), strings.ToLower(path), path + ".a", "a." + path, path + "a", strings.ReplaceAll(path, ".", "")} {
			if trail.Right(other) {
				matches(t, path, other, path == other)
			}
		}
	}
}

// TestPlainIsRight: a pattern is plain where it is a path, not where each of its names' patterns is plain.
func TestPlainIsRight(t *testing.T) {
	for _, s := range append(strange(), words("a.*", 7)...) {
		if trail.Plain(s) != trail.Right(s) {
			t.Errorf("%s: Plain %t, Right %t", brief(s), trail.Plain(s), trail.Right(s))
		}
	}
	if long := strings.Repeat("a", 33); !glob.Plain(long) || trail.Plain(long) || trail.Plain("a."+long) {
		t.Error("33 bytes")
	}
}

// TestHeadsOfHeads: a head's names are the path's first ones, and its own heads are the path's.
func TestHeadsOfHeads(t *testing.T) {
	r := rand.New(rand.NewPCG(189, 190))
	for range 3000 {
		path := somePath(r, nameBytes, 8, 32)
		names, _ := trail.Split(path)
		for n := 1; n <= len(names); n++ {
			head, e := trail.Head(path, n)
			if e != api.OK || !strings.HasPrefix(path+".", head+".") {
				t.Fatalf("Head(%q, %d) = %q, %d", path, n, head, e)
			}
			splits(t, head, names[:n]...)
		}
		heads(t, path, len(names), path)
	}
}
