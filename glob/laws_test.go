package glob_test

import (
	"math/rand/v2"
	"strings"
	"testing"

	"isobar/api"
	"isobar/glob"
)

// fitted is whether a pattern, or the empty one, which fits the empty name alone, fits a name, by Match.
func fitted(t *testing.T, pattern, name string) bool {
	t.Helper()
	if pattern == "" {
		return name == ""
	}
	is, e := glob.Match(pattern, name)
	if e != api.OK {
		t.Fatalf("Match(%q, %q): %d", pattern, name, e)
	}
	return is
}

// names are some that patterns of an alphabet fit now and then.
func names(r *rand.Rand, alphabet string, n int) []string {
	list := []string{"", "a", ".", "\xff"}
	for range n {
		list = append(list, some(r, alphabet, 1+r.IntN(8)))
	}
	return list
}

// TestOneOfExpanded (P15.2): a pattern fits what one of its expanded ones fits, and nothing else; these have no braces, and expand to themselves.
func TestOneOfExpanded(t *testing.T) {
	r := rand.New(rand.NewPCG(161, 162))
	for range 8000 {
		alphabet := oneOf(r, "ab", "abc-")
		pattern := somePattern(r, alphabet, 1+r.IntN(5), r.IntN(5))
		l, e := glob.Expand(pattern)
		if e != api.OK {
			continue
		}
		for _, p := range l {
			if strings.ContainsAny(p, "{},") {
				t.Fatalf("%q expands to %q", pattern, p)
			}
			if p != "" {
				expands(t, p, p)
			}
		}
		for _, name := range names(r, alphabet, 8) {
			want := false
			for _, p := range l {
				want = want || fitted(t, p, name)
			}
			matches(t, pattern, name, want)
		}
	}
}

// TestEither (P15.2): two patterns as alternatives of braces fit what either fits; and so within other pieces.
func TestEither(t *testing.T) {
	r := rand.New(rand.NewPCG(163, 164))
	taken := 0
	for range 20000 {
		alphabet := oneOf(r, "ab", "abc-")
		p, q := somePattern(r, alphabet, 4, r.IntN(4)), somePattern(r, alphabet, 4, r.IntN(4))
		ahead, behind := oneOf(r, "", "a", "*", "?", "[a-c]"), oneOf(r, "", "b", "*", "?*", "{a,}")
		both := ahead + "{" + p + "," + q + "}" + behind
		if glob.Check(both) != api.OK {
			continue
		}
		taken++
		for _, name := range names(r, alphabet, 8) {
			matches(t, both, name, fitted(t, ahead+p+behind, name) || fitted(t, ahead+q+behind, name))
			matches(t, ahead+"{"+q+","+p+"}"+behind, name, fitted(t, both, name))
		}
	}
	if taken < 5000 {
		t.Errorf("only %d pairs were taken", taken)
	}
}

// TestAlone (P15.2): braces about a pattern change nothing of what it fits, nor do those of nothing beside it.
func TestAlone(t *testing.T) {
	r := rand.New(rand.NewPCG(165, 166))
	for range 6000 {
		pattern := somePattern(r, "abc-", 4, r.IntN(3))
		if glob.Check(pattern) != api.OK {
			continue
		}
		l, _ := glob.Expand(pattern)
		for _, p := range []string{"{" + pattern + "}", "{{" + pattern + "}}", "{}" + pattern, pattern + "{}"} {
			if len(p) > 128 {
				continue
			}
			expands(t, p, l...)
			for _, name := range names(r, "abc-", 6) {
				matches(t, p, name, fitted(t, pattern, name))
			}
		}
	}
}

// TestPlainFitsItself (P15.3): a plain pattern fits itself alone, and expands to itself alone.
func TestPlainFitsItself(t *testing.T) {
	short := words("ab-", 4)
	for _, pattern := range short[1:] {
		for _, name := range short {
			matches(t, pattern, name, pattern == name)
		}
	}
	r := rand.New(rand.NewPCG(167, 168))
	for range 3000 {
		pattern := some(r, nameBytes, 127) + some(r, nameBytes, 1)
		if pattern == "" {
			continue
		}
		if !glob.Plain(pattern) {
			t.Fatalf("Plain(%q) = false", pattern)
		}
		expands(t, pattern, pattern)
		matches(t, pattern, pattern, true)
		at := r.IntN(len(pattern))
		other := some(r, allBytes(), 1)
		for _, name := range []string{"", pattern[1:], pattern[:len(pattern)-1], pattern + "a", "a" + pattern, pattern + pattern, strings.ToUpper(pattern), strings.ToLower(pattern), pattern[:at] + pattern[at+1:], pattern[:at] + other + pattern[at+1:], pattern[:at] + other + pattern[at:]} {
			matches(t, pattern, name, name == pattern)
		}
	}
}

// TestNotPlain (P15.3): whatever has a sign isn't plain.
func TestNotPlain(t *testing.T) {
	for _, pattern := range []string{"", "*", "?", "a*", "*a", "a?", "[a]", "a[b]", "{a}", "{}", "a{}", "{a,b}", "a.b", ".", "a,b", "a]", "a}"} {
		if glob.Plain(pattern) {
			t.Errorf("Plain(%q) = true", pattern)
		}
	}
}

// TestStarFitsAll (P15.3): a star fits all, whatever it is, and so do more of them.
func TestStarFitsAll(t *testing.T) {
	all := append(words("ab.", 4), allBytes(), strings.Repeat("a", 1<<20), "*", "?", "[", "{", "a,b", "é", "\n")
	for b := range 256 {
		all = append(all, string([]byte{byte(b)}))
	}
	for _, name := range all {
		for _, pattern := range []string{"*", "**", "{*}", "{a,*}", "{*,}", "*{}", "{,}*"} {
			matches(t, pattern, name, true)
		}
		matches(t, "?", name, len(name) == 1)
		matches(t, "?*", name, name != "")
	}
}
