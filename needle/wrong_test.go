package needle_test

import (
	"strings"
	"testing"

	"isobar/api"
	"isobar/needle"
)

// wrong are texts of at most 64 bytes that are no patterns, told by hand.
func wrong() []string {
	return []string{
		// * first, behind ^, and behind *
		"*", "**", "*a", "^*", "^*a", "^**", "a**", "a**b", "[a]**", ".**", `\***`, "^a**$", "*$", "^*$",
		// ^ but at the beginning, $ but at the end, each of them twice
		"a^", "a^b", "^^", "^^a", "a^^", "$^", "^a^", "[a]^", "a*^", "$a", "a$b", "$$", "a$$", "^$$", "^^$", "$$$", "$*", "a$*", "^$a", "^$*", "$a$", "^a^$", ".$.", "$^$",
		// \ at the end
		`\`, `a\`, `^\`, `\\\`, `[a]\`, `a*\`, `.\`,
		// a class that isn't closed
		"[", "[a", "[a-", "[a-b", "[^", "[^a", "[^a-", "[^a-b", "a[", "a[b", "[a][", "[a][b", "[\\", "[[", "[-", "[--", "[---", "[.*", "[a$", "^[$", "[^^", "[a*",
		// a class of no member
		"[]", "[^]", "[]*", "[^]*", "a[]b", "^[]$", "^[^]$", "[]a]", "[^]a]", "[]]", "[^]]", "[]-a]", "[^]-]", "[]-]", "[][]", "[a][]",
		// ] alone
		"]", "a]", "]a", "^]", "]$", "]*", "[a]]", "[a]]]", "[a-]]", "[a-]b]", `\]]`, `[\]]`, `[\]a]`, "[^a]]",
		// a range that falls
		"[c-a]", "[b-a]", "[^b-a]", "[a-bc-b]", "[z-a]", "[a-zA-Z9-0]", "[\xff-\x00]", "[\x01-\x00]", "[\x80-\x7f]", "[a--]", "[.--]", "[b-a", "[a-^]", "[a-\\]", "[xb-a]", "[b-ax]", "[-b-a]", "[^^-A]", "[a-b-c-b]", "x[b-a]*y", "^[b-a]$",
	}
}

func TestWrong(t *testing.T) {
	for _, pattern := range wrong() {
		refuses(t, pattern, api.ErrPattern)
		if _, e := compiled(pattern); e != api.ErrPattern {
			t.Errorf("%q is a pattern by the tests' own reading", pattern)
		}
	}
}

// What is right ahead of it, and behind it, doesn't mend a pattern.
func TestWrongAmongOthers(t *testing.T) {
	for _, pattern := range wrong() {
		if strings.HasPrefix(pattern, "^") {
			refuses(t, "a"+pattern, api.ErrPattern)
			continue
		}
		for _, ahead := range []string{"[a-c]*", "^[^a].", `\[`, "^", ".*"} {
			// Behind an atom a * is its own.
			if pattern[0] != '*' || ahead == "^" || strings.HasSuffix(ahead, "*") {
				if _, e := compiles(t, ahead+pattern); e != api.OK {
					refuses(t, ahead+pattern, api.ErrPattern)
				}
			}
		}
	}
}

// TestLengths: 64 bytes are taken, 65 and more aren't, whatever they are.
func TestLengths(t *testing.T) {
	for n := range 70 {
		for _, unit := range []string{"a", ".", "-", "\xff", "\x00"} {
			pattern := strings.Repeat(unit, n)
			if n > 64 {
				refuses(t, pattern, api.ErrLong)
				continue
			}
			got, e := needle.Compile(pattern)
			if e != api.OK || len(got.Items) != n {
				t.Fatalf("Compile of %d times %q: %d items, %d", n, unit, len(got.Items), e)
			}
			compiles(t, pattern)
			matches(t, pattern, strings.Repeat(unit, n), true)
		}
	}
	for _, c := range []struct {
		pattern string
		want    api.Errno
	}{
		{"^" + strings.Repeat("a", 62) + "$", api.OK},
		{"^" + strings.Repeat("a", 63) + "$", api.ErrLong},
		{"[" + strings.Repeat("a", 62) + "]", api.OK},
		{"[" + strings.Repeat("a", 63) + "]", api.ErrLong},
		{strings.Repeat(`\a`, 32), api.OK},
		{strings.Repeat(`\a`, 32) + "$", api.ErrLong},
		{strings.Repeat("a*", 32), api.OK},
		{"^" + strings.Repeat("a*", 32), api.ErrLong},
		{strings.Repeat("[a-c]", 12) + "abcd", api.OK},
		{strings.Repeat("é", 32), api.OK},
		{strings.Repeat("é", 33), api.ErrLong},
		// Too long comes first, of whatever is no pattern as well.
		{strings.Repeat("*", 64), api.ErrPattern},
		{strings.Repeat("*", 65), api.ErrLong},
		{strings.Repeat("[", 64), api.ErrPattern},
		{strings.Repeat("[", 65), api.ErrLong},
		{strings.Repeat("a", 63) + `\`, api.ErrPattern},
		{strings.Repeat("a", 64) + `\`, api.ErrLong},
		{"]" + strings.Repeat("a", 63), api.ErrPattern},
		{"]" + strings.Repeat("a", 64), api.ErrLong},
		{strings.Repeat("$", 65), api.ErrLong},
		{strings.Repeat("[b-a]", 13), api.ErrLong},
		{strings.Repeat("a", 65536), api.ErrLong},
		{strings.Repeat("a", 256), api.ErrLong},
		{strings.Repeat("a", 320), api.ErrLong},
	} {
		if _, e := compiles(t, c.pattern); e != c.want {
			t.Fatalf("%s: %d, want %d", brief(c.pattern), e, c.want)
		}
		if c.want != api.OK {
			refuses(t, c.pattern, c.want)
		}
	}
}
