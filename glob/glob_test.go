package glob_test

import (
	"math/rand/v2"
	"strings"
	"testing"

	"isobar/api"
	"isobar/glob"
)

// TestExamples: the chapter's.
func TestExamples(t *testing.T) {
	expands(t, "a{b,c{d,e}}f", "abf", "acdf", "acef")
	matches(t, "[a-c]?*", "b1", true)
	matches(t, "[a-c]?*", "b", false)
	refuses(t, "{a,b", api.ErrPattern)
	expands(t, "{}", "")
}

// TestByte: letters, digits and _ - : % # @ + = are name bytes, and no other one of all.
func TestByte(t *testing.T) {
	n := 0
	for c := range 256 {
		want := strings.IndexByte(nameBytes, byte(c)) >= 0
		if want {
			n++
		}
		if glob.Byte(byte(c)) != want {
			t.Errorf("Byte(%d) = %t", c, !want)
		}
		s := string([]byte{byte(c)})
		if glob.Name(s) != want || glob.Plain(s) != want {
			t.Errorf("Name, Plain(%q) = %t, %t", s, glob.Name(s), glob.Plain(s))
		}
	}
	if n != 26+26+10+8 {
		t.Errorf("%d name bytes", n)
	}
}

// TestName: 1 to 32 name bytes are a name; what is plain may be as long as it likes.
func TestName(t *testing.T) {
	long := strings.Repeat(nameBytes, 60)
	for n := range len(long) {
		s := long[n/2 : n/2+n/2]
		if glob.Name(s) != (1 <= len(s) && len(s) <= 32) || glob.Plain(s) != (s != "") {
			t.Fatalf("%d name bytes: Name %t, Plain %t", len(s), glob.Name(s), glob.Plain(s))
		}
	}
	for n := range 34 {
		s := long[:n]
		if glob.Name(s) != (1 <= n && n <= 32) || glob.Plain(s) != (n >= 1) {
			t.Errorf("%d name bytes: Name %t, Plain %t", n, glob.Name(s), glob.Plain(s))
		}
		for _, other := range []string{".", " ", "?", "*", "[", "]", "{", "}", ",", "/", "\x00", "\x7f", "\x80", "\xff", "é", "\n", ";", "$", "&", "!", "~", "^", "`", "\\", "|"} {
			for at := range n + 1 {
				spoilt := s[:at] + other + s[at:]
				if glob.Name(spoilt) || glob.Plain(spoilt) {
					t.Fatalf("%q: Name %t, Plain %t", spoilt, glob.Name(spoilt), glob.Plain(spoilt))
				}
			}
		}
	}
}

// TestExpanded: what patterns expand to, and its order, told by hand.
func TestExpanded(t *testing.T) {
	for _, c := range []struct {
		pattern string
		want    []string
	}{
		{"a", []string{"a"}},
		{"*?[a-c]a", []string{"*?[a-c]a"}},
		{"[-]", []string{"[-]"}},
		{"{a}", []string{"a"}},
		{"{{a}}", []string{"a"}},
		{"{{{{a}}}}", []string{"a"}},
		{"{a,b}", []string{"a", "b"}},
		{"{b,a}", []string{"b", "a"}},
		{"{a,a}", []string{"a", "a"}},
		{"{a,b,a}{c,c}", []string{"ac", "ac", "bc", "bc", "ac", "ac"}},
		{"{}", []string{""}},
		{"{{}}", []string{""}},
		{"{,}", []string{"", ""}},
		{"{,,}", []string{"", "", ""}},
		{"{{},{}}", []string{"", ""}},
		{"{a,}", []string{"a", ""}},
		{"{,a}", []string{"", "a"}},
		{"{,a,}b", []string{"b", "ab", "b"}},
		{"a{}b", []string{"ab"}},
		{"{}{}", []string{""}},
		{"{}{,}", []string{"", ""}},
		{"{a,b}{1,2}", []string{"a1", "a2", "b1", "b2"}},
		{"{a,b}-{1,2}={x,y}", []string{"a-1=x", "a-1=y", "a-2=x", "a-2=y", "b-1=x", "b-1=y", "b-2=x", "b-2=y"}},
		{"{a{1,2},b}{x,y}", []string{"a1x", "a1y", "a2x", "a2y", "bx", "by"}},
		{"{a,b{1,2}}{x,y}", []string{"ax", "ay", "b1x", "b1y", "b2x", "b2y"}},
		{"{a{1,2}b{3,4},c}", []string{"a1b3", "a1b4", "a2b3", "a2b4", "c"}},
		{"{{a,b},{c,d}}", []string{"a", "b", "c", "d"}},
		{"{{a,b}c,d}{e,f}", []string{"ace", "acf", "bce", "bcf", "de", "df"}},
		{"x{a{b{c{d,e},f},g},h}y", []string{"xabcdy", "xabcey", "xabfy", "xagy", "xhy"}},
		{"{*,?}[a-c]{[a],[b-b]}", []string{"*[a-c][a]", "*[a-c][b-b]", "?[a-c][a]", "?[a-c][b-b]"}},
		{"{*,a}*", []string{"**", "a*"}},
		{"{[a,b]}", nil},
	} {
		if c.want == nil {
			refuses(t, c.pattern, api.ErrPattern)
			continue
		}
		expands(t, c.pattern, c.want...)
		reads(t, c.pattern)
	}
}

// TestWorkedOut: patterns, names that they fit, and names that they don't, told by hand.
func TestWorkedOut(t *testing.T) {
	type list []string
	for _, c := range []struct {
		pattern string
		in, out list
	}{
		{"a", list{"a"}, list{"", "b", "A", "aa", "ab", "ba"}},
		{"abc", list{"abc"}, list{"", "ab", "abcd", "xabc", "ABC", "acb"}},
		{"_-:%#@+=", list{"_-:%#@+="}, list{"", "_", "_-:%#@+"}},
		{"?", list{"a", "?", ".", "\x00", "\n", "\xff", " "}, list{"", "ab", "é"}},
		{"??", list{"ab", "é"}, list{"", "a", "abc"}},
		{"a?c", list{"abc", "a.c", "a?c"}, list{"ac", "abbc", "abcd"}},
		{"*", list{"", "a", "a.b", "\x00\n\xff", "é"}, nil},
		{"**", list{"", "a", "ab"}, nil},
		{"***", list{"", "a", "ab"}, nil},
		{"*?", list{"a", "ab"}, list{""}},
		{"?*", list{"a", "ab"}, list{""}},
		{"?*?", list{"ab", "abc"}, list{"", "a"}},
		{"a*", list{"a", "ab", "a*", "a\n"}, list{"", "b", "ba"}},
		{"*a", list{"a", "ba", "aaa"}, list{"", "ab", "aab"}},
		{"*ab", list{"ab", "aab", "abab"}, list{"aba", "b", "ba"}},
		{"a*b", list{"ab", "axb", "abb", "abab"}, list{"a", "b", "aba", "xab"}},
		{"a*b*c", list{"abc", "aXbYbZc", "abcbc"}, list{"aXbYbZ", "acb", "ac"}},
		{"*a*", list{"a", "bab", "ab"}, list{"", "b"}},
		{"*aab*", list{"aaab", "aabaab", "xaabx"}, list{"abab", "aa"}},
		{"a*a", list{"aa", "aba", "aaaa"}, list{"", "a", "ab"}},
		{"*?a", list{"ba", "aa", "cba"}, list{"", "a", "ab"}},
		{"**a**b**", list{"ab", "xaxbx"}, list{"ba", "a"}},

		{"[a]", list{"a"}, list{"", "b", "[", "]", "[a]", "aa"}},
		{"[ab]", list{"a", "b"}, list{"ab", "", "c"}},
		{"[aa]", list{"a"}, list{"b"}},
		{"[a-c]", list{"a", "b", "c"}, list{"d", "-", "`", "", "a-c"}},
		{"[a-a]", list{"a"}, list{"-", "b", "`"}},
		{"[0-9a-f]", list{"0", "9", "a", "f"}, list{"g", "-", "/", ":", "A"}},
		{"[a-cx-z]", list{"b", "y"}, list{"d", "w", "-", "{"}},
		{"[a-cx]", list{"b", "x"}, list{"d", "-"}},
		{"[xa-c]", list{"b", "x"}, list{"d", "-"}},
		{"[-a]", list{"-", "a"}, list{"b", ".", "_"}},
		{"[a-]", list{"-", "a"}, list{"b", "z", "_"}},
		{"[-]", list{"-"}, list{"", "a", ",", "."}},
		{"[--]", list{"-"}, list{"", "a"}},
		{"[---]", list{"-"}, list{"", "a", ","}},
		{"[----]", list{"-"}, list{"", "a"}},
		{"[--a]", list{"-", ".", "/", "0", "A", "_", "a", "[", "]", "^"}, list{"b", ",", ""}},
		{"[+--]", list{"+", ",", "-"}, list{"*", "."}},
		{"[a-c-e]", list{"a", "b", "c", "-", "e"}, list{"d", ".", "f"}},
		{"[a-c-e-g]", list{"a", "b", "c", "-", "e", "f", "g"}, list{"d", "h"}},
		{"[ab-d]", list{"a", "b", "c", "d"}, list{"-", "e"}},
		{"[#-%]", list{"#", "$", "%"}, list{"\"", "&", "-"}},
		{"[#-z]", list{"#", ".", "*", ",", "?", "[", "]", "z", "a", "\\"}, list{"{", "\"", "!", "\x7f", "\xff"}},
		{"[A-z]", list{"A", "Z", "[", "_", "a", "z"}, list{"0", "@", "{"}},
		{"[%]", list{"%"}, list{"#"}},
		{"[_:%#@+=-]", list{"_", ":", "%", "#", "@", "+", "=", "-"}, list{">", "?", ",", "<"}},
		{"[a-c][a-c]", list{"ab", "cc"}, list{"a", "ad", "abc"}},
		{"[a-c]*", list{"a", "cx", "b."}, list{"", "x", "da"}},
		{"*[a-c]", list{"a", "xb", "abc"}, list{"", "ax"}},

		{"{a,b}", list{"a", "b"}, list{"", "ab", ",", "{a,b}", "c"}},
		{"{a,b*}", list{"a", "b", "bcd"}, list{"ab", ""}},
		{"{}", list{""}, list{"a", "{}"}},
		{"{,}", list{""}, list{"a", ","}},
		{"{a,}", list{"", "a"}, list{"aa", "b"}},
		{"x{}y", list{"xy"}, list{"x", "y", "xzy"}},
		{"x{a,}y", list{"xy", "xay"}, list{"xaay", "x", "xa", "ay"}},
		{"{a,b}{c,d}", list{"ac", "ad", "bc", "bd"}, list{"a", "c", "ab", "cd", "acd"}},
		{"{a,ab}{c,bc}", list{"ac", "abc", "abbc"}, list{"ab", "abcc", "abb"}},
		{"{ab,a}{b,}c", list{"abc", "abbc", "ac"}, list{"abbbc", "ab"}},
		{"{*,a}b", list{"b", "ab", "xxb"}, list{"", "a", "ba"}},
		{"{a*,*b}", list{"a", "b", "ax", "xb", "ab"}, list{"", "xa", "bx"}},
		{"{a*,*b}c", list{"ac", "bc", "axc", "abcc"}, list{"", "a", "xac"}},
		{"{[ab],?c}d", list{"ad", "bd", "ccd"}, list{"cd", "d", "abd"}},
		{"a{b,c{d,e}}f", list{"abf", "acdf", "acef"}, list{"acf", "af", "abdf", "adf", "abcdf"}},
		{"{{{{a,b}c,d}e,f}g,h}i", list{"acegi", "bcegi", "degi", "fgi", "hi"}, list{"i", "ai", "aceghi", "cegi"}},
		{"{*{*{*{*a,b},c},d},e}", list{"a", "b", "xxa", "xxb", "xc", "xd", "e"}, list{"", "xe", "ax", "ex"}},
	} {
		for _, name := range c.in {
			matches(t, c.pattern, name, true)
			if !fits(c.pattern, name) || !expression(c.pattern).MatchString(toRunes(name)) {
				t.Errorf("%q fits %q, but not by the tests' own reading", c.pattern, name)
			}
		}
		for _, name := range c.out {
			matches(t, c.pattern, name, false)
			if fits(c.pattern, name) || expression(c.pattern).MatchString(toRunes(name)) {
				t.Errorf("%q fits %q by the tests' own reading", c.pattern, name)
			}
		}
		reads(t, c.pattern)
	}
}

// TestClasses: each range of two name bytes fits all bytes from the one to the other, and no others; one that falls makes no pattern.
func TestClasses(t *testing.T) {
	for i := range len(nameBytes) {
		for j := range len(nameBytes) {
			low, high := nameBytes[i], nameBytes[j]
			pattern := "[" + string(low) + "-" + string(high) + "]"
			if high < low {
				refuses(t, pattern, api.ErrPattern)
				continue
			}
			for b := range 256 {
				matches(t, pattern, string([]byte{byte(b)}), int(low) <= b && b <= int(high))
			}
		}
	}
	for _, inside := range words("ac-.", 5) {
		reads(t, "["+inside+"]")
		for b := range 256 {
			name := string([]byte{byte(b)})
			if checked("["+inside+"]") == api.OK && len(inside) > 3 {
				matches(t, "["+inside+"]", name, fits("["+inside+"]", name))
			}
		}
	}
}

// TestShort holds all short texts, as patterns, to the chapter's words.
func TestShort(t *testing.T) {
	names := append(words("ab-", 3), ".", "a.b", ",", "{}", "\xff", "aaaa", "abab")
	for _, c := range []struct {
		alphabet string
		n        int
	}{{"a" + signs + "b-.", 4}, {"a{,}", 7}, {"b-[]a", 6}, {"a*?b", 5}, {"a{,}*", 6}, {"{}[]", 6}} {
		for _, pattern := range words(c.alphabet, c.n) {
			if !reads(t, pattern) {
				continue
			}
			for _, name := range names {
				matches(t, pattern, name, fits(pattern, name))
			}
		}
	}
}

// TestSome holds patterns by a fixed seed, and what becomes of them when they are spoilt, to the chapter's words.
func TestSome(t *testing.T) {
	r := rand.New(rand.NewPCG(151, 152))
	taken := 0
	for range 12000 {
		alphabet := oneOf(r, "ab", "abc-", nameBytes, "az:-")
		pattern := somePattern(r, alphabet, 1+r.IntN(6), r.IntN(6))
		for range 2 {
			if reads(t, pattern) {
				taken++
				long := expression(pattern)
				for range 6 {
					name := some(r, oneOf(r, alphabet, allBytes()), 1+r.IntN(20))
					matches(t, pattern, name, long.MatchString(toRunes(name)))
				}
			}
			pattern = spoilt(r, pattern)
		}
	}
	if taken < 8000 {
		t.Errorf("only %d of the patterns were some", taken)
	}
}

// TestSpoilt: any bytes, of any length about what may be, as patterns.
func TestSpoilt(t *testing.T) {
	r := rand.New(rand.NewPCG(153, 154))
	for range 40000 {
		pattern := some(r, oneOf(r, "ab"+signs, "a{},", "[]-a", nameBytes+signs, allBytes(), "{{{a,b}}}"), oneOf(r, 3, 8, 20, 140))
		if reads(t, pattern) {
			name := some(r, "ab-", 8)
			matches(t, pattern, name, expression(pattern).MatchString(toRunes(name)))
		}
	}
}

// TestLong: patterns of all the bytes that there may be, and long names, with as many ways to cut these as no call could try one by one.
func TestLong(t *testing.T) {
	long := strings.Repeat("a", 20000)
	for _, c := range []struct {
		pattern, name string
		want          bool
	}{
		{strings.Repeat("*a", 64), long, true},
		{strings.Repeat("*a", 64), long + "b", false},
		{strings.Repeat("*a", 64), long[:64], true},
		{strings.Repeat("*a", 64), long[:63], false},
		{strings.Repeat("a*", 63) + "*b", long, false},
		{strings.Repeat("a*", 63) + "*b", long + "b", true},
		{strings.Repeat("*", 128), long, true},
		{strings.Repeat("*", 127) + "b", long, false},
		{strings.Repeat("?", 128), long[:128], true},
		{strings.Repeat("?", 128), long[:127], false},
		{strings.Repeat("?", 128), long[:129], false},
		{strings.Repeat("a", 128), long[:128], true},
		{strings.Repeat("a", 128), long[:127], false},
		{strings.Repeat("{*a,a*}", 6), long, true},
		{strings.Repeat("{*a,a*}", 6) + "b", long, false},
		{strings.Repeat("{*a,a*}", 6) + strings.Repeat("*a", 42), long + "b", false},
		{"{" + strings.Repeat("*,", 61) + "*}bb", long, false},
		{"{" + strings.Repeat("*,", 61) + "*}bb", long + "bb", true},
		{"[" + strings.Repeat("b", 126) + "]", "b", true},
		{"[" + strings.Repeat("b", 125) + "a]", "a", true},
		{"[" + strings.Repeat("b", 126) + "]", "a", false},
	} {
		if e := checked(c.pattern); e != api.OK {
			t.Fatalf("%s: %d", brief(c.pattern), e)
		}
		matches(t, c.pattern, c.name, c.want)
	}
}
