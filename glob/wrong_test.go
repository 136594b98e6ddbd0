package glob_test

import (
	"strings"
	"testing"

	"isobar/api"
	"isobar/glob"
)

// wrong are texts of at most 128 bytes that are no patterns, told by hand.
func wrong() []string {
	return []string{
		"",
		// braces that aren't closed, or not opened
		"{", "}", "{{", "}}", "}{", "{a", "a}", "{a,b", "a,b}", "{a{b}", "{a}b}", "{{a}", "{a}}", "a{", "}a", "{}}", "{{}", "{,", "{a,", ",}", "{a}{", "{a}{b", "{a},{b}", "{a,b}}", "{{a,b}", "{{{{{a}}}}", "{{{{{a}}}}}}", "{{{{{{", "}}}}}}",
		// a comma that stands in no braces
		",", "a,", ",a", "a,b", ",,", "{a},b", "a,{b}", "[a],[b]", "*,?",
		// a class that isn't closed, or not opened
		"[", "[a", "[a-", "[a-c", "a[", "[a][", "[a][b", "]", "a]", "]a", "[a]]", "[[a]", "[[a]]", "[a[b]]", "{[a}", "{[a}]", "{[}", "{]}", "{[a,b]}", "{[a,b}", "[{a]", "[{a}]", "[{a,b}]", "[a}", "{a]", "[a,b]", "[,]",
		// a class of no member
		"[]", "[]a", "a[]", "[]]", "[][a]", "[a][]", "{[]}", "[]a]", "[]-a]",
		// a member that is none
		"[*]", "[?]", "[a*]", "[a?]", "[.]", "[a.]", "[a-.]", "[.-a]", "[ ]", "[^a]", "[!a]", "[a-?]", "[?-a]", "[\\]]", "[a-{]", "[\x00]", "[\xff]", "[é]", "[a-\xff]", "[\x00-a]", "[/]", "[a-[]",
		// a range that falls
		"[b-a]", "[z-a]", "[a-A]", "[a-Z]", "[a-0]", "[9-0]", "[0-9b-a]", "[b-a0-9]", "[xb-a]", "[a-bc-b]", "[a--]", "[a--b]", "[_-a_-_=-+]", "[--+]", "[-b-a]", "x[b-a]y", "{[b-a],c}", "[a-c-b-a]", "[---+-#]", "[b-ab-a]", "[z-y]",
		// a byte that is no piece
		".", "a.b", ".a", "a.", "*.*", " ", "a b", "a ", "\t", "\n", "a\n", "/", "\\", "\\*", "\\{", "!", "$", "&", "'", "\"", "(", ")", ";", "<", ">", "^", "`", "|", "~", "\x00", "a\x00", "\x7f", "\x80", "\xff", "é", "a\xc3", "{a.b}", "{.}", "{ }", "{a,b }", "{a, b}", "?.", "[a].",
	}
}

func TestWrong(t *testing.T) {
	for _, pattern := range wrong() {
		refuses(t, pattern, api.ErrPattern)
		if e := checked(pattern); e != api.ErrPattern {
			t.Errorf("%q: %d by the tests' own reading", pattern, e)
		}
	}
}

// What is right ahead of it, behind it, or beside it in braces doesn't mend what is wrong.
func TestWrongAmongOthers(t *testing.T) {
	for _, pattern := range wrong() {
		for _, c := range [][2]string{{"a", ""}, {"", "a"}, {"*", "[a-c]"}, {"[a]", "?"}, {"{a,b}", "{}"}, {"{", "}"}, {"{a,", "}"}, {"{", ",a}"}, {"{{a,", "},b}"}} {
			reads(t, c[0]+pattern+c[1])
			if len(pattern) == 1 && !strings.Contains(signs, pattern) {
				refuses(t, c[0]+pattern+c[1], api.ErrPattern)
			}
		}
	}
}

// TestOtherBytes: a byte that is no name byte and means nothing in a pattern makes it none, wherever it stands.
func TestOtherBytes(t *testing.T) {
	for c := range 256 {
		b := string([]byte{byte(c)})
		if strings.Contains(signs, b) {
			continue
		}
		taken := strings.Contains(nameBytes, b)
		for _, pattern := range []string{b, "a" + b, b + "a", "{" + b + "}", "{a," + b + "}", "*" + b + "*", "[" + b + "]", "[a" + b + "]", "[a-c]" + b} {
			if !taken {
				refuses(t, pattern, api.ErrPattern)
				continue
			}
			if e := glob.Check(pattern); e != api.OK {
				t.Fatalf("Check(%q) = %d", pattern, e)
			}
		}
	}
}

// TestLengths: 128 bytes are taken, 129 and more aren't, whatever they are.
func TestLengths(t *testing.T) {
	for n := range 140 {
		for _, unit := range []string{"a", "*", "?", "-", "=", ".", "{", "[", ",", "\xff"} {
			reads(t, strings.Repeat(unit, n))
		}
	}
	for _, c := range []struct {
		pattern string
		want    api.Errno
	}{
		{strings.Repeat("a", 128), api.OK},
		{strings.Repeat("a", 129), api.ErrLong},
		{strings.Repeat("a", 256), api.ErrLong},
		{strings.Repeat("a", 65536), api.ErrLong},
		{"[" + strings.Repeat("a", 126) + "]", api.OK},
		{"[" + strings.Repeat("a", 127) + "]", api.ErrLong},
		{"{" + strings.Repeat("a", 126) + "}", api.OK},
		{"{" + strings.Repeat("a", 127) + "}", api.ErrLong},
		{strings.Repeat("{}", 64), api.OK},
		{strings.Repeat("{}", 64) + "a", api.ErrLong},
		// Too long comes first, of whatever is wrong as well.
		{strings.Repeat(".", 128), api.ErrPattern},
		{strings.Repeat(".", 129), api.ErrLong},
		{strings.Repeat("a", 127) + "{", api.ErrPattern},
		{strings.Repeat("a", 128) + "{", api.ErrLong},
		{strings.Repeat("a", 124) + "[b-a", api.ErrPattern},
		{strings.Repeat("a", 124) + "[b-a]", api.ErrLong},
		{nested(5, strings.Repeat("a", 118)), api.ErrDeep},
		{nested(5, strings.Repeat("a", 119)), api.ErrLong},
		{nested(64, ""), api.ErrDeep},
		{nested(65, ""), api.ErrLong},
		{"{" + strings.Repeat(",", 126) + "}", api.ErrMany},
		{"{" + strings.Repeat(",", 127) + "}", api.ErrLong},
	} {
		if c.want == api.OK {
			reads(t, c.pattern)
			matches(t, c.pattern, "b", fits(c.pattern, "b"))
			continue
		}
		refuses(t, c.pattern, c.want)
	}
}

// TestDeep: braces stand within up to four in all, themselves counted.
func TestDeep(t *testing.T) {
	for _, text := range []string{"", "a", "a,b", "[a-c]", "*", "a{b}c", "{a},{b}"} {
		for n := range 63 {
			pattern := nested(n, text)
			if n == 0 && (text == "" || strings.Contains(text, ",")) || len(pattern) > 128 {
				continue
			}
			deep := n
			if strings.Contains(text, "{") {
				deep++
			}
			want := api.OK
			if deep > 4 {
				want = api.ErrDeep
			}
			if e := glob.Check(pattern); e != want || e != checked(pattern) {
				t.Fatalf("Check(%q) = %d, want %d", pattern, e, want)
			}
		}
	}
	for pattern, want := range map[string]api.Errno{
		// Braces side by side aren't within one another, however many.
		strings.Repeat("{a}", 42):                    api.OK,
		strings.Repeat("{{{{a}}}}", 14):              api.OK,
		"{{{{a}}}}{{{{{a}}}}}":                       api.ErrDeep,
		"{{{{{a}}}}}{{{{a}}}}":                       api.ErrDeep,
		"{a,{b,{c,{d}}}}":                            api.OK,
		"{a,{b,{c,{d,{e}}}}}":                        api.ErrDeep,
		"{{a},{{b},{{c},{d}}}}":                      api.OK,
		"{{a},{{b},{{c},{{d}}}}}":                    api.ErrDeep,
		"{{{{a},{b}},{{c},{d}}},{{{e},{f}}}}":        api.OK,
		"{{{{a},{b}},{{c},{d}}},{{{e},{f,{}}}}}":     api.ErrDeep,
		"{{{{}}}}{{{{}}}}{{{{}}}}":                   api.OK,
		"{{{{}}}{{{}}}{{{}}}}":                       api.OK,
		"{{{{}}}{{{{}}}}{{{}}}}":                     api.ErrDeep,
		"{}{{}}{{{}}}{{{{}}}}{{{}}}{{}}{}":           api.OK,
		"{{{{{" + strings.Repeat(",", 100) + "}}}}}": api.ErrDeep,
		// What is no pattern comes ahead of what is too deep, wherever it stands.
		"{{{{{a}}}}":      api.ErrPattern,
		"{{{{{a}}}}}}":    api.ErrPattern,
		"{{{{{.}}}}}":     api.ErrPattern,
		"{{{{{a}}}}}.":    api.ErrPattern,
		".{{{{{a}}}}}":    api.ErrPattern,
		"{{{{{a}}}}},":    api.ErrPattern,
		"{{{{{a}}}}}[b-a": api.ErrPattern,
		"{{{{{[b-a]}}}}}": api.ErrPattern,
	} {
		if e := glob.Check(pattern); e != want || e != checked(pattern) {
			t.Errorf("Check(%q) = %d, want %d", pattern, e, want)
		}
		if want != api.OK {
			refuses(t, pattern, want)
		}
	}
}

// TestMany: a pattern expands to up to 64, the same one twice counted twice.
func TestMany(t *testing.T) {
	two, eight := "{a,b}", "{a,b,c,d,e,f,g,h}"
	for _, c := range []struct {
		pattern string
		want    int
	}{
		{strings.Repeat(two, 6), 64},
		{strings.Repeat(two, 6) + "{c}{}", 64},
		{strings.Repeat(two, 7), 128},
		{strings.Repeat(two, 6) + "{a,a}", 128},
		{strings.Repeat("{,}", 6), 64},
		{strings.Repeat("{,}", 7), 128},
		{strings.Repeat("{,}", 42), 65},
		{strings.Repeat("{,,}", 32), 65},
		{strings.Repeat("{,,,}", 25), 65},
		{strings.Repeat("{"+strings.Repeat(",", 29)+"}", 4), 65},
		{strings.Repeat("{"+strings.Repeat(",", 61)+"}", 2), 65},
		{eight + eight, 64},
		{eight + eight + "{a,b}", 128},
		{eight + "{a,b,c,d,e,f,g,h,i}", 72},
		{"{" + strings.Repeat(",", 62) + "}", 63},
		{"{" + strings.Repeat(",", 63) + "}", 64},
		{"{" + strings.Repeat(",", 64) + "}", 65},
		{"{" + strings.Repeat("a,", 62) + "a}", 63},
		{"{" + strings.Repeat(",", 126) + "}", 127},
		{"{{,,,,,,,},{,,,,,,,}}{,,,}", 64},
		{"{{,,,,,,,},{,,,,,,,},}{,,,}", 68},
		{"{{,,,}{,,,}{,},{,,,}{,,,}{,}}", 64},
		{"{{,,,}{,,,}{,},{,,,}{,,,}{,},}", 65},
		{"{{,,,}{,,,}{,,,}}", 64},
		{"{a{,,,}{,,,}{,,,},b}", 65},
		{"{{{{,}{,}}{,}}{,}}{,}{,}", 64},
		{"{{{{,}{,}}{,}}{,}}{,}{,}{,}", 128},
		{"{,{,{,{,}}}}{,{,{,{,}}}}", 25},
		{"{,{,{,{,}}}}{,{,{,{,}}}}{,,}", 75},
		{"{,,,,,,}{,,,,,,,,}", 63},
		{"{,,,,}{,,,,,,,,,,,,}", 65},
	} {
		want := api.OK
		if c.want > 64 {
			want = api.ErrMany
		}
		l, e := glob.Expand(c.pattern)
		if e != want || e != checked(c.pattern) || e == api.OK && len(l) != c.want {
			t.Errorf("Expand(%q): %d, %d, want %d, %d", c.pattern, len(l), e, c.want, want)
		}
		reads(t, c.pattern)
		// Too deep, and no pattern at all, come ahead of too many.
		if c.want > 64 && len(c.pattern) < 117 {
			refuses(t, c.pattern+"{{{{{}}}}}", api.ErrDeep)
			refuses(t, "{{{{{}}}}}"+c.pattern, api.ErrDeep)
			refuses(t, c.pattern+"{", api.ErrPattern)
			refuses(t, c.pattern+".", api.ErrPattern)
			refuses(t, "[b-a]"+c.pattern, api.ErrPattern)
		}
	}
}
