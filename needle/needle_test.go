package needle_test

import (
	"math/rand/v2"
	"strings"
	"testing"

	"isobar/api"
	"isobar/needle"
)

// TestExamples: the chapter's.
func TestExamples(t *testing.T) {
	matches(t, "^a.*b$", "axxb", true)
	matches(t, "^a.*b$", "axxbc", false)
	matches(t, "[a-c]*", "", true)
	refuses(t, "a**", api.ErrPattern)
	refuses(t, "[c-a]", api.ErrPattern)
	n, e := needle.Compile("[-a]")
	if e != api.OK || len(n.Items) != 1 {
		t.Fatalf("Compile([-a]) = %s, %d", brief(n), e)
	}
	for b := range 256 {
		if needle.Fits(n.Items[0], byte(b)) != (b == '-' || b == 'a') {
			t.Errorf("[-a] and the byte %d: %t", b, needle.Fits(n.Items[0], byte(b)))
		}
	}
}

// TestWorkedOut: patterns, texts in which they are found, and texts in which they aren't, told by hand.
func TestWorkedOut(t *testing.T) {
	type list []string
	for _, c := range []struct {
		pattern string
		in, out list
	}{
		{"", list{"", "a", "\x00"}, nil},
		{"a", list{"a", "abb", "bba", "bab"}, list{"", "b", "A", "bbb"}},
		{"ab", list{"ab", "xxabxx", "aab"}, list{"axb", "a", "ba"}},
		{"aab", list{"aaab", "aabaab"}, list{"abab", "aa"}},
		{".", list{"a", "\n", "\x00", "\xc3", "\xff"}, list{""}},
		{"..", list{"ab", "\xff\xfe", "é"}, list{"", "\xff"}},
		{"a.c", list{"abc", "xa\ncx", "a.c"}, list{"ac", "abbc"}},

		{"^", list{"", "a"}, nil},
		{"$", list{"", "a"}, nil},
		{"^$", list{""}, list{"a", "\n", "\x00"}},
		{"^a", list{"a", "ab"}, list{"", "ba", "\na"}},
		{"a$", list{"a", "ba"}, list{"", "ab", "a\n"}},
		{"^a$", list{"a"}, list{"", "aa", "a\n", "ba", "\na"}},
		{"^ab", list{"abab"}, list{"bab"}},
		{"ab$", list{"abab"}, list{"aba"}},

		{"a*", list{"", "a", "b", "aa"}, nil},
		{"^a*$", list{"", "a", "aaaa"}, list{"b", "aab", "baa", "aba"}},
		{"^.*$", list{"", "\x00\n\xff"}, nil},
		{"a*a", list{"a", "aa", "ba"}, list{"", "b"}},
		{"^a*a$", list{"a", "aaaa"}, list{"", "aaab"}},
		{"^a*a*a*a$", list{"a", "aa", "aaaaa"}, list{"", "ab"}},
		{"^a*ab$", list{"ab", "aab"}, list{"aa", "b"}},
		{"^.*b.*$", list{"b", "aba"}, list{"", "aaa"}},
		{"^a*b*c$", list{"c", "abbc", "ac", "bc"}, list{"aba", "bac", "ab"}},
		{"^a*b*c*$", list{"", "ac", "bb"}, list{"ca", "aca"}},
		{"^.*a.*a$", list{"aa", "xaxa"}, list{"a", "aax"}},
		{"a.*b.*c", list{"abc", "xaxbxcx"}, list{"acb", "ab"}},
		{"^a.*b$", list{"ab", "abab"}, list{"xab", "abx", "a", "b"}},
		{"^[ab]*[bc]$", list{"b", "aab", "c"}, list{"aaa", "", "cb"}},
		{"^[ab]*b[ab]*$", list{"b", "aba"}, list{"aaa", ""}},
		{`^\**$`, list{"", "*", "***"}, list{"a", "*a"}},
		{`^\*\*$`, list{"**"}, list{"*", "***"}},
		{"^[*]*$", list{"", "**"}, list{"*a"}},

		{`\^`, list{"a^"}, list{"", "a"}},
		{`\$`, list{"$a"}, list{"", "a"}},
		{`\*`, list{"*"}, list{"", "a", `\`}},
		{`\[`, list{"["}, list{"]", `\`}},
		{`\]`, list{"]"}, list{"[", `\`}},
		{`\\`, list{`\`}, list{"/", ""}},
		{`\.`, list{"a.b"}, list{"ab", ""}},
		{`\a`, list{"a"}, list{"b", `\`}},
		{`\-`, list{"-"}, list{`\`}},
		{`^\^\$$`, list{"^$"}, list{"a^$", "^", "$"}},
		{`\$$`, list{"a$"}, list{"$a"}},
		{`^\\$`, list{`\`}, list{`\$`, `\\`}},

		{"[a]", list{"ba"}, list{"b", "[", "]"}},
		{"[ab]", list{"a", "b"}, list{"c", ""}},
		{"[a-c]", list{"a", "b", "c"}, list{"d", "-", "`"}},
		{"[b-b]", list{"b"}, list{"-", "a", "c"}},
		{"[a-ce-g]", list{"c", "e", "f"}, list{"d", "h", "-"}},
		{"[^a]", list{"ab", "^"}, list{"", "aa"}},
		{"[^a-c]", list{"d", "-", "^"}, list{"abccba"}},
		{"[^^]", list{"a", "["}, list{"^^"}},
		{"[a^]", list{"^", "a"}, list{"b"}},
		{"[ab^]", list{"^"}, list{"-", "c"}},
		{"[^a^]", list{"b"}, list{"^a^"}},
		{"[^^-a]", list{"b", "-"}, list{"^_`a"}},
		{"[a^-c]", list{"_", "b", "c"}, list{"-", "]", "d"}},

		{"[-]", list{"-"}, list{"a", "["}},
		{"[--]", list{"-"}, list{"a", ",", "."}},
		{"[---]", list{"-"}, list{",", "."}},
		{"[a-]", list{"-", "a"}, list{"b", "]"}},
		{"[-a]", list{"-", "a"}, list{"_", "0"}},
		{"[^-]", list{"a", "^"}, list{"--"}},
		{"[^-a]", list{"b", "_", "^"}, list{"-a", ""}},
		{"[^a-]", list{"b"}, list{"-a"}},
		{"[a-c-]", list{"-", "b"}, list{"d"}},
		{"[a-c-e]", list{"-", "e", "b"}, list{"d", "."}},
		{"[--/]", list{"-", ".", "/"}, list{"0", ","}},
		{"[--a]", list{"A", "-", "a"}, list{"b", ","}},
		{"[+--]", list{"+", ",", "-"}, list{".", "*"}},
		{"[^--/]", list{"0"}, list{"-./"}},
		{"[-a-c]", list{"-", "b"}, list{"_"}},

		{`[\]`, list{`\`}, list{"a", "]"}},
		{`[\a]`, list{`\`, "a"}, list{"b"}},
		{`[\-a]`, list{"]", "^", `\`, "a"}, list{"[", "-", "b"}},
		{`[\-]`, list{"-", `\`}, list{"]"}},
		{`[A-\]`, list{"Z", "[", `\`}, list{"a", "]"}},
		{`[^\]`, list{"a", "^"}, list{`\`}},
		{`[\^]`, list{"^", `\`}, list{"a"}},
		{`[\.]`, list{".", `\`}, list{"a"}},

		{"[.]", list{"."}, list{"a"}},
		{"[$]", list{"$"}, list{"a", ""}},
		{"[*]", list{"*"}, list{"a", ""}},
		{"[[]", list{"["}, list{"a", "]"}},
		{"[[a]", list{"[", "a"}, list{"b"}},
		{"[a[]", list{"[", "a"}, list{"b"}},
		{"[Z-[]", list{"[", "Z"}, list{`\`, "-"}},
		{"[.*]", list{"*", "."}, list{"a", ""}},
		{"[^.]", list{"a"}, list{".."}},
		{"[!-.]", list{"$", "!", "."}, list{"/", " "}},
		{"[^[]", list{"]"}, list{"["}},

		{"[\x80-\xff]", list{"a\xe9", "\x80", "\xff"}, list{"a\x7f"}},
		{"\xe9", list{"\xe9"}, list{"\xc3\xa9"}},
		{"é", list{"né"}, list{"n\xe9", "\xc3", "\xa9\xc3"}},
		{"[é]", list{"\xa9", "\xc3"}, list{"e", "\xe9"}},
		{"[\x00-\xff]", list{"\x80", "\x00", "\xff"}, list{""}},
		{"[^\x00-\xff]", nil, list{"", "abc"}},
		{"^[^\x00-\xff]*$", list{""}, list{"a"}},
		{`carbon\.`, list{"carbon.agents"}, list{"carbon", "carbon-agents"}},
	} {
		compiles(t, c.pattern)
		for _, text := range c.in {
			matches(t, c.pattern, text, true)
		}
		for _, text := range c.out {
			matches(t, c.pattern, text, false)
		}
	}
}

// TestSets: what patterns compile to, bit by bit, told by hand.
func TestSets(t *testing.T) {
	all := ^uint64(0)
	a := api.Item{Set: [4]uint64{0, 1 << 33, 0, 0}}
	aStar := api.Item{Set: a.Set, Star: true}
	for _, c := range []struct {
		pattern string
		want    api.Needle
	}{
		{"", api.Needle{}},
		{"^", api.Needle{Start: true}},
		{"$", api.Needle{End: true}},
		{"^$", api.Needle{Start: true, End: true}},
		{"a", api.Needle{Items: []api.Item{a}}},
		{"^a", api.Needle{Start: true, Items: []api.Item{a}}},
		{"a*$", api.Needle{End: true, Items: []api.Item{aStar}}},
		{"^aa*a$", api.Needle{Start: true, End: true, Items: []api.Item{a, aStar, a}}},
		{".", api.Needle{Items: []api.Item{{Set: [4]uint64{all, all, all, all}}}}},
		{".*", api.Needle{Items: []api.Item{{Set: [4]uint64{all, all, all, all}, Star: true}}}},
		{"\x00", api.Needle{Items: []api.Item{{Set: [4]uint64{1, 0, 0, 0}}}}},
		{"?@", api.Needle{Items: []api.Item{{Set: [4]uint64{1 << 63, 0, 0, 0}}, {Set: [4]uint64{0, 1, 0, 0}}}}},
		{"\x7f\x80", api.Needle{Items: []api.Item{{Set: [4]uint64{0, 1 << 63, 0, 0}}, {Set: [4]uint64{0, 0, 1, 0}}}}},
		{"\xbf\xc0\xff", api.Needle{Items: []api.Item{{Set: [4]uint64{0, 0, 1 << 63, 0}}, {Set: [4]uint64{0, 0, 0, 1}}, {Set: [4]uint64{0, 0, 0, 1 << 63}}}}},
		{"[0-9]", api.Needle{Items: []api.Item{{Set: [4]uint64{0x03ff << 48, 0, 0, 0}}}}},
		{"[^a]*", api.Needle{Items: []api.Item{{Set: [4]uint64{all, ^uint64(1 << 33), all, all}, Star: true}}}},
		{"[^0-9a]", api.Needle{Items: []api.Item{{Set: [4]uint64{^uint64(0x03ff << 48), ^uint64(1 << 33), all, all}}}}},
		{"[\x00-\xff]", api.Needle{Items: []api.Item{{Set: [4]uint64{all, all, all, all}}}}},
		{"[^\x00-\xff]", api.Needle{Items: []api.Item{{}}}},
		{"[a-aaa]", api.Needle{Items: []api.Item{a}}},
		{"[>-A]", api.Needle{Items: []api.Item{{Set: [4]uint64{3 << 62, 3, 0, 0}}}}},
		{"[~-\x81]", api.Needle{Items: []api.Item{{Set: [4]uint64{0, 3 << 62, 3, 0}}}}},
		{`\.\*`, api.Needle{Items: []api.Item{{Set: [4]uint64{1 << 46, 0, 0, 0}}, {Set: [4]uint64{1 << 42, 0, 0, 0}}}}},
		{`\**`, api.Needle{Items: []api.Item{{Set: [4]uint64{1 << 42, 0, 0, 0}, Star: true}}}},
		{`\$`, api.Needle{Items: []api.Item{{Set: [4]uint64{1 << 36, 0, 0, 0}}}}},
		{`\$$`, api.Needle{End: true, Items: []api.Item{{Set: [4]uint64{1 << 36, 0, 0, 0}}}}},
		{`^\^`, api.Needle{Start: true, Items: []api.Item{{Set: [4]uint64{0, 1 << 30, 0, 0}}}}},
		{`[\]`, api.Needle{Items: []api.Item{{Set: [4]uint64{0, 1 << 28, 0, 0}}}}},
		{"-", api.Needle{Items: []api.Item{{Set: [4]uint64{1 << 45, 0, 0, 0}}}}},
	} {
		if n, e := needle.Compile(c.pattern); e != api.OK || !same(n, c.want) {
			t.Errorf("Compile(%q) = %v, %d, want %v", c.pattern, n, e, c.want)
		}
		compiles(t, c.pattern)
	}
}

// TestFits: for each byte, of items of each byte alone, of none, of all, of all others, and of any.
func TestFits(t *testing.T) {
	list := []api.Item{{}, {Star: true}, each(false), each(true)}
	for b := range 256 {
		alone := only(string([]byte{byte(b)}), b%2 == 0)
		others := api.Item{}
		for i, w := range alone.Set {
			others.Set[i] = ^w
		}
		list = append(list, alone, others)
		if !needle.Fits(alone, byte(b)) || needle.Fits(others, byte(b)) {
			t.Errorf("the byte %d alone, and all others: %t, %t", b, needle.Fits(alone, byte(b)), needle.Fits(others, byte(b)))
		}
	}
	r := rand.New(rand.NewPCG(91, 92))
	for range 300 {
		list = append(list, someItem(r))
	}
	for _, i := range list {
		for b := range 256 {
			if got, want := needle.Fits(i, byte(b)), has(i, byte(b)); got != want {
				t.Fatalf("Fits(%v, %d) = %t, want %t", i, b, got, want)
			}
		}
	}
}

// TestEachByte: as a pattern of its own, behind \, as a class's member, and as all but that.
func TestEachByte(t *testing.T) {
	for c := range 256 {
		b := string([]byte{byte(c)})
		for _, pattern := range []string{b, `\` + b, "[" + b + "]", "[^" + b + "]", "[a" + b + "]", "[" + b + "a]", "[^" + b + "-" + b + "]", b + "*", `\` + b + "*", "[" + b + "]*", "^" + b + "$", "^" + `\` + b + "$", "[" + b + "-]", "[-" + b + "]", "[]" + b + "]", "a" + b + "a", "[" + b} {
			n, e := compiles(t, pattern)
			for d := range 256 {
				text := string([]byte{byte(d)})
				is, got := needle.Match(pattern, text)
				if got != e || is != (e == api.OK && found(n, text)) {
					t.Fatalf("Match(%q, %q) = %t, %d", pattern, text, is, got)
				}
			}
		}
		matches(t, `\`+b, b, true)
		matches(t, `^\`+b+"$", b+b, false)
		matches(t, `^\`+b+"*$", b+b+b, true)
		matches(t, ".", b, true)
		if !strings.Contains(signs[:6], b) {
			matches(t, b, "x"+b+"y", true)
			matches(t, "["+b+"]", b, true)
			matches(t, "[^"+b+"]", b, false)
		}
	}
}

// TestEachRange: whichever bytes stand at its ends.
func TestEachRange(t *testing.T) {
	for low := range 256 {
		for high := range 256 {
			pattern := "[" + string([]byte{byte(low), '-', byte(high)}) + "]"
			if low == '^' || low == ']' || high == ']' {
				compiles(t, pattern)
				continue
			}
			if high < low {
				refuses(t, pattern, api.ErrPattern)
				continue
			}
			n, e := needle.Compile(pattern)
			if e != api.OK || len(n.Items) != 1 {
				t.Fatalf("Compile(%q) = %v, %d", pattern, n, e)
			}
			for b := range 256 {
				if n.Items[0].Set[b/64]>>(b%64)&1 == 1 != (low <= b && b <= high) {
					t.Fatalf("Compile(%q) = %v", pattern, n)
				}
			}
		}
	}
}

// TestShortPatterns: all of up to five bytes, of letters and of those that mean something, and more classes.
func TestShortPatterns(t *testing.T) {
	for _, pattern := range words("ab"+signs, 5) {
		compiles(t, pattern)
	}
	for _, inside := range words(`a^-]\`, 6) {
		compiles(t, "["+inside+"]")
	}
}

// TestShortTexts: short patterns, and all short texts, by trying all ways to cut them.
func TestShortTexts(t *testing.T) {
	texts := words("ab-", 4)
	for _, pattern := range words("ab^$*.", 5) {
		n, e := compiled(pattern)
		if e != api.OK {
			refuses(t, pattern, e)
			continue
		}
		for _, text := range texts {
			finds(t, n, text, found(n, text))
		}
		matches(t, pattern, "ab", found(n, "ab"))
	}
	for _, pattern := range words("ab-[]^*", 6) {
		if n, e := compiled(pattern); e == api.OK {
			for _, text := range texts[:40] {
				matches(t, pattern, text, found(n, text))
			}
		}
	}
}

// TestStars: items with * that take nothing, some or all, several side by side, and that must leave something to those behind them.
func TestStars(t *testing.T) {
	texts := words("ab", 7)
	for _, items := range words("AaBb.:", 4) {
		pattern := strings.NewReplacer("A", "a*", "B", "b*", ":", ".*").Replace(items)
		for _, p := range []string{pattern, "^" + pattern, pattern + "$", "^" + pattern + "$"} {
			n, e := compiles(t, p)
			if e != api.OK {
				t.Fatalf("%q is no pattern", p)
			}
			for _, text := range texts {
				finds(t, n, text, found(n, text))
			}
		}
	}
}

// TestSome holds patterns by a fixed seed to the chapter's words, and to regular expressions where they are long.
func TestSome(t *testing.T) {
	r := rand.New(rand.NewPCG(93, 94))
	for range 6000 {
		alphabet := []string{"ab", "abc-", bytesOf(256, 0), "\x00\x3f\x40\x7f\x80\xbf\xc0\xff"}[r.IntN(4)]
		pattern := somePattern(r, alphabet, 1+r.IntN(12))
		n, e := compiles(t, pattern)
		if e != api.OK {
			refuses(t, pattern, e)
			continue
		}
		long := expression(n)
		for range 12 {
			text := some(r, alphabet, 1+r.IntN(30))
			matches(t, pattern, text, long.MatchString(toRunes(text)))
		}
		for range 6 {
			text := some(r, alphabet, 6)
			matches(t, pattern, text, found(n, text))
		}
	}
}

// TestSpoilt: any bytes, of any length about what may be, as patterns.
func TestSpoilt(t *testing.T) {
	r := rand.New(rand.NewPCG(95, 96))
	for range 60000 {
		pattern := some(r, []string{"ab" + signs, "abcdefghijk" + signs, bytesOf(256, 0), "a[]-^"}[r.IntN(4)], 1+r.IntN(70))
		if n, e := compiles(t, pattern); e == api.OK {
			text := some(r, "ab-^", 12)
			matches(t, pattern, text, expression(n).MatchString(toRunes(text)))
		}
	}
}

// TestPlaces: a part is found at the beginning, in the middle and at the end, and where ^ and $ let it.
func TestPlaces(t *testing.T) {
	for _, item := range []string{"xyz", "x.z", "xy*z", "[x][y][z]", `\x\y\z`, "xyzz*", "xy*yz", "x[^x]z"} {
		for _, c := range []struct {
			text                   string
			any, start, end, whole bool
		}{
			{"xyz", true, true, true, true},
			{"xyzab", true, true, false, false},
			{"abxyzab", true, false, false, false},
			{"abxyz", true, false, true, false},
			{"xyzabxyz", true, true, true, false},
			{"xyabyz", false, false, false, false},
			{"xyab", false, false, false, false},
			{"", false, false, false, false},
			{"xxyz", true, false, true, false},
			{"ab\nxyz", true, false, true, false},
			{"xyz\nab", true, true, false, false},
		} {
			matches(t, item, c.text, c.any)
			matches(t, "^"+item, c.text, c.start)
			matches(t, item+"$", c.text, c.end)
			matches(t, "^"+item+"$", c.text, c.whole)
		}
	}
}

// TestMade: needles that no pattern makes, and all short texts.
func TestMade(t *testing.T) {
	texts := append(words("ab", 4), "\x00", "\xff", "a\xff", "\x80\x80", "ab\x00ab")
	for _, n := range needles() {
		for _, text := range texts {
			finds(t, n, text, found(n, text))
		}
	}
	for _, text := range texts {
		finds(t, api.Needle{}, text, true)
		finds(t, api.Needle{Start: true}, text, true)
		finds(t, api.Needle{End: true}, text, true)
		finds(t, api.Needle{Start: true, End: true}, text, text == "")
		for _, n := range ends(api.Item{}) {
			finds(t, n, text, false)
		}
		for _, n := range ends(each(true)) {
			finds(t, n, text, true)
		}
		finds(t, api.Needle{Start: true, End: true, Items: []api.Item{{Star: true}}}, text, text == "")
		finds(t, api.Needle{Items: []api.Item{{Star: true}, each(false)}}, text, text != "")
	}
	r := rand.New(rand.NewPCG(97, 98))
	for range 4000 {
		var items []api.Item
		for range r.IntN(9) {
			items = append(items, someItem(r))
		}
		for _, n := range ends(items...) {
			short, long := some(r, "ab\x00\xff", 6), some(r, "ab\x00\xff", 40)
			finds(t, n, short, found(n, short))
			finds(t, n, long, expression(n).MatchString(toRunes(long)))
		}
	}
}
