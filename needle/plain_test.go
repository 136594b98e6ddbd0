package needle_test

import (
	"fmt"
	"regexp"
	"strings"
	"testing"

	"isobar/api"
	"isobar/needle"
)

// The chapter's words as regular expressions, of runes that stand for bytes. A first member doesn't begin with ^: what stands there says which bytes are meant, and is no member.
const (
	memberForm = `(?:[^\]]-[^\]]|[^\]])`
	firstForm  = `(?:[^\]^]-[^\]]|[^\]^])`
	classForm  = `(?:\[(?:\^` + memberForm + `|` + firstForm + `)` + memberForm + `*\])`
	atomForm   = `(?:\\.|` + classForm + `|[^\^$*\[\]\\])`
	itemForm   = `(?:` + atomForm + `\*?)`
)

var (
	wholeForm   = regexp.MustCompile(`(?s)\A(\^?)(` + itemForm + `*)(\$?)\z`)
	itemsForm   = regexp.MustCompile(`(?s)` + itemForm)
	membersForm = regexp.MustCompile(`(?s)` + memberForm)
)

// toRunes is a text of as many runes as another one has bytes.
func toRunes(s string) string {
	var b strings.Builder
	for _, c := range []byte(s) {
		b.WriteRune(rune(c))
	}
	return b.String()
}

// toBytes is the text of bytes for which runes stand.
func toBytes(s string) string {
	var b []byte
	for _, r := range s {
		b = append(b, byte(r))
	}
	return string(b)
}

// atomFits is whether an atom, of which it is known that it is one, fits a byte; false beside falls, if a range of it does.
func atomFits(atom string, b byte) (fits, falls bool) {
	switch {
	case atom == ".":
		return true, false
	case atom[0] == '\\':
		return atom[1] == b, false
	case atom[0] != '[':
		return atom[0] == b, false
	}
	inside := atom[1 : len(atom)-1]
	others := inside[0] == '^'
	if others {
		inside = inside[1:]
	}
	for _, m := range membersForm.FindAllString(toRunes(inside), -1) {
		m = toBytes(m)
		first, last := m[0], m[len(m)-1]
		falls = falls || last < first
		fits = fits || first <= b && b <= last
	}
	return fits != others && !falls, falls
}

// compiled is what a pattern compiles to, as the chapter's words say it.
func compiled(pattern string) (api.Needle, api.Errno) {
	if len(pattern) > 64 {
		return api.Needle{}, api.ErrLong
	}
	parts := wholeForm.FindStringSubmatch(toRunes(pattern))
	if parts == nil {
		return api.Needle{}, api.ErrPattern
	}
	n := api.Needle{Start: parts[1] != "", End: parts[3] != ""}
	for _, item := range itemsForm.FindAllString(parts[2], -1) {
		item = toBytes(item)
		// A * is the atom's own where it is escaped; a class ends by ].
		i := api.Item{Star: len(item) > 1 && item[len(item)-1] == '*' && item != `\*`}
		if i.Star {
			item = item[:len(item)-1]
		}
		for b := range 256 {
			fits, falls := atomFits(item, byte(b))
			if falls {
				return api.Needle{}, api.ErrPattern
			}
			if fits {
				i.Set[b/64] |= 1 << (b % 64)
			}
		}
		n.Items = append(n.Items, i)
	}
	return n, api.OK
}

// has is whether an item's atom fits a byte: bit b mod 64 of number b / 64.
func has(i api.Item, b byte) bool { return i.Set[int(b)/64]&(1<<(int(b)%64)) != 0 }

// found is whether some part of a text can be cut as the chapter says. It tries all ways, so it is for what is short.
func found(n api.Needle, text string) bool {
	for from := range len(text) + 1 {
		for to := from; to <= len(text); to++ {
			bound := (!n.Start || from == 0) && (!n.End || to == len(text))
			if bound && cut(n.Items, text[from:to]) {
				return true
			}
		}
	}
	return false
}

// cut is whether all of a part can be cut into pieces, one for each item in order.
func cut(items []api.Item, part string) bool {
	if len(items) == 0 {
		return part == ""
	}
	if !items[0].Star {
		return part != "" && has(items[0], part[0]) && cut(items[1:], part[1:])
	}
	for n := 0; ; n++ {
		if cut(items[1:], part[n:]) {
			return true
		}
		if n == len(part) || !has(items[0], part[n]) {
			return false
		}
	}
}

// expression is a needle as a regular expression of runes that stand for bytes, for what is long.
func expression(n api.Needle) *regexp.Regexp {
	var b strings.Builder
	b.WriteString("(?s)")
	if n.Start {
		b.WriteString(`\A`)
	}
	for _, i := range n.Items {
		// The rune 256 stands for no byte: so no class is empty.
		b.WriteString(`[\x{100}`)
		for c := range 256 {
			if has(i, byte(c)) {
				fmt.Fprintf(&b, `\x{%x}`, c)
			}
		}
		b.WriteString("]")
		if i.Star {
			b.WriteString("*")
		}
	}
	if n.End {
		b.WriteString(`\z`)
	}
	return regexp.MustCompile(b.String())
}

// same: are two needles the same? Items that hold nothing are nil or empty.
func same(a, b api.Needle) bool {
	if a.Start != b.Start || a.End != b.End || len(a.Items) != len(b.Items) {
		return false
	}
	for i := range a.Items {
		if a.Items[i] != b.Items[i] {
			return false
		}
	}
	return true
}

// brief is what a test tells of something: what is long would bury the rest.
func brief(x any) string {
	s := fmt.Sprintf("%v", x)
	if text, ok := x.(string); ok {
		s = fmt.Sprintf("%q", text)
	}
	if len(s) > 300 {
		return s[:300] + "..."
	}
	return s
}

// compiles holds Compile of a pattern, and Fits of its items, to the chapter's words, and answers what it is.
func compiles(t *testing.T, pattern string) (api.Needle, api.Errno) {
	t.Helper()
	want, wanted := compiled(pattern)
	got, e := needle.Compile(pattern)
	if e != wanted || !same(got, want) || e != api.OK && len(got.Items) != 0 {
		t.Fatalf("Compile(%s) = %s, %d, want %s, %d", brief(pattern), brief(got), e, brief(want), wanted)
	}
	return want, wanted
}

// refuses holds Compile and Match of a pattern to an error, and to nothing beside it.
func refuses(t *testing.T, pattern string, want api.Errno) {
	t.Helper()
	if n, e := needle.Compile(pattern); e != want || n.Start || n.End || len(n.Items) != 0 {
		t.Fatalf("Compile(%s) = %s, %d, want %d", brief(pattern), brief(n), e, want)
	}
	for _, text := range []string{"", "a", pattern, "^", "*", "a" + pattern + "a", "zzz"} {
		if is, e := needle.Match(pattern, text); e != want || is {
			t.Fatalf("Match(%s, %s) = %t, %d, want false, %d", brief(pattern), brief(text), is, e, want)
		}
	}
}

// matches holds Match of a pattern in a text, and Found of what it compiles to, to an answer.
func matches(t *testing.T, pattern, text string, want bool) {
	t.Helper()
	if is, e := needle.Match(pattern, text); e != api.OK || is != want {
		t.Fatalf("Match(%s, %s) = %t, %d, want %t", brief(pattern), brief(text), is, e, want)
	}
	n, e := needle.Compile(pattern)
	if is := needle.Found(n, text); e != api.OK || is != want {
		t.Fatalf("Found of %s, compiled, in %s = %t, %d, want %t", brief(pattern), brief(text), is, e, want)
	}
}

// finds holds Found of a needle in a text to an answer.
func finds(t *testing.T, n api.Needle, text string, want bool) {
	t.Helper()
	if is := needle.Found(n, text); is != want {
		t.Fatalf("Found(%s, %s) = %t, want %t", brief(n), brief(text), is, want)
	}
}
