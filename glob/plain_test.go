package glob_test

import (
	"fmt"
	"iter"
	"regexp"
	"slices"
	"strings"
	"testing"

	"isobar/api"
	"isobar/glob"
)

// nameBytes are the bytes that a name may have, and signs those that mean something else in a pattern.
const (
	nameBytes = "abcdefghijklmnopqrstuvwxyzABCDEFGHIJKLMNOPQRSTUVWXYZ0123456789_-:%#@+="
	signs     = "?*[]{},"
)

// The chapter's words as regular expressions. A ! stands for braces that were read already; no pattern has one.
const (
	byteForm  = `[a-zA-Z0-9_:%#@+=-]`
	classForm = `\[` + byteForm + `+\]`
	pieceForm = `(?:` + byteForm + `|[?*!]|` + classForm + `)`
	waysForm  = `\{` + pieceForm + `*(?:,` + pieceForm + `*)*\}`
)

var (
	wholes  = regexp.MustCompile(`\A` + pieceForm + `+\z`)
	inner   = regexp.MustCompile(waysForm)
	pieces  = regexp.MustCompile(pieceForm)
	classes = regexp.MustCompile(classForm)
	members = regexp.MustCompile(byteForm + `-` + byteForm + `|` + byteForm)
)

// checked is what Check says, as the chapter's words have it: the innermost braces go again and again, till none stand there.
func checked(pattern string) api.Errno {
	if len(pattern) > 128 {
		return api.ErrLong
	}
	for i := range len(pattern) {
		if strings.IndexByte(nameBytes+signs, pattern[i]) < 0 {
			return api.ErrPattern
		}
	}
	rest, deep := pattern, 0
	for inner.MatchString(rest) {
		rest, deep = inner.ReplaceAllString(rest, "!"), deep+1
	}
	switch {
	case !wholes.MatchString(rest) || slices.ContainsFunc(classes.FindAllString(pattern, -1), falls):
		return api.ErrPattern
	case deep > 4:
		return api.ErrDeep
	}
	n := 0
	for range expansions(pattern) {
		if n++; n > 64 {
			return api.ErrMany
		}
	}
	return api.OK
}

// falls is whether a range of a class falls.
func falls(class string) bool {
	return slices.ContainsFunc(members.FindAllString(class, -1), func(m string) bool { return m[len(m)-1] < m[0] })
}

// expansions are what a pattern expands to, one by one: each alternative of the first braces is put where they stand.
func expansions(pattern string) iter.Seq[string] {
	return func(yield func(string) bool) {
		ahead, rest, ok := strings.Cut(pattern, "{")
		if !ok {
			yield(pattern)
			return
		}
		ways, behind := alternatives(rest)
		for _, way := range ways {
			for p := range expansions(ahead + way + behind) {
				if !yield(p) {
					return
				}
			}
		}
	}
}

// alternatives are those of braces, from behind their { on, and what stands behind their }.
func alternatives(s string) (ways []string, behind string) {
	deep, from := 1, 0
	for i, c := range s {
		switch {
		case c == '{':
			deep++
		case c == '}':
			deep--
		}
		if c == ',' && deep == 1 || deep == 0 {
			ways, from = append(ways, s[from:i]), i+1
		}
		if deep == 0 {
			return ways, s[i+1:]
		}
	}
	panic("braces that aren't closed: " + s)
}

// one is whether a piece, which is no *, fits a byte.
func one(piece string, b byte) bool {
	if piece[0] != '[' {
		return piece == "?" || piece[0] == b
	}
	return slices.ContainsFunc(members.FindAllString(piece, -1), func(m string) bool { return m[0] <= b && b <= m[len(m)-1] })
}

// cut is whether all of a name can be cut into what pieces fit, one for each in order. It tries all ways, so it is for what is short.
func cut(pieces []string, name string) bool {
	if len(pieces) == 0 {
		return name == ""
	}
	if pieces[0] != "*" {
		return name != "" && one(pieces[0], name[0]) && cut(pieces[1:], name[1:])
	}
	for n := range len(name) + 1 {
		if cut(pieces[1:], name[n:]) {
			return true
		}
	}
	return false
}

// fits is whether a pattern, of which it is known that it is one, fits a name.
func fits(pattern, name string) bool {
	for p := range expansions(pattern) {
		if cut(pieces.FindAllString(p, -1), name) {
			return true
		}
	}
	return false
}

// toRunes is a text of as many runes as another one has bytes.
func toRunes(s string) string {
	var b strings.Builder
	for _, c := range []byte(s) {
		b.WriteRune(rune(c))
	}
	return b.String()
}

// expression is a pattern as a regular expression of runes that stand for bytes, for what is long.
func expression(pattern string) *regexp.Regexp {
	var ways []string
	for p := range expansions(pattern) {
		var b strings.Builder
		for _, piece := range pieces.FindAllString(p, -1) {
			if piece == "*" {
				b.WriteString(".*")
				continue
			}
			b.WriteString("[")
			for c := range 256 {
				if one(piece, byte(c)) {
					fmt.Fprintf(&b, `\x{%x}`, c)
				}
			}
			b.WriteString("]")
		}
		ways = append(ways, b.String())
	}
	return regexp.MustCompile(`(?s)\A(?:` + strings.Join(ways, "|") + `)\z`)
}

// brief is what a test tells of something: what is long would bury the rest.
func brief(x any) string {
	s := fmt.Sprintf("%q", x)
	if len(s) > 300 {
		return s[:300] + "..."
	}
	return s
}

// reads holds Check, Expand and Plain of a pattern to the chapter's words, and what comes beside an error; it answers whether it may be.
func reads(t *testing.T, pattern string) bool {
	t.Helper()
	want := checked(pattern)
	plain := pattern != "" && strings.Trim(pattern, nameBytes) == ""
	if is := glob.Plain(pattern); is != plain {
		t.Fatalf("Plain(%s) = %t", brief(pattern), is)
	}
	if want != api.OK {
		refuses(t, pattern, want)
		return false
	}
	expands(t, pattern, slices.Collect(expansions(pattern))...)
	return true
}

// expands holds Check and Expand of a pattern to an answer.
func expands(t *testing.T, pattern string, want ...string) {
	t.Helper()
	if e := glob.Check(pattern); e != api.OK {
		t.Fatalf("Check(%s) = %d, want 0", brief(pattern), e)
	}
	if l, e := glob.Expand(pattern); e != api.OK || !slices.Equal(l, want) {
		t.Fatalf("Expand(%s) = %s, %d, want %s", brief(pattern), brief(l), e, brief(want))
	}
}

// refuses holds Check, Expand and Match of a pattern to an error, and to nothing beside it.
func refuses(t *testing.T, pattern string, want api.Errno) {
	t.Helper()
	if e := glob.Check(pattern); e != want {
		t.Fatalf("Check(%s) = %d, want %d", brief(pattern), e, want)
	}
	if l, e := glob.Expand(pattern); e != want || len(l) != 0 {
		t.Fatalf("Expand(%s) = %s, %d, want %d", brief(pattern), brief(l), e, want)
	}
	for _, name := range []string{"", "a", pattern, "{", "ab"} {
		if is, e := glob.Match(pattern, name); e != want || is {
			t.Fatalf("Match(%s, %s) = %t, %d, want false, %d", brief(pattern), brief(name), is, e, want)
		}
	}
}

// matches holds Match of a pattern and a name to an answer.
func matches(t *testing.T, pattern, name string, want bool) {
	t.Helper()
	if is, e := glob.Match(pattern, name); e != api.OK || is != want {
		t.Fatalf("Match(%s, %s) = %t, %d, want %t", brief(pattern), brief(name), is, e, want)
	}
}
