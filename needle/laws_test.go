package needle_test

import (
	"math/rand/v2"
	"slices"
	"strings"
	"testing"

	"isobar/api"
	"isobar/needle"
)

// plain are the bytes of which a text means itself.
const plain = "abcdefghijklmnopqrstuvwxyzABCDEFGHIJKLMNOPQRSTUVWXYZ0123456789_-"

// literal holds a text of plain bytes, as a pattern, to those texts that have it.
func literal(t *testing.T, pattern, text string) {
	t.Helper()
	matches(t, pattern, text, strings.Contains(text, pattern))
	matches(t, "^"+pattern, text, strings.HasPrefix(text, pattern))
	matches(t, pattern+"$", text, strings.HasSuffix(text, pattern))
	matches(t, "^"+pattern+"$", text, text == pattern)
}

// TestLiteral: a text of letters, digits, _ and - is found in just those texts that have it; with ^ and $ in itself alone.
func TestLiteral(t *testing.T) {
	for _, pattern := range words("a-_", 3) {
		for _, text := range words("a-_", 5) {
			literal(t, pattern, text)
		}
	}
	for i := range len(plain) {
		for j := range len(plain) {
			literal(t, plain[i:i+1], plain[j:j+1])
			literal(t, plain[i:i+1]+plain[j:j+1], plain)
		}
		for b := range 256 {
			literal(t, plain[i:i+1], string([]byte{byte(b)}))
		}
	}
	r := rand.New(rand.NewPCG(101, 102))
	for range 4000 {
		pattern := some(r, plain[:2+r.IntN(len(plain)-1)], 1+r.IntN(61))
		ahead, behind := some(r, bytesOf(256, 0), 20), some(r, plain, 20)
		for _, text := range []string{pattern, ahead + pattern + behind, ahead + pattern, pattern + behind, ahead, behind, pattern + pattern} {
			literal(t, pattern, text)
		}
		if pattern != "" {
			at := r.IntN(len(pattern))
			literal(t, pattern, pattern[:at]+pattern[at+1:])
			literal(t, pattern, pattern[:at]+some(r, plain, 1)+pattern[at:])
			literal(t, pattern, ahead+pattern[:at]+"."+pattern[at+1:]+behind)
		}
	}
	for n := range 63 {
		pattern := (plain)[:n]
		literal(t, pattern, pattern)
		literal(t, pattern, plain+plain)
		literal(t, pattern, pattern+"a")
		literal(t, pattern, "a"+pattern)
	}
}

// lessAtEnd is the pattern's text without its last item, and without $; items are its items' texts.
func lessAtEnd(start string, items []string) string {
	return start + strings.Join(items[:len(items)-1], "")
}

// TestMore: with an item less at its end, and no $, a pattern is found wherever it was; and in a text with more bytes at its end, if it has no $.
func TestMore(t *testing.T) {
	atoms := []string{"a", "b", ".", "a*", "b*", ".*", "[ab]", "[^a]*", `\.`, "[a-]*"}
	r := rand.New(rand.NewPCG(103, 104))
	for range 20000 {
		var items []string
		for range 1 + r.IntN(5) {
			items = append(items, atoms[r.IntN(len(atoms))])
		}
		start, end := []string{"", "^"}[r.IntN(2)], []string{"", "$"}[r.IntN(2)]
		pattern := start + strings.Join(items, "") + end
		text, behind := some(r, "ab.-", 8), some(r, "ab.-\x00\xff", 6)
		is, e := needle.Match(pattern, text)
		if e != api.OK {
			t.Fatalf("Match(%q, %q): %d", pattern, text, e)
		}
		if !is {
			continue
		}
		matches(t, lessAtEnd(start, items), text, true)
		if end == "" {
			matches(t, pattern, text+behind, true)
		}
	}
}

// The same holds of needles that no pattern makes.
func TestMoreOfMade(t *testing.T) {
	texts := words("ab", 3)
	for _, n := range needles() {
		for _, text := range texts {
			if !needle.Found(n, text) {
				continue
			}
			if len(n.Items) > 0 {
				finds(t, api.Needle{Start: n.Start, Items: n.Items[:len(n.Items)-1]}, text, true)
			}
			for _, behind := range texts {
				if !n.End {
					finds(t, n, text+behind, true)
				}
			}
		}
	}
}

// TestLong: patterns of all the bytes that there may be, with as many ways to cut a text as no call could try one by one.
func TestLong(t *testing.T) {
	long := strings.Repeat("a", 100000)
	for _, c := range []struct {
		pattern, text string
		want          bool
	}{
		{strings.Repeat("a*", 31) + "b$", long, false},
		{strings.Repeat("a*", 31) + "b$", long + "b", true},
		{"^" + strings.Repeat("a*", 31) + "$", long, true},
		{"^" + strings.Repeat("a*", 31) + "$", long + "b", false},
		{"^" + strings.Repeat("a*", 31) + "b", long, false},
		{strings.Repeat(".*", 31) + "b", long, false},
		{strings.Repeat(".*", 31) + "b", long + "b", true},
		{strings.Repeat(".*a", 21) + "b", long, false},
		{strings.Repeat("a", 64), long, true},
		{strings.Repeat("a", 63) + "b", long, false},
		{strings.Repeat("a", 63) + "b", long + "b", true},
		{strings.Repeat("a", 63) + "$", long, true},
		{strings.Repeat("a", 64), long[:63], false},
		{strings.Repeat("a", 64), long[:64], true},
		{"^" + strings.Repeat("a", 62) + "$", long[:62], true},
		{"^" + strings.Repeat("a", 62) + "$", long[:63], false},
		{strings.Repeat(`\a`, 32), long[:32], true},
		{strings.Repeat(`\a`, 32), long[:31], false},
		{"", long, true}, {"^", long, true}, {"$", long, true}, {"^$", long, false},
	} {
		matches(t, c.pattern, c.text, c.want)
	}
}

// TestManyItems: as many items as no pattern has.
func TestManyItems(t *testing.T) {
	const many = 3000
	text := strings.Repeat("a", many)
	stars, ones := slices.Repeat([]api.Item{only("a", true)}, many), slices.Repeat([]api.Item{only("a", false)}, many)
	for _, n := range ends(stars...) {
		finds(t, n, text, true)
		finds(t, n, text+"b", !n.Start || !n.End)
		finds(t, n, "", true)
	}
	for _, n := range ends(ones...) {
		finds(t, n, text, true)
		finds(t, n, text[1:], false)
		finds(t, n, text+"a", !n.Start || !n.End)
		finds(t, n, "b"+text, !n.Start)
		finds(t, n, text+"b", !n.End)
	}
	for _, n := range ends(slices.Concat(stars, []api.Item{only("b", false)}, stars)...) {
		finds(t, n, text, false)
		finds(t, n, text+"b"+text, true)
		finds(t, n, text+"bb", !n.Start || !n.End)
	}
}
