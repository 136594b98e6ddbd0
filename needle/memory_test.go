package needle_test

import (
	"math/rand/v2"
	"slices"
	"testing"

	"isobar/api"
	"isobar/needle"
)

// roomy is a needle whose items have spare room behind them.
func roomy(n api.Needle) api.Needle {
	n.Items = slices.Concat(n.Items, []api.Item{only("a", true), each(true), {}})[:len(n.Items)]
	return n
}

// full are all of a needle's items, and what stands in the spare room behind them.
func full(n api.Needle) []api.Item { return n.Items[:cap(n.Items)] }

// TestHandedIn: no call changes items, nor their spare room.
func TestHandedIn(t *testing.T) {
	for _, n := range needles() {
		n = roomy(n)
		before := slices.Clone(full(n))
		for _, text := range []string{"", "a", "b", "ab", "abba", "\x00\xff", "aaaaaaaaaaaaaaab"} {
			needle.Found(n, text)
			finds(t, api.Needle{Start: n.Start, End: n.End, Items: slices.Clone(n.Items)}, text, needle.Found(n, text))
		}
		for _, i := range full(n) {
			needle.Fits(i, 'a')
		}
		if !slices.Equal(full(n), before) {
			t.Fatalf("%v became %v", before, full(n))
		}
	}
}

// TestNewMemory: what is compiled, its spare room too, shares nothing with what was compiled ahead, or is later.
func TestNewMemory(t *testing.T) {
	r := rand.New(rand.NewPCG(105, 106))
	list := []string{"", "a", "^a.*b$", "[a-c]*", ".", ".*", "[^a]", `\.`, "carbon\\."}
	for range 200 {
		list = append(list, somePattern(r, "abc", 6))
	}
	for _, pattern := range list {
		want, wanted := compiled(pattern)
		first, _ := needle.Compile(pattern)
		second, _ := needle.Compile(pattern)
		for i := range full(first) {
			full(first)[i] = api.Item{Set: [4]uint64{7, 7, 7, 7}, Star: true}
		}
		third, e := needle.Compile(pattern)
		if e != wanted || !same(second, want) || !same(third, want) {
			t.Errorf("%q: a change of one answer changes another: %v, %v, want %v", pattern, second, third, want)
		}
		if wanted == api.OK {
			matches(t, pattern, "abc", found(want, "abc"))
		}
	}
}

// Nothing is kept from call to call: asked once more, in another order, and behind errors, all answer as before.
func TestAnswersHangOnArgumentsAlone(t *testing.T) {
	list := append(wrong(), "", "a", "^a.*b$", "[a-c]*", "[^-]", "a*b*$", ".", "^$", "$", "^")
	texts := []string{"", "a", "axxb", "axxbc", "-", "bbb"}
	for range 3 {
		slices.Reverse(list)
		slices.Reverse(texts)
		for _, pattern := range list {
			n, e := compiles(t, pattern)
			for _, text := range texts {
				if is, got := needle.Match(pattern, text); got != e || is != (e == api.OK && found(n, text)) {
					t.Fatalf("Match(%q, %q) = %t, %d", pattern, text, is, got)
				}
			}
		}
	}
}
