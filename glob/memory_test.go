package glob_test

import (
	"math/rand/v2"
	"slices"
	"testing"

	"isobar/api"
	"isobar/glob"
)

// TestNewMemory: what is expanded, its spare room too, shares nothing with what was expanded ahead, or is later.
func TestNewMemory(t *testing.T) {
	r := rand.New(rand.NewPCG(171, 172))
	list := []string{"a", "{}", "{a,b}", "a{b,c{d,e}}f", "{a,b}{1,2}", "{{a}}", "[a-c]?*", "{,,,}"}
	for range 300 {
		list = append(list, somePattern(r, "abc", 5, 3))
	}
	for _, pattern := range list {
		if checked(pattern) != api.OK {
			continue
		}
		want := slices.Collect(expansions(pattern))
		first, _ := glob.Expand(pattern)
		second, _ := glob.Expand(pattern)
		for i := range first[:cap(first)] {
			first[:cap(first)][i] = "spoilt"
		}
		third, e := glob.Expand(pattern)
		if e != api.OK || !slices.Equal(second, want) || !slices.Equal(third, want) {
			t.Errorf("%q: a change of one answer changes another: %q, %q, want %q", pattern, second, third, want)
		}
	}
}

// Nothing is kept from call to call: asked once more, in another order, and behind errors, all answer as before.
func TestAnswersHangOnArgumentsAlone(t *testing.T) {
	list := append(wrong(), "a", "*", "?", "[a-c]", "{a,b}", "a{b,c{d,e}}f", "{{{{a}}}}", "{{{{{a}}}}}", "{}", "{{{{a}", "{,,,,,,,}{,,,,,,,,}")
	some := []string{"", "a", "b", "abf", "acdf", "-", ".", "{}"}
	for range 3 {
		slices.Reverse(list)
		slices.Reverse(some)
		for _, pattern := range list {
			may := reads(t, pattern)
			for _, name := range some {
				if may {
					matches(t, pattern, name, fits(pattern, name))
				}
			}
		}
	}
}
