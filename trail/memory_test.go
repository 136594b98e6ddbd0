package trail_test

import (
	"math/rand/v2"
	"slices"
	"testing"

	"isobar/api"
	"isobar/trail"
)

// TestNewMemory: a list that is answered, its spare room too, shares nothing with what was answered ahead, or is later.
func TestNewMemory(t *testing.T) {
	r := rand.New(rand.NewPCG(191, 192))
	list := []string{"a", "a.b", "a.b.c", "a.b.c.d.e.f.g.h", "a.a.a"}
	for range 200 {
		list = append(list, somePath(r, nameBytes, 8, 32))
	}
	for _, path := range list {
		for name, call := range map[string]func(string) ([]string, api.Errno){"Split": trail.Split, "Nodes": trail.Nodes} {
			first, _ := call(path)
			second, _ := call(path)
			for i := range first[:cap(first)] {
				first[:cap(first)][i] = "spoilt"
			}
			third, e := call(path)
			if e != api.OK || !slices.Equal(second, cut(path)) || !slices.Equal(third, cut(path)) {
				t.Errorf("%s(%q): a change of one answer changes another: %q, %q", name, path, second, third)
			}
		}
	}
}

// Nothing is kept from call to call: asked once more, in another order, and behind errors, all answer as before.
func TestAnswersHangOnArgumentsAlone(t *testing.T) {
	list := append(strange(), "a", "a.b", "b.a", "a.b.c.d.e.f.g.h", "*", "*.*", "a.*", "{a,b}.?", "[a-c]", "{}", "{{{{{a}}}}}", "a..b")
	for range 3 {
		slices.Reverse(list)
		for _, s := range list {
			if _, pattern := reads(t, s); !pattern {
				continue
			}
			x := expression(s)
			for _, path := range list {
				if paths.MatchString(path) {
					matches(t, s, path, x.MatchString(path))
				}
			}
		}
	}
}
