package trie_test

import (
	"math/rand/v2"
	"slices"
	"strings"
	"sync"
	"testing"
	"unsafe"

	"isobar/api"
	"isobar/trie"
)

// TestNewMemory: a list that is answered, its spare room too, shares nothing with the trie, nor with what was answered ahead, or is later.
func TestNewMemory(t *testing.T) {
	l := list{"a", "a.b", "a.b.c", "ab", "b.c", "b"}
	x := built(t, l)
	for range 2 {
		for _, pattern := range []string{"*", "*.*", "a.*", "*.*.*"} {
			second, _ := x.Find(pattern)
			retold, _ := x.Nodes(pattern)
			all := x.Paths()
			first, _ := x.Find(pattern)
			for i := range first[:cap(first)] {
				first[:cap(first)][i] = "spoilt"
			}
			told, _ := x.Nodes(pattern)
			for i := range told[:cap(told)] {
				told[:cap(told)][i] = api.Hit{Path: "spoilt"}
			}
			paths := x.Paths()
			for i := range paths[:cap(paths)] {
				paths[:cap(paths)][i] = "spoilt"
			}
			if !slices.Equal(second, l.find(pattern)) || !slices.Equal(retold, l.nodes(pattern)) || !slices.Equal(all, l.rising()) {
				t.Errorf("a change of one answer changes another: %q, %v, %q", second, retold, all)
			}
			tells(t, x, l, pattern)
		}
	}
}

// TestAnswersStay: what was answered stays as it is, whatever is inserted and deleted later.
func TestAnswersStay(t *testing.T) {
	l := list{"a.b", "a.c", "a.d", "x", "y"}
	x := built(t, l)
	all := x.Paths()
	found, _ := x.Find("a.*")
	told, _ := x.Nodes("*")
	for _, path := range l {
		drops(t, x, path, api.OK)
		inserts(t, x, path+".z", api.OK)
		inserts(t, x, "0"+path, api.OK)
	}
	if !slices.Equal(all, l.rising()) || !slices.Equal(found, l.find("a.*")) || !slices.Equal(told, l.nodes("*")) {
		t.Errorf("%q, %q, %v", all, found, told)
	}
}

// TestHandedIn: the paths that a trie is built of, their spare room too, stay as they are, and what becomes of them later doesn't change the trie.
func TestHandedIn(t *testing.T) {
	r := rand.New(rand.NewPCG(203, 204))
	for range 200 {
		l := someList(r)
		room := append(slices.Clone(l), "spare", "room")
		in := room[:len(l)]
		x := built(t, in)
		x.Paths()
		x.Find("*")
		if !slices.Equal(room, append(slices.Clone(l), "spare", "room")) {
			t.Fatalf("%q became %q", l, room)
		}
		for i := range room {
			room[i] = "spoilt"
		}
		tells(t, x, l, patterns()...)
		inserts(t, x, "a", api.ErrExist)
		bad := append(slices.Clone(l), "a")
		trie.Build(bad)
		if !slices.Equal(bad, append(slices.Clone(l), "a")) {
			t.Fatalf("%q became %q", l, bad)
		}
	}
}

// TestTextNotKept: a text that is handed in may go, since the names that are held are copies.
func TestTextNotKept(t *testing.T) {
	text := strings.Repeat("web01 ", 1000)
	path := text[6:11]
	for _, x := range []*trie.Trie{built(t, []string{path}), built(t, []string{path + ".cpu"})} {
		x.Insert(path)
		for _, told := range x.Paths() {
			if unsafe.StringData(told) == unsafe.StringData(path) {
				t.Errorf("%q stands where it stood when it was handed in", told)
			}
		}
	}
}

// TestApart: what is done to a trie is done to none beside it, those of the same paths too.
func TestApart(t *testing.T) {
	l := list{"a", "a.b", "c.d"}
	x, y, z := built(t, l), built(t, l), trie.New()
	w := built(t, x.Paths())
	drops(t, x, "a.b", api.OK)
	inserts(t, x, "c.d.e", api.OK)
	inserts(t, z, "q", api.OK)
	tells(t, x, list{"a", "c.d", "c.d.e"}, patterns()...)
	tells(t, y, l, patterns()...)
	tells(t, w, l, patterns()...)
	tells(t, z, list{"q"}, patterns()...)
	tells(t, trie.New(), nil, patterns()...)
}

// TestAskedAgain: asking changes nothing, so that all is told the same, however often, in whichever order; and many may ask at once.
func TestAskedAgain(t *testing.T) {
	r := rand.New(rand.NewPCG(205, 206))
	l := someList(r)
	x := built(t, l)
	asked := append(patterns(), l...)
	for pattern := range wrong() {
		asked = append(asked, pattern)
	}
	for range 5 {
		tells(t, x, l, mixed(r, asked)...)
	}
	var wait sync.WaitGroup
	for _, y := range []*trie.Trie{x, trie.New(), nil} {
		for range 4 {
			wait.Go(func() {
				held := y.Paths()
				for range 20 {
					found, _ := y.Find("*")
					told, _ := y.Nodes("*")
					if y.Len() != len(held) || !slices.Equal(y.Paths(), held) || len(found) > len(told) || y.Has("a") != slices.Contains(held, "a") {
						t.Errorf("%q, %q, %v", held, found, told)
					}
				}
			})
		}
	}
	wait.Wait()
}
