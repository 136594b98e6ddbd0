package trie_test

import (
	"math/rand/v2"
	"slices"
	"testing"

	"isobar/api"
	"isobar/trail"
	"isobar/trie"
)

// TestAllTurns (P17.1): all rows of up to five Inserts and Deletes of four paths leave what they leave of a list.
func TestAllTurns(t *testing.T) {
	few := []string{"a", "a.b", "a.b.c", "b"}
	var rows func(n int, done []int)
	rows = func(n int, done []int) {
		x, l := trie.New(), list{}
		for _, turn := range done {
			path := few[turn/2]
			if turn%2 == 0 {
				inserts(t, x, path, l.insert(path))
			} else {
				drops(t, x, path, l.drop(path))
			}
		}
		tells(t, x, l, "*", "a.*", "a.b", "*.*.*")
		for turn := 0; n > 0 && turn < 2*len(few); turn++ {
			rows(n-1, append(slices.Clone(done), turn))
		}
	}
	rows(5, nil)
}

// TestAsAList (P17.1): whatever is inserted and deleted, by a fixed seed, a trie tells what a list does; a pattern is asked behind each turn, all of them now and then.
func TestAsAList(t *testing.T) {
	r := rand.New(rand.NewPCG(195, 196))
	said := map[api.Errno]int{}
	for range 45 {
		x, l := trie.New(), list{}
		alphabet, names, size := oneOf(r, "ab", "ab-:", nameBytes), oneOf(r, 2, 3, 8), oneOf(r, 1, 2, 3)
		drop := oneOf(r, 3, 5, 9)
		for turn := range 200 {
			path := somePath(r, alphabet, names, size)
			if len(l) > 0 && r.IntN(4) == 0 {
				path = oneOf(r, l...)
			}
			if r.IntN(20) == 0 {
				path = oneOf(r, path+".", "."+path, path+" ", path+".*", "", path+"."+path+"."+path)
			}
			var want api.Errno
			if r.IntN(10) < drop {
				want = l.drop(path)
				drops(t, x, path, want)
			} else {
				want = l.insert(path)
				inserts(t, x, path, want)
			}
			said[want]++
			asked := []string{somePattern(r, somePath(r, alphabet, names, size))}
			if len(l) > 0 {
				asked = append(asked, somePattern(r, oneOf(r, l...)))
			}
			if turn%50 == 0 {
				asked = append(asked, patterns()...)
			}
			tells(t, x, l, asked...)
		}
	}
	for _, e := range []api.Errno{api.OK, api.ErrPath, api.ErrExist, api.ErrNone, api.ErrMany} {
		if said[e] < 100 {
			t.Errorf("error %d came %d times", e, said[e])
		}
	}
}

// TestJustThose (P17.2): Find tells each path that is held and that the pattern fits, once, in order, and no other.
func TestJustThose(t *testing.T) {
	r := rand.New(rand.NewPCG(197, 198))
	found := 0
	for range 200 {
		l := someList(r)
		x := built(t, l)
		for range 20 {
			pattern := somePattern(r, oneOf(r, l...))
			got, e := x.Find(pattern)
			if _, want := trail.Nodes(pattern); e != want {
				t.Fatalf("Find(%q): %d, want %d", pattern, e, want)
			}
			for i := 1; i < len(got); i++ {
				if got[i-1] >= got[i] {
					t.Fatalf("Find(%q) = %q", pattern, got)
				}
			}
			for _, path := range l {
				is, _ := trail.Match(pattern, path)
				if is != slices.Contains(got, path) {
					t.Fatalf("of %q Find(%q) = %q", l, pattern, got)
				}
			}
			for _, path := range got {
				if !slices.Contains(l, path) || !x.Has(path) {
					t.Fatalf("of %q Find(%q) = %q", l, pattern, got)
				}
			}
			found += len(got)
		}
		for _, path := range l {
			finds(t, x, path, path)
		}
	}
	if found < 4000 {
		t.Errorf("only %d were found", found)
	}
}

// TestFindAndNodes: what is found is what is told of as leaves, by the same patterns; and a branch, or a leaf, is each node.
func TestFindAndNodes(t *testing.T) {
	r := rand.New(rand.NewPCG(199, 200))
	for range 200 {
		l := someList(r)
		x := built(t, l)
		for range 20 {
			pattern := somePattern(r, oneOf(r, l...))
			told, e := x.Nodes(pattern)
			if e != api.OK {
				continue
			}
			var leaves []string
			for _, h := range told {
				if !h.Leaf && !h.Branch || h.Leaf != x.Has(h.Path) {
					t.Fatalf("of %q Nodes(%q): %v", l, pattern, h)
				}
				if h.Leaf {
					leaves = append(leaves, h.Path)
				}
				if below, e := x.Nodes(h.Path + ".*"); e == api.OK && h.Branch != (len(below) > 0) {
					t.Fatalf("of %q Nodes(%q): %v, beneath it %v", l, pattern, h, below)
				}
			}
			finds(t, x, pattern, leaves...)
		}
	}
}

// TestBuilt (P17.3): a trie that is built of the paths of another one tells the same, in whichever order they come, whatever was deleted of the other one.
func TestBuilt(t *testing.T) {
	r := rand.New(rand.NewPCG(201, 202))
	for range 80 {
		l := someList(r)
		x := built(t, l)
		for range r.IntN(len(l)) {
			path := oneOf(r, l...)
			drops(t, x, path, l.drop(path))
		}
		for _, order := range [][]string{x.Paths(), mixed(r, x.Paths()), mixed(r, l)} {
			y := built(t, order)
			same(t, x, y, append(patterns(), l.places()...)...)
			for range 10 {
				same(t, x, y, somePattern(r, oneOf(r, append(l, "a.b")...)))
			}
			tells(t, y, l, patterns()...)
		}
	}
}

// same holds two tries against each other: what they hold, and what patterns find of them.
func same(t *testing.T, x, y *trie.Trie, patterns ...string) {
	t.Helper()
	if x.Len() != y.Len() || !slices.Equal(x.Paths(), y.Paths()) {
		t.Fatalf("%q, built %q", x.Paths(), y.Paths())
	}
	for _, pattern := range patterns {
		found, e := x.Find(pattern)
		again, f := y.Find(pattern)
		if e != f || !slices.Equal(found, again) {
			t.Fatalf("Find(%q) = %q, %d, built %q, %d", pattern, found, e, again, f)
		}
		told, e := x.Nodes(pattern)
		retold, f := y.Nodes(pattern)
		if e != f || !slices.Equal(told, retold) {
			t.Fatalf("Nodes(%q) = %v, %d, built %v, %d", pattern, told, e, retold, f)
		}
	}
}

// someList are paths, by a seed, none twice, that stand in one another's way.
func someList(r *rand.Rand) list {
	alphabet, names, size := oneOf(r, "ab", "ab-:", nameBytes), oneOf(r, 2, 3, 8), oneOf(r, 1, 2, 3, 32)
	l := list{"a"}
	for range r.IntN(100) {
		l.insert(somePath(r, alphabet, names, size))
	}
	return mixed(r, l)
}
