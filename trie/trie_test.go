package trie_test

import (
	"math/rand/v2"
	"slices"
	"strings"
	"testing"

	"isobar/api"
	"isobar/trie"
)

// TestExamples: the chapter's.
func TestExamples(t *testing.T) {
	x := built(t, []string{"a.b", "a.c.d", "a.c"})
	finds(t, x, "a.*", "a.b", "a.c")
	hits(t, x, "a.*", leaf("a.b"), both("a.c"))
}

// TestNew: a trie that holds nothing.
func TestNew(t *testing.T) {
	for name, x := range map[string]*trie.Trie{"New()": trie.New(), "Build(nil)": built(t, nil), "Build of none": built(t, []string{}), "as it is declared": new(trie.Trie)} {
		if x == nil || x.Len() != 0 || len(x.Paths()) != 0 || x.Has("a") || x.Has("") {
			t.Errorf("%s: %v", name, x)
		}
		tells(t, x, nil, patterns()...)
		drops(t, x, "a", api.ErrNone)
		inserts(t, x, "a.b", api.OK)
		tells(t, x, list{"a.b"}, patterns()...)
	}
	if trie.New().Len() != 0 {
		t.Error("what one holds stands in another one, too")
	}
}

// TestWorkedOut: what patterns find of a trie, told by hand.
func TestWorkedOut(t *testing.T) {
	x := built(t, []string{"servers.web1.cpu.user", "servers.web1.cpu.sys", "servers.web2.cpu.user", "servers.web2", "servers.db.disk", "servers.db.disk.used", "jobs", "jobs.done", "Jobs", "server.web1"})
	for _, c := range []struct {
		pattern string
		nodes   []api.Hit
	}{
		{"jobs", []api.Hit{both("jobs")}},
		{"Jobs", []api.Hit{leaf("Jobs")}},
		{"JOBS", nil},
		{"servers", []api.Hit{branch("servers")}},
		{"*", []api.Hit{leaf("Jobs"), both("jobs"), branch("server"), branch("servers")}},
		{"server*", []api.Hit{branch("server"), branch("servers")}},
		{"server?", []api.Hit{branch("servers")}},
		{"[Jj]obs", []api.Hit{leaf("Jobs"), both("jobs")}},
		{"jobs.*", []api.Hit{leaf("jobs.done")}},
		{"Jobs.*", nil},
		{"*.*", []api.Hit{leaf("jobs.done"), leaf("server.web1"), branch("servers.db"), branch("servers.web1"), both("servers.web2")}},
		{"*.web1", []api.Hit{leaf("server.web1"), branch("servers.web1")}},
		{"servers.*", []api.Hit{branch("servers.db"), branch("servers.web1"), both("servers.web2")}},
		{"servers.{web2,db,web2}", []api.Hit{branch("servers.db"), both("servers.web2")}},
		{"servers.web[1-2].cpu", []api.Hit{branch("servers.web1.cpu"), branch("servers.web2.cpu")}},
		{"servers.*.*", []api.Hit{both("servers.db.disk"), branch("servers.web1.cpu"), branch("servers.web2.cpu")}},
		{"servers.*.*.*", []api.Hit{leaf("servers.db.disk.used"), leaf("servers.web1.cpu.sys"), leaf("servers.web1.cpu.user"), leaf("servers.web2.cpu.user")}},
		{"*.*.*.user", []api.Hit{leaf("servers.web1.cpu.user"), leaf("servers.web2.cpu.user")}},
		{"servers.web1.cpu.sys", []api.Hit{leaf("servers.web1.cpu.sys")}},
		{"servers.web1.cpu.{user,sys}.*", nil},
		{"*.*.*.*.*", nil},
		{"servers.web3.*", nil},
		{"{}.*", nil},
		{"web1", nil},
		{strings.Repeat("?", 33), nil},
	} {
		var leaves []string
		for _, h := range c.nodes {
			if h.Leaf {
				leaves = append(leaves, h.Path)
			}
		}
		hits(t, x, c.pattern, c.nodes...)
		finds(t, x, c.pattern, leaves...)
	}
}

// TestDelete: what is left behind a Delete, told by hand: a node goes with the last path that led to it.
func TestDelete(t *testing.T) {
	x := built(t, []string{"a.b.c.d", "a.b", "a.e", "b"})
	hits(t, x, "a.b", both("a.b"))
	for _, path := range []string{"a", "a.b.c", "c", "a.b.c.d.e", "a.b.c.e", "A.b", "b.b"} {
		drops(t, x, path, api.ErrNone)
	}
	drops(t, x, "a.b", api.OK)
	drops(t, x, "a.b", api.ErrNone)
	hits(t, x, "a.b", branch("a.b"))
	hits(t, x, "a.*", branch("a.b"), leaf("a.e"))
	finds(t, x, "a.*", "a.e")
	tells(t, x, list{"a.b.c.d", "a.e", "b"}, patterns()...)
	drops(t, x, "a.b.c.d", api.OK)
	for _, pattern := range []string{"a.b", "a.b.c", "a.b.*", "*.b", "*.*.*", "*.*.*.*"} {
		hits(t, x, pattern)
	}
	hits(t, x, "a.*", leaf("a.e"))
	hits(t, x, "*", branch("a"), leaf("b"))
	drops(t, x, "a.e", api.OK)
	hits(t, x, "*", leaf("b"))
	drops(t, x, "b", api.OK)
	tells(t, x, nil, patterns()...)
	inserts(t, x, "a.b", api.OK)
	hits(t, x, "*", branch("a"))
	hits(t, x, "*.*", leaf("a.b"))
	inserts(t, x, "a", api.OK)
	hits(t, x, "*", both("a"))
	drops(t, x, "a.b", api.OK)
	hits(t, x, "*", leaf("a"))
}

// TestRising: byte by byte, where bytes that are below the point and above it come behind the same name.
func TestRising(t *testing.T) {
	rising := []string{"A", "a", "a#", "a#.b", "a%", "a+.b", "a-", "a-b.x", "a.-", "a.B", "a.b", "a.b-c", "a.b.c", "a.b0", "a.bb", "a0.b", "a:b", "a=", "a@.x", "aB.b", "a_", "aa", "aa.b", "ab"}
	if !slices.IsSorted(rising) {
		t.Fatal("the list isn't rising")
	}
	r := rand.New(rand.NewPCG(193, 194))
	for range 50 {
		x := built(t, mixed(r, rising))
		if got := x.Paths(); !slices.Equal(got, rising) {
			t.Fatalf("Paths() = %q", got)
		}
		finds(t, x, "*.*", "a#.b", "a+.b", "a-b.x", "a.-", "a.B", "a.b", "a.b-c", "a.b0", "a.bb", "a0.b", "a@.x", "aB.b", "aa.b")
		finds(t, x, "a*", "a", "a#", "a%", "a-", "a:b", "a=", "a_", "aa", "ab")
		hits(t, x, "*", leaf("A"), both("a"), both("a#"), leaf("a%"), branch("a+"), leaf("a-"), branch("a-b"), branch("a0"), leaf("a:b"), leaf("a="), branch("a@"), branch("aB"), leaf("a_"), both("aa"), leaf("ab"))
		tells(t, x, mixed(r, rising), patterns()...)
	}
}

// TestSubsets holds each trie of some of ten paths to the chapter's words, whichever order they come in.
func TestSubsets(t *testing.T) {
	all := []string{"a", "b", "a.a", "a.b", "b.a", "a.a.a", "a.a.b", "a-", "a-.a", "b.a.a.a"}
	for set := range 1 << len(all) {
		var l list
		for i, path := range all {
			if set&(1<<i) != 0 {
				l = append(l, path)
			}
		}
		tells(t, built(t, l), l, patterns()...)
		slices.Reverse(l)
		tells(t, built(t, l), l, patterns()...)
	}
}

// TestDeep: eight names are taken, of up to 32 bytes, and told at each of their nodes.
func TestDeep(t *testing.T) {
	for _, name := range []string{"a", "ab-", strings.Repeat("x", 32)} {
		for n := 1; n <= 8; n++ {
			path := alike(name, n)
			x := built(t, []string{path})
			tells(t, x, list{path}, patterns()...)
			for k := 1; k <= 8; k++ {
				switch {
				case k < n:
					hits(t, x, alike("*", k), branch(alike(name, k)))
					finds(t, x, alike("*", k))
				case k == n:
					hits(t, x, alike("*", k), leaf(path))
					finds(t, x, alike("{*,?*}", k), path)
				default:
					hits(t, x, alike("*", k))
				}
			}
			for k := 8; k >= 1; k-- {
				want := api.OK
				if k == n {
					want = api.ErrExist
				}
				inserts(t, x, alike(name, k), want)
			}
			if x.Len() != 8 {
				t.Errorf("Len() = %d", x.Len())
			}
			hits(t, x, alike("*", 8), leaf(alike(name, 8)))
			hits(t, x, alike("*", 7), both(alike(name, 7)))
		}
	}
}

// TestBytes: name bytes, and no other ones, stand in paths that are held, and each is told apart from all others.
func TestBytes(t *testing.T) {
	x, held := trie.New(), list{}
	for c := range 256 {
		path := "a." + string([]byte{byte(c)})
		want := held.insert(path)
		if want == api.ErrMany {
			drops(t, x, held[0], api.OK)
			held.drop(held[0])
			want = held.insert(path)
		}
		inserts(t, x, path, want)
		tells(t, x, held, "*.*", "*", "a.?", "a.[a-z]", "a.[0-9]")
	}
	if len(held) != 64 {
		t.Errorf("%d are held", len(held))
	}
}
