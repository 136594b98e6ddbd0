package disk_test

import (
	"bytes"
	"maps"
	"math"
	"slices"
	"strings"
	"testing"

	"isobar/api"
	"isobar/disk"
)

// greatest is what Next may be at most.
const greatest = 1099511627776

// empty is a new disk of a quota.
func empty(t *testing.T, quota int) api.Disk {
	t.Helper()
	d, e := disk.New(quota)
	if e != api.OK || !disk.Right(d) {
		t.Fatalf("New(%d) = %v, %d", quota, d, e)
	}
	return d
}

// behind is a disk behind calls, none of which may be refused.
func behind(t *testing.T, d api.Disk, calls ...call) api.Disk {
	t.Helper()
	for _, c := range calls {
		x, e := c.made(d)
		if e != api.OK || !disk.Right(x) {
			t.Fatalf("%v of %v = %v, %d", c, d, x, e)
		}
		d = x
	}
	return d
}

// denied holds that a call is refused by an error, and that the disk is answered as it was.
func denied(t *testing.T, d api.Disk, c call, want api.Errno) {
	t.Helper()
	before := twin(d)
	x, e := c.made(d)
	if e != want || !same(x, before) || !same(d, before) {
		t.Errorf("%v of %v = %v, %d, want %d", c, before, x, e, want)
	}
}

// holds holds that Read tells a file's bytes.
func holds(t *testing.T, d api.Disk, name, want string) {
	t.Helper()
	if b, e := disk.Read(d, name); e != api.OK || string(b) != want {
		t.Errorf("Read of %q = %q, %d, want %q, of %v", name, b, e, want, d)
	}
}

// lists holds that List tells these names.
func lists(t *testing.T, d api.Disk, want ...string) {
	t.Helper()
	if l, e := disk.List(d); e != api.OK || !slices.Equal(l, want) {
		t.Errorf("List = %q, %d, want %q, of %v", l, e, want, d)
	}
}

// is holds that a disk is as said.
func is(t *testing.T, got, want api.Disk) {
	t.Helper()
	if !same(got, want) {
		t.Errorf("got  %v\nwant %v", got, want)
	}
}

// rich is a disk with all that there may be: files that are sure, in part and not at all; one that only Kept has, one that only a list between has had; each kind of move, a rename in another one's stead.
func rich(t *testing.T) api.Disk {
	t.Helper()
	return behind(t, empty(t, 30),
		call{kind: create, name: "a"}, call{kind: create, name: "b"}, call{kind: create, name: "c"},
		call{kind: extend, name: "a", b: []byte("first")}, call{kind: sync, name: "a"},
		call{kind: extend, name: "b", b: []byte("sec")}, call{kind: sync, name: "b"}, call{kind: extend, name: "b", b: []byte("ond")},
		call{kind: syncDir},
		call{kind: extend, name: "c", b: []byte("third")},
		call{kind: create, name: "d"}, call{kind: extend, name: "d", b: []byte("4")},
		call{kind: rename, name: "b", to: "c"},
		call{kind: remove, name: "a"},
		call{kind: create, name: "a"},
		call{kind: create, name: "e"}, call{kind: remove, name: "e"},
	)
}

func TestRich(t *testing.T) {
	is(t, rich(t), api.Disk{
		Quota: 30,
		Files: []api.File{
			{ID: 1, Bytes: []byte("first"), Sure: 5}, {ID: 2, Bytes: []byte("second"), Sure: 3}, {ID: 3, Bytes: []byte("third")},
			{ID: 4, Bytes: []byte("4")}, {ID: 5}, {ID: 6},
		},
		Names: []api.Name{{Name: "a", ID: 5}, {Name: "c", ID: 2}, {Name: "d", ID: 4}},
		Kept:  []api.Name{{Name: "a", ID: 1}, {Name: "b", ID: 2}, {Name: "c", ID: 3}},
		Moves: []api.Move{
			{Kind: 1, Name: "d", ID: 4}, {Kind: 3, Name: "b", To: "c"}, {Kind: 2, Name: "a"}, {Kind: 1, Name: "a", ID: 5},
			{Kind: 1, Name: "e", ID: 6}, {Kind: 2, Name: "e"},
		},
		Next: 7,
	})
}

func TestNew(t *testing.T) {
	for _, q := range []int{0, 1, 20, 1<<30 - 1, 1 << 30} {
		is(t, empty(t, q), api.Disk{Quota: q, Next: 1})
	}
	for _, q := range []int{-1, 1<<30 + 1, 1 << 31, 1 << 32, math.MinInt, math.MaxInt} {
		if d, e := disk.New(q); e != api.ErrArg || !same(d, api.Disk{}) {
			t.Errorf("New(%d) = %v, %d", q, d, e)
		}
	}
}

// TestExample is the chapter's.
func TestExample(t *testing.T) {
	d := behind(t, empty(t, 10), call{kind: create, name: "a"}, call{kind: extend, name: "a", b: []byte("hello")})
	x := behind(t, d, call{kind: crash, moves: 1, keeps: []api.Keep{{ID: 1, Bytes: 2}}})
	holds(t, x, "a", "he")
	is(t, x, api.Disk{
		Quota: 10, Next: 2, Files: []api.File{{ID: 1, Bytes: []byte("he"), Sure: 2}},
		Names: []api.Name{{Name: "a", ID: 1}}, Kept: []api.Name{{Name: "a", ID: 1}},
	})
	x = behind(t, d, call{kind: crash})
	lists(t, x)
	is(t, x, api.Disk{Quota: 10, Next: 2})
}

func TestCreate(t *testing.T) {
	d := behind(t, empty(t, 5), call{kind: create, name: "b"}, call{kind: create, name: "a"})
	is(t, d, api.Disk{
		Quota: 5, Next: 3, Files: []api.File{{ID: 1}, {ID: 2}},
		Names: []api.Name{{Name: "a", ID: 2}, {Name: "b", ID: 1}},
		Moves: []api.Move{{Kind: 1, Name: "b", ID: 1}, {Kind: 1, Name: "a", ID: 2}},
	})
	holds(t, d, "a", "")
	denied(t, d, call{kind: create, name: "a"}, api.ErrExist)
	denied(t, d, call{kind: create, name: "b"}, api.ErrExist)
	// A number isn't given again, when its file is gone.
	d = behind(t, d, call{kind: remove, name: "a"}, call{kind: syncDir}, call{kind: create, name: "a"})
	if d.Next != 4 || len(d.Files) != 2 || d.Files[1].ID != 3 {
		t.Errorf("created again: %v", d)
	}
	// A name that only Kept has may be created.
	d = behind(t, d, call{kind: syncDir}, call{kind: remove, name: "b"}, call{kind: create, name: "b"})
	is(t, d, api.Disk{
		Quota: 5, Next: 5, Files: []api.File{{ID: 1}, {ID: 3}, {ID: 4}},
		Names: []api.Name{{Name: "a", ID: 3}, {Name: "b", ID: 4}}, Kept: []api.Name{{Name: "a", ID: 3}, {Name: "b", ID: 1}},
		Moves: []api.Move{{Kind: 2, Name: "b"}, {Kind: 1, Name: "b", ID: 4}},
	})
}

// A quota of nothing has room for files, but not for bytes.
func TestNoQuota(t *testing.T) {
	d := behind(t, empty(t, 0), call{kind: create, name: "a"}, call{kind: extend, name: "a"}, call{kind: sync, name: "a"}, call{kind: syncDir})
	denied(t, d, call{kind: extend, name: "a", b: []byte("x")}, api.ErrFull)
	d = behind(t, d, call{kind: crash, keeps: []api.Keep{{ID: 1, Bytes: 9}}})
	holds(t, d, "a", "")
}

// names that may be: of one byte, of 96, and of whichever bytes.
var goodNames = []string{"x", "\x00", "\xff", " ", "/", "a\nb", ".", "..", "é", strings.Repeat("\xff", 96), text(95), text(96)}

// names that may not be: the bytes count, not the runes.
var badNames = []string{"", text(97), strings.Repeat("\x00", 97), strings.Repeat("é", 49), text(1000)}

func TestNamesThatMayBe(t *testing.T) {
	d := empty(t, 100)
	for _, name := range goodNames {
		d = behind(t, d, call{kind: create, name: name}, call{kind: extend, name: name, b: []byte("b")}, call{kind: sync, name: name})
		holds(t, d, name, "b")
		x := behind(t, d, call{kind: rename, name: name, to: "to"})
		holds(t, x, "to", "b")
		holds(t, behind(t, x, call{kind: rename, name: "to", to: name}), name, "b")
		behind(t, d, call{kind: remove, name: name}, call{kind: syncDir})
	}
	lists(t, d, slices.Sorted(slices.Values(goodNames))...)
	lists(t, behind(t, d, call{kind: syncDir}), slices.Sorted(slices.Values(goodNames))...)
}

func TestNamesThatMayNotBe(t *testing.T) {
	for _, d := range []api.Disk{empty(t, 5), rich(t)} {
		for _, name := range badNames {
			for _, kind := range []string{create, extend, sync, remove} {
				denied(t, d, call{kind: kind, name: name}, api.ErrArg)
			}
			// A name that may not be comes ahead of one that isn't there, and ahead of both being alike.
			for _, other := range []string{"a", "zz", name} {
				denied(t, d, call{kind: rename, name: name, to: other}, api.ErrArg)
				denied(t, d, call{kind: rename, name: other, to: name}, api.ErrArg)
			}
			denied(t, d, call{kind: extend, name: name, b: make([]byte, 100)}, api.ErrArg)
			if b, e := disk.Read(d, name); e != api.ErrArg || len(b) != 0 {
				t.Errorf("Read of %q = %q, %d", name, b, e)
			}
		}
	}
}

func TestNamesThatAreNotThere(t *testing.T) {
	// b is one that only Kept has, e one that only a list between has had.
	for _, d := range []api.Disk{empty(t, 5), rich(t)} {
		for _, name := range []string{"b", "e", "z", "A", "aa", "\x00", text(96)} {
			for _, kind := range []string{extend, sync, remove} {
				denied(t, d, call{kind: kind, name: name}, api.ErrNoFile)
			}
			for _, to := range []string{"a", "f", name} {
				denied(t, d, call{kind: rename, name: name, to: to}, api.ErrNoFile)
			}
			denied(t, d, call{kind: extend, name: name, b: make([]byte, 100)}, api.ErrNoFile)
			if b, e := disk.Read(d, name); e != api.ErrNoFile || len(b) != 0 {
				t.Errorf("Read of %q = %q, %d", name, b, e)
			}
		}
	}
}

// full is a disk of 256 files.
func full(t *testing.T) api.Disk {
	t.Helper()
	d := empty(t, 1000)
	for i := range 256 {
		d = behind(t, d, call{kind: create, name: string([]byte{'f', byte(i)})})
	}
	return d
}

func TestMostFiles(t *testing.T) {
	d := full(t)
	if l, e := disk.List(d); e != api.OK || len(l) != 256 || l[0] != "f\x00" || l[255] != "f\xff" {
		t.Errorf("List = %q, %d", l, e)
	}
	denied(t, d, call{kind: create, name: "one more"}, api.ErrMany)
	denied(t, d, call{kind: create, name: "f\x07"}, api.ErrExist)
	denied(t, d, call{kind: create, name: ""}, api.ErrArg)
	d = behind(t, d, call{kind: extend, name: "f\x07", b: []byte("seven")}, call{kind: rename, name: "f\x07", to: "f\x08"}, call{kind: remove, name: "f\x09"})
	holds(t, d, "f\x08", "seven")
	// A crash may bring back both files that no name leads to: they count till the directory is synced.
	denied(t, d, call{kind: create, name: "one more"}, api.ErrMany)
	d = behind(t, d, call{kind: syncDir}, call{kind: create, name: "one more"}, call{kind: create, name: "two more"})
	denied(t, d, call{kind: create, name: "three more"}, api.ErrMany)
	if len(d.Files) != 256 || d.Next != 259 || len(d.Moves) != 2 {
		t.Errorf("%d files, Next %d, moves %v", len(d.Files), d.Next, d.Moves)
	}
}

func TestNextAtItsGreatest(t *testing.T) {
	for _, next := range []int{greatest, greatest - 1, 1 << 32} {
		d := api.Disk{Quota: 5, Next: next}
		if next == greatest {
			denied(t, d, call{kind: create, name: "a"}, api.ErrMany)
			continue
		}
		d = behind(t, d, call{kind: create, name: "a"}, call{kind: extend, name: "a", b: []byte("x")})
		is(t, d, api.Disk{
			Quota: 5, Next: next + 1, Files: []api.File{{ID: next, Bytes: []byte("x")}},
			Names: []api.Name{{Name: "a", ID: next}}, Moves: []api.Move{{Kind: 1, Name: "a", ID: next}},
		})
	}
	d := behind(t, api.Disk{Quota: 5, Next: greatest - 1}, call{kind: create, name: "a"})
	denied(t, d, call{kind: create, name: "b"}, api.ErrMany)
	denied(t, d, call{kind: create, name: "a"}, api.ErrExist)
	d = behind(t, d, call{kind: extend, name: "a", b: []byte("xyz")}, call{kind: sync, name: "a"}, call{kind: crash, moves: 1})
	holds(t, d, "a", "xyz")
	d = behind(t, d, call{kind: remove, name: "a"}, call{kind: syncDir})
	denied(t, d, call{kind: create, name: "a"}, api.ErrMany)
	is(t, d, api.Disk{Quota: 5, Next: greatest})
}

func TestAppend(t *testing.T) {
	d := behind(t, empty(t, 6), call{kind: create, name: "a"}, call{kind: create, name: "b"})
	d = behind(t, d, call{kind: extend, name: "a", b: []byte("ab")}, call{kind: sync, name: "a"}, call{kind: extend, name: "b", b: []byte("x")})
	d = behind(t, d, call{kind: extend, name: "a", b: []byte("c")})
	holds(t, d, "a", "abc")
	holds(t, d, "b", "x")
	if d.Files[0].Sure != 2 || d.Files[1].Sure != 0 || disk.Used(d) != 4 {
		t.Errorf("%v", d)
	}
	for _, b := range [][]byte{nil, {}} {
		is(t, behind(t, d, call{kind: extend, name: "a", b: b}), d)
	}
	denied(t, d, call{kind: extend, name: "a", b: []byte("def")}, api.ErrFull)
	denied(t, d, call{kind: extend, name: "b", b: make([]byte, 1000)}, api.ErrFull)
	d = behind(t, d, call{kind: extend, name: "b", b: []byte{0, 255}})
	holds(t, d, "b", "x\x00\xff")
	// To its quota, it takes no byte more, but nothing.
	denied(t, d, call{kind: extend, name: "a", b: []byte("d")}, api.ErrFull)
	is(t, behind(t, d, call{kind: extend, name: "a"}), d)
}

// Bytes that only a crash may bring back take room, too; behind SyncDir they don't.
func TestRoomOfWhatMayComeBack(t *testing.T) {
	kept := behind(t, empty(t, 6), call{kind: create, name: "a"}, call{kind: extend, name: "a", b: []byte("abcd")}, call{kind: syncDir})
	gone := []api.Disk{
		behind(t, kept, call{kind: remove, name: "a"}, call{kind: create, name: "b"}),
		behind(t, kept, call{kind: create, name: "b"}, call{kind: rename, name: "b", to: "a"}, call{kind: rename, name: "a", to: "b"}),
		behind(t, empty(t, 6), call{kind: create, name: "a"}, call{kind: extend, name: "a", b: []byte("abcd")}, call{kind: remove, name: "a"}, call{kind: create, name: "b"}),
	}
	for _, d := range gone {
		if disk.Used(d) != 4 || len(d.Files) != 2 {
			t.Errorf("of %v Used is %d", d, disk.Used(d))
		}
		denied(t, d, call{kind: extend, name: "b", b: []byte("xyz")}, api.ErrFull)
		behind(t, d, call{kind: extend, name: "b", b: []byte("xy")})
		d = behind(t, d, call{kind: syncDir})
		if disk.Used(d) != 0 || len(d.Files) != 1 || d.Files[0].ID != 2 {
			t.Errorf("behind SyncDir: %v", d)
		}
		d = behind(t, d, call{kind: extend, name: "b", b: []byte("uvwxyz")})
		holds(t, d, "b", "uvwxyz")
	}
}

func TestSync(t *testing.T) {
	d := behind(t, empty(t, 9), call{kind: create, name: "a"}, call{kind: create, name: "b"}, call{kind: syncDir})
	is(t, behind(t, d, call{kind: sync, name: "a"}), d)
	d = behind(t, d, call{kind: extend, name: "a", b: []byte("abc")}, call{kind: extend, name: "b", b: []byte("xy")}, call{kind: sync, name: "a"})
	is(t, d, api.Disk{
		Quota: 9, Next: 3, Files: []api.File{{ID: 1, Bytes: []byte("abc"), Sure: 3}, {ID: 2, Bytes: []byte("xy")}},
		Names: []api.Name{{Name: "a", ID: 1}, {Name: "b", ID: 2}}, Kept: []api.Name{{Name: "a", ID: 1}, {Name: "b", ID: 2}},
	})
	d = behind(t, d, call{kind: extend, name: "a", b: []byte("d")})
	if d.Files[0].Sure != 3 {
		t.Errorf("an Append makes sure: %v", d)
	}
	if d = behind(t, d, call{kind: sync, name: "a"}); d.Files[0].Sure != 4 || d.Files[1].Sure != 0 {
		t.Errorf("synced again: %v", d)
	}
	// A sync of a file keeps no name.
	d = behind(t, empty(t, 9), call{kind: create, name: "a"}, call{kind: sync, name: "a"})
	if len(d.Kept) != 0 || len(d.Moves) != 1 {
		t.Errorf("Sync keeps names: %v", d)
	}
}

func TestSyncDir(t *testing.T) {
	is(t, behind(t, empty(t, 3), call{kind: syncDir}), api.Disk{Quota: 3, Next: 1})
	d := behind(t, rich(t), call{kind: syncDir})
	names := []api.Name{{Name: "a", ID: 5}, {Name: "c", ID: 2}, {Name: "d", ID: 4}}
	// It makes no byte sure.
	is(t, d, api.Disk{
		Quota: 30, Next: 7, Files: []api.File{{ID: 2, Bytes: []byte("second"), Sure: 3}, {ID: 4, Bytes: []byte("4")}, {ID: 5}},
		Names: names, Kept: names,
	})
	is(t, behind(t, d, call{kind: syncDir}), d)
}

func TestRename(t *testing.T) {
	d := behind(t, empty(t, 9), call{kind: create, name: "b"}, call{kind: create, name: "d"},
		call{kind: extend, name: "b", b: []byte("B")}, call{kind: extend, name: "d", b: []byte("D")}, call{kind: syncDir})
	for _, to := range []string{"a", "c", "e", text(96)} {
		x := behind(t, d, call{kind: rename, name: "b", to: to})
		lists(t, x, slices.Sorted(slices.Values([]string{"d", to}))...)
		holds(t, x, to, "B")
		if want := []api.Move{{Kind: 3, Name: "b", To: to}}; !slices.Equal(x.Moves, want) || !slices.Equal(x.Kept, d.Kept) || len(x.Files) != 2 {
			t.Errorf("renamed to %q: %v", to, x)
		}
	}
	for _, c := range []call{{kind: rename, name: "b", to: "d"}, {kind: rename, name: "d", to: "b"}} {
		x := behind(t, d, c)
		lists(t, x, c.to)
		holds(t, x, c.to, strings.ToUpper(c.name))
		if want := []api.Move{{Kind: 3, Name: c.name, To: c.to}}; !slices.Equal(x.Moves, want) || len(x.Files) != 2 || disk.Used(x) != 2 {
			t.Errorf("renamed in another one's stead: %v", x)
		}
		if x = behind(t, x, call{kind: syncDir}); len(x.Files) != 1 || disk.Used(x) != 1 {
			t.Errorf("synced: %v", x)
		}
	}
	is(t, behind(t, d, call{kind: rename, name: "b", to: "b"}), d)
	is(t, behind(t, rich(t), call{kind: rename, name: "c", to: "c"}), rich(t))
	denied(t, d, call{kind: rename, name: "x", to: "x"}, api.ErrNoFile)
	// A name that is given up may be given again.
	x := behind(t, d, call{kind: rename, name: "b", to: "c"}, call{kind: rename, name: "d", to: "b"}, call{kind: rename, name: "c", to: "d"})
	holds(t, x, "b", "D")
	holds(t, x, "d", "B")
}

func TestRemove(t *testing.T) {
	d := behind(t, empty(t, 9), call{kind: create, name: "a"}, call{kind: create, name: "b"}, call{kind: extend, name: "a", b: []byte("A")}, call{kind: syncDir})
	x := behind(t, d, call{kind: remove, name: "a"})
	is(t, x, api.Disk{
		Quota: 9, Next: 3, Files: []api.File{{ID: 1, Bytes: []byte("A")}, {ID: 2}},
		Names: []api.Name{{Name: "b", ID: 2}}, Kept: []api.Name{{Name: "a", ID: 1}, {Name: "b", ID: 2}}, Moves: []api.Move{{Kind: 2, Name: "a"}},
	})
	denied(t, x, call{kind: remove, name: "a"}, api.ErrNoFile)
	lists(t, behind(t, x, call{kind: remove, name: "b"}))
}

func TestUsed(t *testing.T) {
	long := make([]byte, 1<<20)
	for _, c := range []struct {
		d    api.Disk
		want int
	}{
		{api.Disk{}, 0},
		{empty(t, 5), 0},
		{rich(t), 17},
		// Whatever a disk is, its files' bytes are counted.
		{api.Disk{Quota: -1, Next: -5, Files: []api.File{{Bytes: []byte("ab")}, {ID: -3, Bytes: []byte("cde"), Sure: 99}}}, 5},
		{api.Disk{Quota: 1, Files: []api.File{{ID: 7, Bytes: []byte("abc")}, {ID: 7, Bytes: []byte("abc")}, {ID: 1}}}, 6},
		{api.Disk{Files: slices.Repeat([]api.File{{ID: 1, Bytes: long, Sure: -1}}, 3000)}, 3000 << 20},
		{api.Disk{Names: []api.Name{{Name: "a", ID: 1}}, Moves: []api.Move{{Kind: 9}}}, 0},
	} {
		if got := disk.Used(c.d); got != c.want {
			t.Errorf("Used = %d, want %d", got, c.want)
		}
	}
}

// The greatest quota is filled by 256 files of 2^22 bytes, which may be the same ones here.
func TestGreatestQuota(t *testing.T) {
	d := full(t)
	d.Quota = 1 << 30
	long := make([]byte, 1<<22+1)
	for i := range d.Files {
		d.Files[i].Bytes = long[:1<<22]
	}
	if !disk.Right(d) || disk.Used(d) != 1<<30 {
		t.Errorf("filled to its quota: %v, %d", disk.Right(d), disk.Used(d))
	}
	if b, e := disk.Read(d, "f\xff"); e != api.OK || len(b) != 1<<22 {
		t.Errorf("Read = %d bytes, %d", len(b), e)
	}
	d.Files[100].Bytes = long
	if disk.Right(d) {
		t.Error("right with a byte more than its quota")
	}
	d.Files[200].Bytes = long[1 : 1<<22]
	if !disk.Right(d) {
		t.Error("not right, filled to its quota")
	}
	d.Quota++
	if disk.Right(d) {
		t.Error("right with a quota above the greatest")
	}
}

func TestReadAndList(t *testing.T) {
	d := rich(t)
	lists(t, d, "a", "c", "d")
	holds(t, d, "a", "")
	holds(t, d, "c", "second")
	holds(t, d, "d", "4")
	lists(t, empty(t, 0))
	// Rising is byte by byte.
	d = empty(t, 0)
	for _, name := range []string{"b", "é", "a10", "a\xff", "B", "a9", "a", "\x00", "a\x00", "\xff"} {
		d = behind(t, d, call{kind: create, name: name})
	}
	lists(t, d, "\x00", "B", "a", "a\x00", "a10", "a9", "a\xff", "b", "é", "\xff")
}

func TestCrashOfMoves(t *testing.T) {
	all := []api.Keep{{ID: 6, Bytes: 9}, {ID: 5, Bytes: 9}, {ID: 4, Bytes: 9}, {ID: 3, Bytes: 9}, {ID: 2, Bytes: 9}, {ID: 1, Bytes: 9}}
	kept := map[string]string{"a": "first", "b": "second", "c": "third"}
	steps := []map[string]string{
		kept,
		{"a": "first", "b": "second", "c": "third", "d": "4"},
		{"a": "first", "c": "second", "d": "4"},
		{"c": "second", "d": "4"},
		{"a": "", "c": "second", "d": "4"},
		{"a": "", "c": "second", "d": "4", "e": ""},
		{"a": "", "c": "second", "d": "4"},
	}
	for moves := -2; moves <= 9; moves++ {
		want := steps[min(max(moves, 0), 6)]
		x := behind(t, rich(t), call{kind: crash, moves: moves, keeps: all})
		names := slices.Sorted(maps.Keys(want))
		lists(t, x, names...)
		for _, name := range names {
			holds(t, x, name, want[name])
		}
		if x.Quota != 30 || x.Next != 7 || len(x.Files) != len(want) || len(x.Moves) != 0 || !slices.Equal(x.Names, x.Kept) {
			t.Errorf("behind a crash of %d: %v", moves, x)
		}
	}
	for _, c := range [][2]int{{math.MinInt, 0}, {math.MaxInt, 6}} {
		is(t, behind(t, rich(t), call{kind: crash, moves: c[0], keeps: all}), behind(t, rich(t), call{kind: crash, moves: c[1], keeps: all}))
	}
}

func TestCrashOfBytes(t *testing.T) {
	d := behind(t, empty(t, 30), call{kind: create, name: "a"}, call{kind: extend, name: "a", b: []byte("abc")}, call{kind: sync, name: "a"},
		call{kind: extend, name: "a", b: []byte("defg")}, call{kind: create, name: "b"}, call{kind: extend, name: "b", b: []byte("xyz")}, call{kind: syncDir})
	for _, c := range []struct {
		keeps []api.Keep
		a, b  string
	}{
		{nil, "abc", ""},
		{[]api.Keep{}, "abc", ""},
		{[]api.Keep{{ID: 3, Bytes: 2}, {ID: 0, Bytes: 2}, {ID: -1, Bytes: 2}}, "abc", ""},
		{[]api.Keep{{ID: 1, Bytes: 0}}, "abc", ""},
		{[]api.Keep{{ID: 1, Bytes: 1}}, "abcd", ""},
		{[]api.Keep{{ID: 1, Bytes: 3}}, "abcdef", ""},
		{[]api.Keep{{ID: 1, Bytes: 4}}, "abcdefg", ""},
		{[]api.Keep{{ID: 1, Bytes: 5}, {ID: 2, Bytes: 4}}, "abcdefg", "xyz"},
		{[]api.Keep{{ID: 1, Bytes: math.MaxInt}, {ID: 2, Bytes: math.MaxInt}}, "abcdefg", "xyz"},
		{[]api.Keep{{ID: 1, Bytes: -1}, {ID: 2, Bytes: -1}}, "abc", ""},
		{[]api.Keep{{ID: 1, Bytes: math.MinInt}, {ID: 2, Bytes: math.MinInt}}, "abc", ""},
		// The first one of a number counts, whatever it says.
		{[]api.Keep{{ID: 2, Bytes: 1}, {ID: 1, Bytes: 2}, {ID: 2, Bytes: 3}, {ID: 1, Bytes: 4}}, "abcde", "x"},
		{[]api.Keep{{ID: 1, Bytes: -5}, {ID: 1, Bytes: 2}, {ID: 2, Bytes: 0}, {ID: 2, Bytes: 1}}, "abc", ""},
		{[]api.Keep{{ID: 2, Bytes: 3}, {ID: 2, Bytes: 1}, {ID: 1, Bytes: 9}, {ID: 1, Bytes: -1}}, "abcdefg", "xyz"},
	} {
		before := slices.Clone(c.keeps)
		x := behind(t, d, call{kind: crash, keeps: c.keeps})
		holds(t, x, "a", c.a)
		holds(t, x, "b", c.b)
		// All that stays is sure: a second crash takes nothing.
		is(t, behind(t, x, call{kind: crash}), x)
		for _, f := range x.Files {
			if f.Sure != len(f.Bytes) {
				t.Errorf("%v: not all is sure: %v", c.keeps, x)
			}
		}
		if !slices.Equal(before, c.keeps) {
			t.Errorf("%v became %v", before, c.keeps)
		}
	}
}

// A file that is gone may not come back by a keep, nor by a second crash.
func TestCrashOfFilesThatAreGone(t *testing.T) {
	d := behind(t, empty(t, 30), call{kind: create, name: "a"}, call{kind: extend, name: "a", b: []byte("abc")}, call{kind: sync, name: "a"})
	keeps := []api.Keep{{ID: 1, Bytes: 3}}
	x := behind(t, d, call{kind: crash, keeps: keeps})
	is(t, x, api.Disk{Quota: 30, Next: 2})
	is(t, behind(t, x, call{kind: crash, moves: 5, keeps: keeps}), x)
	x = behind(t, x, call{kind: create, name: "a"})
	holds(t, x, "a", "")
}

// TestKeptAndSynced: what was synced, and whose name was kept, is there behind any crash; behind it stands a beginning of what was appended.
func TestKeptAndSynced(t *testing.T) {
	steps := []call{
		{kind: create, name: "a"}, {kind: extend, name: "a", b: []byte("one")}, {kind: sync, name: "a"}, {kind: syncDir},
		{kind: extend, name: "a", b: []byte("two")}, {kind: create, name: "b"}, {kind: extend, name: "b", b: []byte("b")},
		{kind: extend, name: "a", b: []byte("three")}, {kind: rename, name: "b", to: "c"}, {kind: sync, name: "c"},
		{kind: sync, name: "a"}, {kind: extend, name: "a", b: []byte("four")}, {kind: remove, name: "c"}, {kind: syncDir},
		{kind: extend, name: "a", b: []byte("five")},
	}
	// How many of a's bytes are synced, its name kept too, behind each step.
	sure := []int{0, 0, 0, 3, 3, 3, 3, 3, 3, 3, 11, 11, 11, 11, 11}
	d, appended := empty(t, 100), ""
	for i, c := range steps {
		d = behind(t, d, c)
		if c.name == "a" {
			appended += string(c.b)
		}
		if i < 3 {
			continue
		}
		for moves := -1; moves <= len(d.Moves)+1; moves++ {
			for keep := -1; keep <= 20; keep++ {
				x := behind(t, d, call{kind: crash, moves: moves, keeps: []api.Keep{{ID: 2, Bytes: keep}, {ID: 1, Bytes: keep}}})
				b, e := disk.Read(x, "a")
				if want := min(sure[i]+max(keep, 0), len(appended)); e != api.OK || string(b) != appended[:want] {
					t.Errorf("behind step %d and a crash of %d, %d: %q, %d, want %q", i, moves, keep, b, e, appended[:want])
				}
			}
		}
	}
}

// TestOneOrTheOther: behind a rename and a crash the name leads to the elder file, or to the newer one, each of them whole; that behind a SyncDir.
func TestOneOrTheOther(t *testing.T) {
	d := behind(t, empty(t, 100), call{kind: create, name: "a"}, call{kind: extend, name: "a", b: []byte("elder")}, call{kind: sync, name: "a"}, call{kind: syncDir})
	d = behind(t, d, call{kind: create, name: "tmp"}, call{kind: extend, name: "tmp", b: []byte("newer one")}, call{kind: sync, name: "tmp"})
	d = behind(t, d, call{kind: rename, name: "tmp", to: "a"})
	for keep := -1; keep <= 10; keep++ {
		keeps := []api.Keep{{ID: 1, Bytes: keep}, {ID: 2, Bytes: keep}}
		for moves, want := range []string{"elder", "elder", "newer one", "newer one"} {
			holds(t, behind(t, d, call{kind: crash, moves: moves, keeps: keeps}), "a", want)
			holds(t, behind(t, d, call{kind: syncDir}, call{kind: crash, moves: moves, keeps: keeps}), "a", "newer one")
		}
	}
	lists(t, behind(t, d, call{kind: crash, moves: 1}), "a", "tmp")
	lists(t, behind(t, d, call{kind: crash, moves: 2}), "a")
	// A rename of what wasn't synced may lead to a beginning of it.
	d = behind(t, d, call{kind: syncDir}, call{kind: create, name: "tmp"}, call{kind: extend, name: "tmp", b: []byte("third")}, call{kind: rename, name: "tmp", to: "a"})
	holds(t, behind(t, d, call{kind: crash, moves: 2}), "a", "")
	holds(t, behind(t, d, call{kind: crash, moves: 2, keeps: []api.Keep{{ID: 3, Bytes: 2}}}), "a", "th")
	holds(t, behind(t, d, call{kind: crash, moves: 1}), "a", "newer one")
}

// A file's bytes are its own: what is handed in to Append may be changed behind it.
func TestAppendedBytesAreCopied(t *testing.T) {
	b := []byte("abc")
	d := behind(t, empty(t, 9), call{kind: create, name: "a"}, call{kind: extend, name: "a", b: b[:2]})
	b[0] = 'x'
	holds(t, d, "a", "ab")
	if !bytes.Equal(b, []byte("xbc")) {
		t.Errorf("b became %q", b)
	}
}
