package disk_test

import (
	"math"
	"math/rand/v2"
	"slices"
	"testing"

	"isobar/api"
	"isobar/disk"
)

// of is a disk of a quota of 9, of empty files of these numbers, and Next behind them.
func of(ids []int, kept []api.Name, moves []api.Move, names []api.Name) api.Disk {
	d := api.Disk{Quota: 9, Kept: kept, Moves: moves, Names: names, Next: 1}
	for _, id := range ids {
		d.Files = append(d.Files, api.File{ID: id})
		d.Next = max(d.Next, id+1)
	}
	return d
}

type (
	ids   = []int
	names = []api.Name
	moves = []api.Move
)

// changed is a disk that a function changes.
func changed(d api.Disk, change func(d *api.Disk)) api.Disk {
	d = twin(d)
	change(&d)
	return d
}

type wrong struct {
	what string
	d    api.Disk
}

// wrongNumbers are disks of which the quota, Next or the files aren't as they must be.
func wrongNumbers(t *testing.T) []wrong {
	one := of(ids{1, 2}, names{{Name: "a", ID: 1}, {Name: "b", ID: 2}}, nil, names{{Name: "a", ID: 1}, {Name: "b", ID: 2}})
	one.Files[0].Bytes, one.Files[0].Sure = []byte("abc"), 2
	more := full(t)
	more.Files = append(more.Files, api.File{ID: 257})
	more.Kept = append(more.Names, api.Name{Name: "more", ID: 257})
	more.Names, more.Moves, more.Next = more.Kept, nil, 258
	list := []wrong{
		{"a disk of zero values", api.Disk{}},
		{"257 files", more},
		{"a file of the number 0", of(ids{0}, names{{Name: "a"}}, nil, names{{Name: "a"}})},
		{"a file of the number -1", of(ids{-1}, names{{Name: "a", ID: -1}}, nil, names{{Name: "a", ID: -1}})},
	}
	for what, change := range map[string]func(d *api.Disk){
		"a quota of -1":                  func(d *api.Disk) { d.Quota, d.Files[0] = -1, api.File{ID: 1} },
		"the least quota":                func(d *api.Disk) { d.Quota, d.Files[0] = math.MinInt, api.File{ID: 1} },
		"a quota of 2^30 + 1":            func(d *api.Disk) { d.Quota = 1<<30 + 1 },
		"the greatest quota":             func(d *api.Disk) { d.Quota = math.MaxInt },
		"a quota of a byte less":         func(d *api.Disk) { d.Quota = 2 },
		"a quota of nothing":             func(d *api.Disk) { d.Quota = 0 },
		"Next of the last number":        func(d *api.Disk) { d.Next = 2 },
		"Next of the first number":       func(d *api.Disk) { d.Next = 1 },
		"Next of 0":                      func(d *api.Disk) { d.Next = 0 },
		"Next above 2^40":                func(d *api.Disk) { d.Next = greatest + 1 },
		"the greatest Next":              func(d *api.Disk) { d.Next = math.MaxInt },
		"no file, and Next of 0":         func(d *api.Disk) { *d = api.Disk{Quota: 9} },
		"no file, and Next of -1":        func(d *api.Disk) { *d = api.Disk{Quota: 9, Next: -1} },
		"no file, and Next above 2^40":   func(d *api.Disk) { *d = api.Disk{Quota: 9, Next: greatest + 1} },
		"no file, and a quota of -1":     func(d *api.Disk) { *d = api.Disk{Quota: -1, Next: 1} },
		"no file, and a quota too great": func(d *api.Disk) { *d = api.Disk{Quota: 1<<30 + 1, Next: 1} },
		"Sure of -1":                     func(d *api.Disk) { d.Files[0].Sure = -1 },
		"the least Sure":                 func(d *api.Disk) { d.Files[0].Sure = math.MinInt },
		"Sure of a byte more":            func(d *api.Disk) { d.Files[0].Sure = 4 },
		"the greatest Sure":              func(d *api.Disk) { d.Files[1].Sure = math.MaxInt },
		"Sure of no bytes":               func(d *api.Disk) { d.Files[1].Sure = 1 },
		"files that fall":                func(d *api.Disk) { slices.Reverse(d.Files) },
		"two files of a number":          func(d *api.Disk) { d.Files = slices.Insert(d.Files, 1, d.Files[0]) },
		"a last file twice":              func(d *api.Disk) { d.Files = append(d.Files, d.Files[1]) },
		"a file that no list has":        func(d *api.Disk) { d.Files, d.Next = append(d.Files, api.File{ID: 3}), 4 },
		"no file for a name":             func(d *api.Disk) { d.Files = d.Files[:1] },
		"no file for the first name":     func(d *api.Disk) { d.Files = d.Files[1:] },
		"no file for any name":           func(d *api.Disk) { d.Files = nil },
	} {
		list = append(list, wrong{what, changed(one, change)})
	}
	return list
}

// wrongNames are disks of which Kept or Names aren't as they must be.
func wrongNames() []wrong {
	a, b, c := api.Name{Name: "a", ID: 1}, api.Name{Name: "b", ID: 2}, api.Name{Name: "c", ID: 3}
	list := []wrong{
		{"names that fall", of(ids{1, 2}, names{b, a}, nil, names{b, a})},
		{"Kept that falls", of(ids{1, 2}, names{b, a}, nil, names{a, b})},
		{"Names that fall", of(ids{1, 2}, names{a, b}, nil, names{b, a})},
		{"a name twice", of(ids{1, 2}, names{a, {Name: "a", ID: 2}}, nil, names{a, {Name: "a", ID: 2}})},
		{"a name twice, for one file", of(ids{1}, names{a, a}, nil, names{a, a})},
		{"two names of a number", of(ids{1}, names{a, {Name: "b", ID: 1}}, nil, names{a, {Name: "b", ID: 1}})},
		{"two names of a number, a file beside", of(ids{1, 2}, names{a, {Name: "b", ID: 1}}, nil, names{a, {Name: "b", ID: 1}})},
		{"a name of no file", of(ids{1}, names{a, b}, nil, names{a, b})},
		{"a name of another file", of(ids{1, 3}, names{a, b}, nil, names{a, b})},
		{"names where no file is", of(nil, names{a}, nil, names{a})},
		{"a name too few", of(ids{1, 2}, names{a, b}, nil, names{a})},
		{"no Names", of(ids{1, 2}, names{a, b}, nil, nil)},
		{"no Kept", of(ids{1, 2}, nil, nil, names{a, b})},
		{"a name too many", of(ids{1, 2}, names{a}, nil, names{a, b})},
		{"a name too many, of no file", of(ids{1, 2}, names{a, b}, nil, names{a, b, c})},
		{"another name", of(ids{1, 2}, names{a, b}, nil, names{a, {Name: "c", ID: 2}})},
		{"another number", of(ids{1, 2}, names{a, b}, nil, names{{Name: "a", ID: 2}, {Name: "b", ID: 1}})},
		{"Names as they are kept", of(ids{1}, names{a}, moves{{Kind: 2, Name: "a"}}, names{a})},
		{"Kept as Names are", of(ids{1, 2}, nil, moves{{Kind: 2, Name: "a"}}, nil)},
	}
	for _, name := range badNames {
		l := names{{Name: name, ID: 1}}
		list = append(list, wrong{"a name that may not be", of(ids{1}, l, nil, l)},
			wrong{"a name that may not be, and goes", of(ids{1}, l, moves{{Kind: 2, Name: name}}, nil)},
			wrong{"a name that may not be, and becomes another", of(ids{1}, l, moves{{Kind: 3, Name: name, To: "a"}}, names{a})})
	}
	return list
}

// wrongMoves are disks of which a move can't be done.
func wrongMoves() []wrong {
	a, b, c := api.Name{Name: "a", ID: 1}, api.Name{Name: "b", ID: 2}, api.Name{Name: "c", ID: 3}
	ab, both := names{a, b}, ids{1, 2}
	list := []wrong{
		{"a DirAdd of a name that is there", of(both, names{a}, moves{{Kind: 1, Name: "a", ID: 2}}, names{{Name: "a", ID: 2}})},
		{"a DirAdd of a name that is there, undone", of(both, names{a}, moves{{Kind: 1, Name: "a", ID: 2}}, names{a})},
		{"a DirAdd of a name that is there, twice", of(both, names{a}, moves{{Kind: 1, Name: "a", ID: 2}}, names{{Name: "a", ID: 2}, a})},
		{"a DirAdd of a name that a move brought", of(both, nil, moves{{Kind: 1, Name: "a", ID: 1}, {Kind: 1, Name: "a", ID: 2}}, names{{Name: "a", ID: 2}})},
		{"a DirAdd with To", of(ids{1}, nil, moves{{Kind: 1, Name: "a", To: "b", ID: 1}}, names{a})},
		{"a DirAdd of a number that is kept", of(ids{1}, names{a}, moves{{Kind: 1, Name: "b", ID: 1}}, names{a, {Name: "b", ID: 1}})},
		{"a DirAdd of a number whose name went", of(ids{1}, names{a}, moves{{Kind: 2, Name: "a"}, {Kind: 1, Name: "a", ID: 1}}, names{a})},
		{"a DirAdd of a number that gave way", of(both, ab, moves{{Kind: 3, Name: "a", To: "b"}, {Kind: 1, Name: "c", ID: 2}}, names{{Name: "b", ID: 1}, {Name: "c", ID: 2}})},
		{"a DirAdd of a number that a move brought", of(ids{1}, nil, moves{{Kind: 1, Name: "a", ID: 1}, {Kind: 1, Name: "b", ID: 1}}, names{a, {Name: "b", ID: 1}})},
		{"a DirAdd of a number that only a list between had", of(ids{1}, nil, moves{{Kind: 1, Name: "a", ID: 1}, {Kind: 2, Name: "a"}, {Kind: 1, Name: "a", ID: 1}}, names{a})},
		{"a DirAdd of no number", of(nil, nil, moves{{Kind: 1, Name: "a"}}, names{{Name: "a"}})},
		{"a DirAdd of a number of no file", of(ids{1, 3}, names{a, c}, moves{{Kind: 1, Name: "b", ID: 2}}, names{a, b, c})},
		{"a DirAdd of a number of no file, gone again", of(ids{1, 3}, names{a, c}, moves{{Kind: 1, Name: "b", ID: 2}, {Kind: 2, Name: "b"}}, names{a, c})},
		{"a DirDrop of a name that isn't there", of(both, ab, moves{{Kind: 2, Name: "c"}}, ab)},
		{"a DirDrop of a name that isn't there, ahead of others", of(both, ab, moves{{Kind: 2, Name: ""}}, names{b})},
		{"a DirDrop of a name that went", of(both, ab, moves{{Kind: 2, Name: "a"}, {Kind: 2, Name: "a"}}, names{b})},
		{"a DirDrop with To", of(both, ab, moves{{Kind: 2, Name: "a", To: "c"}}, names{b})},
		{"a DirDrop with a number", of(both, ab, moves{{Kind: 2, Name: "a", ID: 1}}, names{b})},
		{"a DirRename of a name that isn't there", of(both, ab, moves{{Kind: 3, Name: "c", To: "d"}}, ab)},
		{"a DirRename of a name that isn't there, to one that is", of(both, ab, moves{{Kind: 3, Name: "0", To: "b"}}, names{{Name: "b", ID: 1}})},
		{"a DirRename of a name that became another", of(ids{1}, names{a}, moves{{Kind: 3, Name: "a", To: "b"}, {Kind: 3, Name: "a", To: "b"}}, names{{Name: "b", ID: 1}})},
		{"a DirRename to itself", of(both, ab, moves{{Kind: 3, Name: "a", To: "a"}}, ab)},
		{"a DirRename with a number", of(ids{1}, names{a}, moves{{Kind: 3, Name: "a", To: "b", ID: 1}}, names{{Name: "b", ID: 1}})},
		{"a DirRename that leaves the name", of(ids{1}, names{a}, moves{{Kind: 3, Name: "a", To: "b"}}, names{a, {Name: "b", ID: 1}})},
		{"a move that wasn't done", of(both, ab, moves{{Kind: 3, Name: "a", To: "b"}}, ab)},
		{"moves that can't be done in this order", of(both, names{a}, moves{{Kind: 3, Name: "b", To: "c"}, {Kind: 1, Name: "b", ID: 2}}, names{a, {Name: "c", ID: 2}})},
	}
	for _, name := range badNames {
		list = append(list, wrong{"a DirAdd of a name that may not be", of(ids{1}, nil, moves{{Kind: 1, Name: name, ID: 1}}, names{{Name: name, ID: 1}})},
			wrong{"a DirAdd of a name that may not be, gone again", of(ids{1}, nil, moves{{Kind: 1, Name: name, ID: 1}, {Kind: 2, Name: name}}, nil)},
			wrong{"a DirRename to a name that may not be", of(ids{1}, names{a}, moves{{Kind: 3, Name: "a", To: name}}, names{{Name: name, ID: 1}})})
	}
	// Other kinds than the three are none, whatever one takes them for.
	for _, kind := range []int{0, -1, 4, 5, math.MinInt, math.MaxInt} {
		list = append(list, wrong{"another kind, as if it were nothing", of(both, ab, moves{{Kind: kind, Name: "a"}}, ab)},
			wrong{"another kind, of no fields", of(both, ab, moves{{Kind: kind}}, ab)},
			wrong{"another kind, as if it were a DirAdd", of(both, names{a}, moves{{Kind: kind, Name: "b", ID: 2}}, ab)},
			wrong{"another kind, as if it were a DirDrop", of(both, ab, moves{{Kind: kind, Name: "a"}}, names{b})},
			wrong{"another kind, as if it were a DirRename", of(both, ab, moves{{Kind: kind, Name: "a", To: "b"}}, names{{Name: "b", ID: 1}})})
	}
	return list
}

// calls are of each kind, as they may be where the disk is right, and as they may not be even then.
var calls = []call{
	{kind: create, name: "new"}, {kind: create, name: "a"}, {kind: create}, {kind: create, name: "f\x07"},
	{kind: extend, name: "a", b: []byte("x")}, {kind: extend, name: "a"}, {kind: extend, name: "a", b: make([]byte, 2000)}, {kind: extend, name: "new"}, {kind: extend},
	{kind: sync, name: "a"}, {kind: sync, name: "new"}, {kind: sync},
	{kind: syncDir},
	{kind: rename, name: "a", to: "new"}, {kind: rename, name: "a", to: "b"}, {kind: rename, name: "a", to: "a"}, {kind: rename, name: "new", to: "a"}, {kind: rename},
	{kind: remove, name: "a"}, {kind: remove, name: "b"}, {kind: remove, name: "new"}, {kind: remove},
	{kind: crash}, {kind: crash, moves: -1}, {kind: crash, moves: 1}, {kind: crash, moves: 99, keeps: []api.Keep{{ID: 1, Bytes: 1}}},
}

// TestWrongDisks: none of them is right; each call answers ErrArg, and the disk as it was.
func TestWrongDisks(t *testing.T) {
	for _, w := range slices.Concat(wrongNumbers(t), wrongNames(), wrongMoves()) {
		if _, ok := plainOf(w.d); ok || disk.Right(w.d) {
			t.Errorf("%s: Right is %v, by the words %v: %v", w.what, disk.Right(w.d), ok, w.d)
		}
		for _, c := range calls {
			denied(t, w.d, c, api.ErrArg)
		}
		for _, name := range []string{"a", "b", "new", ""} {
			if b, e := disk.Read(w.d, name); e != api.ErrArg || len(b) != 0 {
				t.Errorf("%s: Read of %q = %q, %d", w.what, name, b, e)
			}
		}
		if l, e := disk.List(w.d); e != api.ErrArg || len(l) != 0 {
			t.Errorf("%s: List = %q, %d", w.what, l, e)
		}
		if got := disk.Used(w.d); got != used(w.d) {
			t.Errorf("%s: Used = %d", w.what, got)
		}
	}
}

// TestRightDisks are such as no calls make, but the words let be.
func TestRightDisks(t *testing.T) {
	a, b := api.Name{Name: "a", ID: 1}, api.Name{Name: "b", ID: 2}
	apart := of(ids{5, 900}, names{{Name: "a", ID: 900}}, moves{{Kind: 1, Name: "0", ID: 5}}, names{{Name: "0", ID: 5}, {Name: "a", ID: 900}})
	apart.Next = greatest
	elder := of(ids{1, 2}, names{b}, moves{{Kind: 1, Name: "a", ID: 1}}, names{a, b})
	for _, d := range []api.Disk{
		{Next: 1}, {Next: greatest, Quota: 1 << 30},
		{Next: 1, Files: []api.File{}, Names: names{}, Kept: names{}, Moves: moves{}},
		apart, elder, rich(t), full(t), of(ids{1}, names{a}, nil, names{a}),
		of(ids{1}, names{a}, moves{{Kind: 2, Name: "a"}}, nil),
		of(ids{1}, nil, moves{{Kind: 1, Name: "a", ID: 1}, {Kind: 2, Name: "a"}}, nil),
		of(ids{1, 2}, names{a, b}, moves{{Kind: 3, Name: "b", To: "a"}, {Kind: 3, Name: "a", To: "b"}}, names{b}),
	} {
		if _, ok := plainOf(d); !ok || !disk.Right(d) {
			t.Errorf("Right is %v, by the words %v: %v", disk.Right(d), ok, d)
		}
		for _, c := range calls {
			compare(t, d, c)
		}
	}
}

// pick is one of a list.
func pick[T any](r *rand.Rand, l ...T) T { return l[r.IntN(len(l))] }

// spoilt is a disk of which something is changed, so that it may be right still or not.
func spoilt(r *rand.Rand, d api.Disk) api.Disk {
	d = twin(d)
	switch r.IntN(5) {
	case 0:
		d.Quota = pick(r, -1, 0, used(d)-1, used(d), used(d)+1, 1<<30, 1<<30+1)
	case 1:
		d.Next = pick(r, -1, 0, 1, d.Next-1, d.Next+1, greatest, greatest+1)
	case 2:
		d.Files = spoiltList(r, d.Files, func(f *api.File) {
			f.ID += pick(r, 0, 0, 1, -1, 100)
			f.Sure = pick(r, f.Sure, 0, -1, len(f.Bytes), len(f.Bytes)+1)
		})
	case 3:
		l := pick(r, &d.Names, &d.Kept)
		*l = spoiltList(r, *l, func(n *api.Name) {
			n.Name = pick(r, n.Name, n.Name, "", "a", "b", "c", text(96), text(97))
			n.ID += pick(r, 0, 0, 1, -1)
		})
	case 4:
		d.Moves = spoiltList(r, d.Moves, func(m *api.Move) {
			m.Kind += pick(r, 0, 0, 1, -1, 3)
			m.Name = pick(r, m.Name, m.Name, m.Name, "", "a", "b", "c", text(97))
			m.To = pick(r, m.To, m.To, m.To, "", "a", "b", "c", text(97))
			m.ID += pick(r, 0, 0, 0, 1, -1)
		})
	}
	return d
}

// spoiltList is a list that has one less, one twice, two the other way round, or one that is changed.
func spoiltList[T any](r *rand.Rand, l []T, change func(*T)) []T {
	if len(l) == 0 {
		return l
	}
	at, other := r.IntN(len(l)), r.IntN(len(l))
	switch r.IntN(5) {
	case 0:
		return slices.Delete(l, at, at+1)
	case 1:
		return slices.Insert(l, other, l[at])
	case 2:
		l[at], l[other] = l[other], l[at]
	default:
		change(&l[at])
	}
	return l
}

// TestSpoiltDisks: Right says of disks that were changed at random what the words say, and the calls go by it.
func TestSpoiltDisks(t *testing.T) {
	r := rand.New(rand.NewPCG(71, 72))
	count := map[bool]int{}
	for range 400 {
		d := walked(t, r, 10)
		for range 40 {
			x := spoilt(r, d)
			_, want := plainOf(x)
			count[want]++
			if got := disk.Right(x); got != want {
				t.Fatalf("Right = %v, by the words %v: %v", got, want, x)
			}
			if !want {
				denied(t, x, pick(r, calls...), api.ErrArg)
			}
		}
	}
	if count[true] < 1000 || count[false] < 1000 {
		t.Errorf("too few of a kind: %v", count)
	}
}
