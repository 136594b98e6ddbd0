package disk_test

import (
	"bytes"
	"fmt"
	"math/rand/v2"
	"slices"
	"strings"
	"testing"
	"unsafe"

	"isobar/api"
	"isobar/disk"
)

// compare holds a call to its definition, and its answer to be right if the disk was; it is the disk behind it.
func compare(t *testing.T, d api.Disk, c call) api.Disk {
	t.Helper()
	before := twin(d)
	got, e := c.made(d)
	want, we := c.defined(before)
	if e != we || !same(got, want) {
		t.Fatalf("%v of %v:\ngot  %v, %d\nwant %v, %d", c, before, got, e, want, we)
	}
	if !same(d, before) {
		t.Fatalf("%v changed %v to %v", c, before, d)
	}
	if !disk.Right(got) || disk.Used(got) > got.Quota || disk.Used(got) != used(got) {
		t.Fatalf("%v of %v: not right: %v", c, before, got)
	}
	return got
}

// asked holds Read and List to their definitions.
func asked(t *testing.T, d api.Disk) {
	t.Helper()
	p, _ := plainOf(d)
	lists(t, d, namesOf(listed(p.last()))...)
	for _, name := range walkNames {
		id, there := p.last()[name]
		b, e := disk.Read(d, name)
		if !goodName(name) && e != api.ErrArg || goodName(name) && !there && e != api.ErrNoFile || there && (e != api.OK || !bytes.Equal(b, p.files[id].Bytes)) {
			t.Fatalf("Read of %q = %q, %d: %v", name, b, e, d)
		}
	}
}

func namesOf(l []api.Name) []string {
	var names []string
	for _, n := range l {
		names = append(names, n.Name)
	}
	return names
}

var walkNames = []string{"a", "b", "c", "a.b", "\xff", text(96), "", text(97)}

// step is a call at random; names that may not be are rarer.
func step(r *rand.Rand) call {
	name := func() string { return walkNames[min(r.IntN(8), r.IntN(8))] }
	kind := pick(r, create, create, create, extend, extend, extend, extend, sync, sync, rename, rename, remove, syncDir, crash)
	c := call{kind: kind, name: name()}
	switch kind {
	case extend:
		c.b = []byte(strings.Repeat("x", r.IntN(5)))
		for i := range c.b {
			c.b[i] = byte(r.Uint32())
		}
	case rename:
		c.to = name()
	case crash:
		c = fallen(r)
	}
	return c
}

// fallen is a crash at random.
func fallen(r *rand.Rand) call {
	c := call{kind: crash, moves: r.IntN(9) - 1}
	for range r.IntN(8) {
		c.keeps = append(c.keeps, api.Keep{ID: r.IntN(20), Bytes: r.IntN(8) - 2})
	}
	return c
}

// walked is a disk behind so many calls at random.
func walked(t *testing.T, r *rand.Rand, n int) api.Disk {
	d := empty(t, r.IntN(20))
	for range n {
		d = compare(t, d, step(r))
	}
	return d
}

// TestWalks: each call of long rows of them, and crashes beside, answers as it is defined.
func TestWalks(t *testing.T) {
	r := rand.New(rand.NewPCG(73, 74))
	for range 300 {
		d := empty(t, r.IntN(30))
		for range 80 {
			d = compare(t, d, step(r))
			compare(t, d, fallen(r))
			asked(t, d)
		}
	}
}

// TestAllShortRows: all rows of five calls, of two names and a quota of 2; states that are alike are gone on from once.
func TestAllShortRows(t *testing.T) {
	var all []call
	for _, pair := range [][2]string{{"a", "b"}, {"b", "a"}} {
		name, to := pair[0], pair[1]
		all = append(all, call{kind: create, name: name}, call{kind: extend, name: name, b: []byte(name)}, call{kind: extend, name: name, b: []byte("xy")},
			call{kind: sync, name: name}, call{kind: rename, name: name, to: to}, call{kind: rename, name: name, to: name}, call{kind: remove, name: name})
	}
	all = append(all, call{kind: syncDir})
	for moves := range 3 {
		all = append(all, call{kind: crash, moves: moves}, call{kind: crash, moves: moves, keeps: []api.Keep{{ID: 2, Bytes: 1}, {ID: 1, Bytes: 1}}})
	}
	states := []api.Disk{empty(t, 2)}
	seen := map[string]bool{}
	for range 5 {
		var next []api.Disk
		for _, d := range states {
			for _, c := range all {
				x := compare(t, d, c)
				if key := fmt.Sprint(x); !seen[key] {
					seen[key] = true
					next = append(next, x)
				}
			}
		}
		states = next
	}
	if len(states) < 1000 {
		t.Errorf("only %d states", len(states))
	}
}

// history is what was told of a number's file: all that was appended, and how much of it was synced.
type history struct {
	appended string
	synced   int
}

// note notes what a call that wasn't refused did, by the numbers that names had ahead of it.
func note(h map[int]history, d api.Disk, c call) {
	p, _ := plainOf(d)
	id, there := p.last()[c.name]
	f := h[id]
	switch {
	case c.kind == extend && there:
		f.appended += string(c.b)
	case c.kind == sync && there:
		f.synced = len(f.appended)
	default:
		return
	}
	h[id] = f
}

// untouched are the names that were kept, and that no move speaks of.
func untouched(d api.Disk) []api.Name {
	return slices.DeleteFunc(slices.Clone(d.Kept), func(n api.Name) bool {
		return slices.ContainsFunc(d.Moves, func(m api.Move) bool { return m.Name == n.Name || m.To == n.Name })
	})
}

// TestSureInWalks: in rows without crashes, behind any crash at the end of one, each file that is there has what was synced, and a beginning of what was appended; each name that was kept, and not touched, is there.
func TestSureInWalks(t *testing.T) {
	r := rand.New(rand.NewPCG(75, 76))
	met := 0
	for range 150 {
		d, h := empty(t, 60), map[int]history{}
		for range 40 {
			c := step(r)
			if c.kind == crash {
				continue
			}
			before := d
			x, e := c.made(d)
			if d = x; e == api.OK {
				note(h, before, c)
			}
			fell, _ := fallen(r).made(d)
			for _, n := range fell.Names {
				b, e := disk.Read(fell, n.Name)
				if f := h[n.ID]; e != api.OK || len(b) < f.synced || !strings.HasPrefix(f.appended, string(b)) {
					t.Fatalf("behind a crash %q has %q, %d, of %v", n.Name, b, e, f)
				}
			}
			for _, n := range untouched(d) {
				met++
				if !slices.Contains(fell.Names, n) {
					t.Fatalf("behind a crash %v isn't there: %v", n, fell)
				}
			}
		}
	}
	if met < 1000 {
		t.Errorf("only %d names were kept and not touched", met)
	}
}

// region is where a list lies, its spare room too.
type region struct {
	what     string
	from, to uintptr
}

func regionOf[T any](what string, l []T) region {
	from := uintptr(unsafe.Pointer(unsafe.SliceData(l)))
	var one T
	return region{what, from, from + uintptr(cap(l))*unsafe.Sizeof(one)}
}

// regions are where a disk's lists lie.
func regions(what string, d api.Disk) []region {
	l := []region{regionOf(what+"'s Files", d.Files), regionOf(what+"'s Names", d.Names), regionOf(what+"'s Kept", d.Kept), regionOf(what+"'s Moves", d.Moves)}
	for _, f := range d.Files {
		l = append(l, regionOf(fmt.Sprintf("%s's Bytes of %d", what, f.ID), f.Bytes))
	}
	return l
}

// apart holds that no two regions share a byte.
func apart(t *testing.T, c call, l []region) {
	t.Helper()
	for i, a := range l {
		for _, b := range l[:i] {
			if a.from < b.to && b.from < a.to {
				t.Errorf("%v: %s and %s share memory", c, a.what, b.what)
			}
		}
	}
}

// roomy is a list with spare room that is marked.
func roomy[T any](l []T, mark T) []T {
	if l == nil {
		l = []T{}
	}
	long := append(slices.Clone(l), mark, mark, mark)
	return long[:len(l):len(long)]
}

// roomyDisk is a disk all of whose lists have spare room that is marked.
func roomyDisk(d api.Disk) api.Disk {
	d.Files = slices.Clone(d.Files)
	for i := range d.Files {
		d.Files[i].Bytes = roomy(d.Files[i].Bytes, 0xaa)
	}
	d.Files = roomy(d.Files, api.File{ID: 77, Bytes: []byte("room"), Sure: 4})
	mark := api.Name{Name: "room", ID: 77}
	d.Names, d.Kept, d.Moves = roomy(d.Names, mark), roomy(d.Kept, mark), roomy(d.Moves, api.Move{Kind: 3, Name: "room", To: "more room", ID: 77})
	return d
}

// stretched is a disk with its lists' spare room.
func stretched(d api.Disk) api.Disk {
	d.Files = slices.Clone(d.Files[:cap(d.Files)])
	for i := range d.Files {
		b := d.Files[i].Bytes
		d.Files[i].Bytes = b[:cap(b)]
	}
	d.Names, d.Kept, d.Moves = d.Names[:cap(d.Names)], d.Kept[:cap(d.Kept)], d.Moves[:cap(d.Moves)]
	return d
}

// roomyCalls are calls of each kind, those of which the sample is refused, too.
func roomyCalls() []call {
	return append(slices.Clone(calls),
		call{kind: extend, name: "c", b: roomy([]byte("behind"), 0xbb)}, call{kind: extend, name: "d", b: roomy([]byte{}, 0xbb)},
		call{kind: rename, name: "d", to: "a"}, call{kind: rename, name: "c", to: "e"},
		call{kind: crash, moves: 3, keeps: roomy([]api.Keep{{ID: 2, Bytes: 1}, {ID: 4, Bytes: 1}}, api.Keep{ID: 5, Bytes: 9})},
		call{kind: sync, name: "c"}, call{kind: create, name: "b"})
}

// TestMemory: nothing that is handed in is changed, nor its spare room; answers are new memory, each list of them.
func TestMemory(t *testing.T) {
	wrongOne := rich(t)
	wrongOne.Next = 3
	// Here all lists of names are alike, so that one may be taken for another.
	synced := behind(t, rich(t), call{kind: syncDir})
	for _, sample := range []api.Disk{rich(t), synced, wrongOne} {
		for _, c := range roomyCalls() {
			d := roomyDisk(sample)
			before := twin(stretched(d))
			b, keeps := bytes.Clone(c.b[:cap(c.b)]), slices.Clone(c.keeps[:cap(c.keeps)])
			first, e := c.made(d)
			second, e2 := c.made(d)
			if !same(stretched(d), before) || !bytes.Equal(b, c.b[:cap(c.b)]) || !slices.Equal(keeps, c.keeps[:cap(c.keeps)]) {
				t.Errorf("%v changed what was handed in: %v to %v", c, before, stretched(d))
			}
			if e != e2 || !same(first, second) {
				t.Errorf("%v answers otherwise when it is asked again: %v, %d; %v, %d", c, first, e, second, e2)
			}
			all := slices.Concat(regions("the disk", d), regions("the answer", first), regions("the other answer", second))
			apart(t, c, append(all, regionOf("b", c.b), regionOf("keeps", c.keeps)))
		}
	}
}

func TestMemoryOfReadAndList(t *testing.T) {
	d := roomyDisk(rich(t))
	before := twin(stretched(d))
	for _, name := range []string{"a", "c", "d", "b", ""} {
		first, _ := disk.Read(d, name)
		second, _ := disk.Read(d, name)
		apart(t, call{kind: "Read", name: name}, append(regions("the disk", d), regionOf("the bytes", first), regionOf("the other bytes", second)))
	}
	first, _ := disk.List(d)
	second, _ := disk.List(d)
	apart(t, call{kind: "List"}, append(regions("the disk", d), regionOf("the list", first), regionOf("the other list", second)))
	disk.Right(d)
	disk.Used(d)
	if !same(stretched(d), before) {
		t.Errorf("%v became %v", before, stretched(d))
	}
}

// Lists that are handed in may share memory: an answer's don't.
func TestSharedFiles(t *testing.T) {
	shared := []byte("shared bytes")
	l := names{{Name: "a", ID: 1}, {Name: "b", ID: 2}}
	d := of(ids{1, 2}, l, nil, l)
	d.Quota, d.Files[0].Bytes, d.Files[1].Bytes = 99, shared[:6], shared[:9]
	for _, c := range calls {
		x := compare(t, d, c)
		apart(t, c, append(regions("the answer", x), regionOf("the bytes", shared), regionOf("the names", l)))
	}
	x := behind(t, d, call{kind: extend, name: "a", b: []byte("!")})
	holds(t, x, "a", "shared!")
	holds(t, x, "b", "shared by")
	// Bytes that are a disk's own may be appended to it.
	x = behind(t, d, call{kind: extend, name: "b", b: d.Files[1].Bytes})
	holds(t, x, "b", "shared byshared by")
}
