package disk_test

import (
	"bytes"
	"maps"
	"slices"
	"strings"

	"isobar/api"
	"isobar/disk"
)

// plain is a disk as the chapter's words tell it: its files by their numbers, and the directory as it was kept, and as it is behind each move.
type plain struct {
	quota, next int
	files       map[int]api.File
	dirs        []map[string]int
	moves       []api.Move
}

func goodName(s string) bool { return len(s) >= 1 && len(s) <= 96 }

// listed is a directory as a list by rising names.
func listed(dir map[string]int) []api.Name {
	var l []api.Name
	for _, s := range slices.Sorted(maps.Keys(dir)) {
		l = append(l, api.Name{Name: s, ID: dir[s]})
	}
	return l
}

// last is the directory as it is.
func (p *plain) last() map[string]int { return p.dirs[len(p.dirs)-1] }

// ids are the numbers of all the lists so far.
func (p *plain) ids() map[int]bool {
	ids := map[int]bool{}
	for _, dir := range p.dirs {
		for _, id := range dir {
			ids[id] = true
		}
	}
	return ids
}

// move does a move to the directory; false, if it can't be done.
func (p *plain) move(m api.Move) bool {
	dir := maps.Clone(p.last())
	id, there := dir[m.Name]
	switch {
	case !goodName(m.Name) || m.Kind < 1 || m.Kind > 3:
		return false
	case m.Kind == api.DirAdd && (there || m.To != "" || p.ids()[m.ID]):
		return false
	case m.Kind != api.DirAdd && (!there || m.ID != 0):
		return false
	case m.Kind == api.DirDrop && m.To != "":
		return false
	case m.Kind == api.DirRename && (!goodName(m.To) || m.To == m.Name):
		return false
	}
	delete(dir, m.Name)
	switch m.Kind {
	case api.DirAdd:
		dir[m.Name] = m.ID
	case api.DirRename:
		dir[m.To] = id
	}
	p.dirs, p.moves = append(p.dirs, dir), append(p.moves, m)
	return true
}

// plainFiles is a plain disk of the files alone; false, if they, or the numbers of the whole, aren't as they must be.
func plainFiles(d api.Disk) (plain, bool) {
	p := plain{quota: d.Quota, next: d.Next, files: map[int]api.File{}}
	if d.Quota < 0 || d.Quota > 1073741824 || d.Next < 1 || d.Next > 1099511627776 || len(d.Files) > 256 {
		return p, false
	}
	sum := 0
	for i, f := range d.Files {
		sum += len(f.Bytes)
		if f.ID < 1 || f.ID > d.Next-1 || i > 0 && d.Files[i-1].ID >= f.ID || f.Sure < 0 || f.Sure > len(f.Bytes) {
			return p, false
		}
		p.files[f.ID] = f
	}
	return p, sum <= d.Quota
}

// plainOf is a disk by the words, and whether it is right.
func plainOf(d api.Disk) (plain, bool) {
	p, ok := plainFiles(d)
	if !ok {
		return p, false
	}
	kept, owners := map[string]int{}, map[int]bool{}
	for i, n := range d.Kept {
		if !goodName(n.Name) || owners[n.ID] || i > 0 && d.Kept[i-1].Name >= n.Name {
			return p, false
		}
		kept[n.Name], owners[n.ID] = n.ID, true
	}
	p.dirs = []map[string]int{kept}
	for _, m := range d.Moves {
		if !p.move(m) {
			return p, false
		}
	}
	ids := p.ids()
	for id := range ids {
		if _, ok := p.files[id]; !ok {
			return p, false
		}
	}
	return p, len(ids) == len(p.files) && slices.Equal(listed(p.last()), d.Names)
}

// disk is a plain disk as api tells it.
func (p *plain) disk() api.Disk {
	d := api.Disk{Quota: p.quota, Next: p.next, Names: listed(p.last()), Kept: listed(p.dirs[0]), Moves: p.moves}
	for _, id := range slices.Sorted(maps.Keys(p.files)) {
		d.Files = append(d.Files, p.files[id])
	}
	return d
}

// settle makes a directory all that there is.
func (p *plain) settle(dir map[string]int) {
	p.dirs, p.moves = []map[string]int{dir}, nil
	for id := range maps.Clone(p.files) {
		if !p.ids()[id] {
			delete(p.files, id)
		}
	}
}

// used is how many bytes all files have.
func used(d api.Disk) int {
	sum := 0
	for _, f := range d.Files {
		sum += len(f.Bytes)
	}
	return sum
}

// The calls that change a disk.
const (
	create  = "Create"
	extend  = "Append"
	sync    = "Sync"
	syncDir = "SyncDir"
	rename  = "Rename"
	remove  = "Remove"
	crash   = "Crash"
)

// call is one of them, with its arguments.
type call struct {
	kind     string
	name, to string
	b        []byte
	moves    int
	keeps    []api.Keep
}

// made is what a call answers.
func (c call) made(d api.Disk) (api.Disk, api.Errno) {
	switch c.kind {
	case create:
		return disk.Create(d, c.name)
	case extend:
		return disk.Append(d, c.name, c.b)
	case sync:
		return disk.Sync(d, c.name)
	case syncDir:
		return disk.SyncDir(d)
	case rename:
		return disk.Rename(d, c.name, c.to)
	case remove:
		return disk.Remove(d, c.name)
	}
	return disk.Crash(d, c.moves, c.keeps)
}

// refused is the error that a call has to answer, or OK.
func (c call) refused(d api.Disk) api.Errno {
	p, ok := plainOf(d)
	named := c.kind != syncDir && c.kind != crash
	if !ok || named && !goodName(c.name) || c.kind == rename && !goodName(c.to) {
		return api.ErrArg
	}
	_, there := p.last()[c.name]
	switch {
	case !named:
		return api.OK
	case c.kind != create && !there:
		return api.ErrNoFile
	case c.kind == create && there:
		return api.ErrExist
	case c.kind == create && (len(p.files) == 256 || p.next == 1099511627776):
		return api.ErrMany
	case c.kind == extend && used(d)+len(c.b) > d.Quota:
		return api.ErrFull
	}
	return api.OK
}

// defined is what a call has to answer, by the chapter's words.
func (c call) defined(d api.Disk) (api.Disk, api.Errno) {
	if e := c.refused(d); e != api.OK {
		return d, e
	}
	p, _ := plainOf(d)
	f := p.files[p.last()[c.name]]
	switch c.kind {
	case create:
		p.files[p.next] = api.File{ID: p.next}
		p.move(api.Move{Kind: 1, Name: c.name, ID: p.next})
		p.next++
	case extend:
		f.Bytes = slices.Concat(f.Bytes, c.b)
		p.files[f.ID] = f
	case sync:
		f.Sure = len(f.Bytes)
		p.files[f.ID] = f
	case syncDir:
		p.settle(p.last())
	case rename:
		if c.name != c.to {
			p.move(api.Move{Kind: 3, Name: c.name, To: c.to})
		}
	case remove:
		p.move(api.Move{Kind: 2, Name: c.name})
	case crash:
		c.fall(&p)
	}
	return p.disk(), api.OK
}

// fall is what a crash does.
func (c call) fall(p *plain) {
	first := 0
	for first < len(p.moves) && first < c.moves {
		first++
	}
	p.settle(p.dirs[first])
	for id, f := range p.files {
		stay := f.Sure
		if at := slices.IndexFunc(c.keeps, func(k api.Keep) bool { return k.ID == id }); at >= 0 {
			for more := c.keeps[at].Bytes; more > 0 && stay < len(f.Bytes); more-- {
				stay++
			}
		}
		p.files[id] = api.File{ID: id, Bytes: f.Bytes[:stay], Sure: stay}
	}
}

// same: are two disks alike, lists that hold nothing being one?
func same(a, b api.Disk) bool {
	return a.Quota == b.Quota && a.Next == b.Next && slices.Equal(a.Names, b.Names) && slices.Equal(a.Kept, b.Kept) && slices.Equal(a.Moves, b.Moves) &&
		slices.EqualFunc(a.Files, b.Files, func(f, g api.File) bool {
			return f.ID == g.ID && f.Sure == g.Sure && bytes.Equal(f.Bytes, g.Bytes)
		})
}

// twin is a disk of memory of its own.
func twin(d api.Disk) api.Disk {
	d.Files = slices.Clone(d.Files)
	for i := range d.Files {
		d.Files[i].Bytes = bytes.Clone(d.Files[i].Bytes)
	}
	d.Names, d.Kept, d.Moves = slices.Clone(d.Names), slices.Clone(d.Kept), slices.Clone(d.Moves)
	return d
}

// text is n bytes that a name, or a file, may have.
func text(n int) string { return strings.Repeat("x", n) }
