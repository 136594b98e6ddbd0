package segment_test

import (
	"bytes"
	"encoding/binary"
	"math"
	"math/rand/v2"
	"slices"
	"strings"
	"testing"

	"isobar/api"
	"isobar/segment"
)

// bases are right records of each kind, and one of none.
func bases() []api.Record {
	return []api.Record{head(), shortest(), longest(), point(60, 61, 1500000), point(0, 0, 0), slot(3, 9, -5), slot(0, 0, 0), {}}
}

// refuses holds each call that takes records to its refusal of one that isn't right.
func refuses(t *testing.T, r api.Record) {
	t.Helper()
	if holds(t, r) {
		t.Fatalf("%s is not to be right", brief(r))
	}
	for _, list := range [][]api.Record{{r}, {point(1, 2, 3), r}, {r, slot(1, 2, 3)}, {slot(1, 2, 3), r, point(1, 2, 3)}} {
		if writes(t, head(), list) {
			t.Fatalf("%s is not to be written", brief(list))
		}
	}
	if writes(t, r, []api.Record{point(1, 2, 3)}) {
		t.Fatalf("%s is not to be written as a head", brief(r))
	}
}

// TestChanges: each field of each kind's records at its edges, one beyond, far beyond, and where its kind wants it to be zero.
func TestChanges(t *testing.T) {
	for _, base := range bases() {
		for _, set := range changes() {
			r := base
			r.Rungs = slices.Clone(base.Rungs)
			set(&r)
			if !holds(t, r) {
				refuses(t, r)
			}
		}
	}
}

// TestPairsOfChanges: two fields at once, by a fixed seed.
func TestPairsOfChanges(t *testing.T) {
	r := rand.New(rand.NewPCG(87, 88))
	sets := changes()
	for range 20000 {
		rec := bases()[r.IntN(len(bases()))]
		sets[r.IntN(len(sets))](&rec)
		sets[r.IntN(len(sets))](&rec)
		holds(t, rec)
	}
}

// headWith is a right head but for what is done to it.
func headWith(set change) api.Record {
	h := head()
	set(&h)
	return h
}

// TestOneBeyond: each field one beyond what may be, by name.
func TestOneBeyond(t *testing.T) {
	for _, r := range []api.Record{
		headWith(func(r *api.Record) { r.Path = "" }),
		headWith(func(r *api.Record) { r.Path = strings.Repeat("a", 264) }),
		headWith(func(r *api.Record) { r.Method = 0 }),
		headWith(func(r *api.Record) { r.Method = 6 }),
		headWith(func(r *api.Record) { r.Factor = -1 }),
		headWith(func(r *api.Record) { r.Factor = 1000001 }),
		headWith(func(r *api.Record) { r.Rungs = nil }),
		headWith(func(r *api.Record) { r.Rungs = []api.Rung{} }),
		headWith(func(r *api.Record) { r.Rungs = rungs(5, 60, 10) }),
		headWith(func(r *api.Record) { r.Rungs[0].Step = 0 }),
		headWith(func(r *api.Record) { r.Rungs[1].Step = 0 }),
		headWith(func(r *api.Record) { r.Rungs[0].Step = 86401 }),
		headWith(func(r *api.Record) { r.Rungs[1].Step = 86401 }),
		headWith(func(r *api.Record) { r.Rungs[0].Count = 0 }),
		headWith(func(r *api.Record) { r.Rungs[1].Count = 0 }),
		headWith(func(r *api.Record) { r.Rungs[0].Count = 401 }),
		headWith(func(r *api.Record) { r.Rungs[1].Count = 401 }),
		point(-1, 0, 0), point(latest+1, 0, 0), point(0, -1, 0), point(0, latest+1, 0), point(0, 0, math.MinInt64),
		slot(-1, 0, 0), slot(4, 0, 0), slot(0, -1, 0), slot(0, latest+1, 0), slot(0, 0, math.MinInt64),
	} {
		refuses(t, r)
	}
}

// TestFieldsOfOtherKinds: one that isn't zero is refused, even where its own kind would take it.
func TestFieldsOfOtherKinds(t *testing.T) {
	for _, set := range []change{
		func(r *api.Record) { r.Rung = 1 },
		func(r *api.Record) { r.Rung = -1 },
		func(r *api.Record) { r.Time = 1 },
		func(r *api.Record) { r.Time = -1 },
		func(r *api.Record) { r.Now = 1 },
		func(r *api.Record) { r.Now = -1 },
		func(r *api.Record) { r.Value = 1 },
		func(r *api.Record) { r.Value = -1 },
	} {
		refuses(t, headWith(set))
	}
	for _, set := range []change{
		func(r *api.Record) { r.Path = "a" },
		func(r *api.Record) { r.Path = "\x00" },
		func(r *api.Record) { r.Method = 1 },
		func(r *api.Record) { r.Method = -1 },
		func(r *api.Record) { r.Factor = 1 },
		func(r *api.Record) { r.Factor = -1 },
		func(r *api.Record) { r.Rungs = rungs(1, 1, 1) },
		func(r *api.Record) { r.Rungs = []api.Rung{{}} },
	} {
		p, s := point(1, 2, 3), slot(1, 2, 3)
		set(&p)
		set(&s)
		refuses(t, p)
		refuses(t, s)
	}
	p, s := point(1, 2, 3), slot(1, 2, 3)
	p.Rung, s.Now = 1, 1
	refuses(t, p)
	refuses(t, s)
	p.Rung, s.Now = -1, -1
	refuses(t, p)
	refuses(t, s)
}

// TestKinds: only 1, 2 and 3 are any; of another kind no record is right, whatever its fields.
func TestKinds(t *testing.T) {
	for _, kind := range []int{0, 4, 5, -1, -2, -3, 255, 256, 257, 258, 259, 1 + 1<<16, 2 + 1<<32, 3 - 256, math.MaxInt64, math.MinInt64, math.MinInt64 + 2} {
		for _, r := range []api.Record{head(), point(1, 2, 3), slot(1, 2, 3), point(0, 0, 0), {}} {
			r.Kind = kind
			refuses(t, r)
		}
	}
	// A record of one kind's fields isn't right as another kind.
	for _, c := range []struct {
		r    api.Record
		kind int
	}{{head(), 2}, {head(), 3}, {point(1, 2, 3), 1}, {point(1, 2, 3), 3}, {slot(1, 2, 3), 1}, {slot(1, 2, 3), 2}, {api.Record{}, 1}} {
		c.r.Kind = c.kind
		refuses(t, c.r)
	}
}

// TestWriteOfWrong: a head that is none, and heads in the list.
func TestWriteOfWrong(t *testing.T) {
	p, s, h := point(1, 2, 3), slot(1, 2, 3), head()
	wrong := point(-1, 2, 3)
	for _, w := range []whole{
		{p, nil}, {s, nil}, {api.Record{}, nil}, {p, []api.Record{p}}, {s, []api.Record{h}}, {p, []api.Record{s, h}},
		{h, []api.Record{h}}, {h, []api.Record{p, h}}, {h, []api.Record{h, p}}, {h, []api.Record{p, shortest(), s}}, {h, []api.Record{longest()}},
		{h, []api.Record{wrong}}, {h, []api.Record{p, wrong}}, {h, []api.Record{wrong, p}}, {h, []api.Record{p, {}, s}},
		{headWith(func(r *api.Record) { r.Path = "" }), nil}, {headWith(func(r *api.Record) { r.Time = 1 }), []api.Record{p}},
		{h, []api.Record{headWith(func(r *api.Record) { r.Path = "" })}},
	} {
		if writes(t, w.head, w.list) {
			t.Errorf("%s is not to be written", brief(w))
		}
	}
	list := slices.Repeat([]api.Record{p}, 50)
	for i := range list {
		for _, r := range []api.Record{h, wrong} {
			other := slices.Clone(list)
			other[i] = r
			if b, e := segment.Write(h, other); e != api.ErrArg || len(b) != 0 {
				t.Errorf("Write with a wrong record at %d = %s, %d", i, brief(b), e)
			}
		}
	}
}

// takesNot holds Take of bytes to its refusal.
func takesNot(t *testing.T, p []byte) {
	t.Helper()
	if takes(t, p) {
		t.Fatalf("%s is not to be taken", brief(p))
	}
}

// TestTakeOfLengths: a byte less or more at a payload's end, or any number of them.
func TestTakeOfLengths(t *testing.T) {
	takesNot(t, nil)
	takesNot(t, []byte{})
	for _, r := range append(heads(), point(60, 61, 1500000), point(0, 0, 0), slot(3, 9, -5), slot(0, 0, 0)) {
		p := laid(r)
		for n := range p {
			takesNot(t, p[:n])
		}
		for _, more := range [][]byte{{0}, {1}, {255}, {0, 0}, make([]byte, 6), {60, 0, 0, 0, 10, 0}, make([]byte, 600), p} {
			takesNot(t, slices.Concat(p, more))
		}
	}
	for n := range 600 {
		for kind := range 6 {
			p := make([]byte, n)
			if n > 0 {
				p[0] = byte(kind)
			}
			takes(t, p)
		}
	}
}

// TestTakeOfBytes: each byte of a payload at each that it may have; what is right then is taken.
func TestTakeOfBytes(t *testing.T) {
	for _, r := range append(bases()[:7], point(latest, latest, -1), slot(1, latest, math.MaxInt64), point(1, 1, -math.MaxInt64)) {
		p := laid(r)
		for at := range p {
			for c := range 256 {
				other := bytes.Clone(p)
				other[at] = byte(c)
				takes(t, other)
			}
		}
	}
	for a := range 256 {
		takesNot(t, []byte{byte(a)})
		for b := range 256 {
			takesNot(t, []byte{byte(a), byte(b)})
		}
	}
}

// TestTakeOfKinds: a payload of each kind, as another one.
func TestTakeOfKinds(t *testing.T) {
	for _, r := range []api.Record{head(), point(1, 2, 3), slot(1, 2, 3)} {
		for kind := range 256 {
			if kind != r.Kind {
				takesNot(t, append([]byte{byte(kind)}, laid(r)[1:]...))
			}
		}
	}
}

// TestTakeOfLengthsBeyond: a path's length and a count of rungs that the bytes there are don't bear out.
func TestTakeOfLengthsBeyond(t *testing.T) {
	for _, h := range []api.Record{head(), shortest(), longest()} {
		p, n := laid(h), len(h.Path)
		for _, length := range []int{0, 1, n - 1, n + 1, n + 5, n + 6, n + 7, len(p) - 3, len(p), 263, 264, 300, 512, 65535} {
			other := bytes.Clone(p)
			binary.LittleEndian.PutUint16(other[1:], uint16(length))
			if length != n {
				takesNot(t, other)
			}
		}
		for count := range 256 {
			other := bytes.Clone(p)
			other[3+n+5] = byte(count)
			if count != len(h.Rungs) {
				takesNot(t, other)
			}
		}
	}
	// As many rungs as the count says are there, but may not be.
	for _, n := range []int{0, 5, 6, 255} {
		takesNot(t, laid(headWith(func(r *api.Record) { r.Rungs = rungs(n, 60, 10) })))
	}
	for _, n := range []int{0, 264, 300, 65535} {
		takesNot(t, laid(headWith(func(r *api.Record) { r.Path = strings.Repeat("a", n) })))
	}
}

// TestTakeOfFields: a payload whose fields may not be, each one beyond, and at the most that its bytes tell.
func TestTakeOfFields(t *testing.T) {
	for _, r := range []api.Record{
		headWith(func(r *api.Record) { r.Method = 0 }),
		headWith(func(r *api.Record) { r.Method = 6 }),
		headWith(func(r *api.Record) { r.Method = 255 }),
		headWith(func(r *api.Record) { r.Factor = 1000001 }),
		headWith(func(r *api.Record) { r.Factor = 1 << 31 }),
		headWith(func(r *api.Record) { r.Factor = math.MaxUint32 }),
		headWith(func(r *api.Record) { r.Rungs[0].Step = 0 }),
		headWith(func(r *api.Record) { r.Rungs[1].Step = 86401 }),
		headWith(func(r *api.Record) { r.Rungs[0].Step = 1 << 31 }),
		headWith(func(r *api.Record) { r.Rungs[1].Step = math.MaxUint32 }),
		headWith(func(r *api.Record) { r.Rungs[1].Count = 0 }),
		headWith(func(r *api.Record) { r.Rungs[0].Count = 401 }),
		headWith(func(r *api.Record) { r.Rungs[1].Count = math.MaxUint16 }),
		point(latest+1, 0, 0), point(0, latest+1, 0), point(-1, 0, 0), point(0, -1, 0), point(math.MinInt64, 0, 0), point(0, math.MaxInt64, 0), point(0, 0, math.MinInt64),
		slot(4, 0, 0), slot(255, 0, 0), slot(0, latest+1, 0), slot(0, -1, 0), slot(0, math.MinInt64, 0), slot(0, 0, math.MinInt64),
	} {
		takesNot(t, laid(r))
	}
}

// TestScanOfNoHead: no bytes, points and slots first, and a head's frame that is torn, changed, or not at the beginning.
func TestScanOfNoHead(t *testing.T) {
	scansNot(t, nil)
	scansNot(t, []byte{})
	rest := written(point(1, 2, 3), slot(1, 2, 3))
	for _, r := range []api.Record{point(1, 2, 3), slot(1, 2, 3)} {
		scansNot(t, written(r))
		scansNot(t, written(r, head()))
		scansNot(t, written(r, r, r))
	}
	for _, tail := range tails() {
		if list, _ := records(tail); len(list) == 0 {
			scansNot(t, tail)
			scansNot(t, slices.Concat(tail, written(head()), rest))
		}
	}
	for _, h := range []api.Record{head(), shortest(), longest()} {
		b := written(h)
		for n := range b {
			scansNot(t, b[:n])
			scansNot(t, slices.Concat(b[:n], rest))
			scansNot(t, b[n+1:])
			other := bytes.Clone(b)
			other[n] ^= 1 << (n % 8)
			scansNot(t, other)
			scansNot(t, slices.Concat(other, rest))
		}
	}
	for _, set := range changes() {
		if h := headWith(set); !right(h) && len(laid(h)) <= 512 {
			scansAsSaid(t, slices.Concat(framed(laid(h)), rest))
		}
	}
}
