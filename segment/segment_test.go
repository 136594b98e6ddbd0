package segment_test

import (
	"bytes"
	"math"
	"math/rand/v2"
	"slices"
	"strings"
	"testing"

	"isobar/api"
	"isobar/segment"
)

// examples are the chapter's, and payloads and sums that were worked out elsewhere.
func examples() []struct {
	r          api.Record
	p, sum     string
	wholeFrame int
} {
	return []struct {
		r          api.Record
		p, sum     string
		wholeFrame int
	}{
		{point(60, 61, 1500000), "\x02\x3c\x00\x00\x00\x00\x00\x00\x00\x3d\x00\x00\x00\x00\x00\x00\x00\x60\xe3\x16\x00\x00\x00\x00\x00", "\x60\x01\xcb\x75", 31},
		{point(latest, 0, -1), "\x02\x00\x00\x00\x00\x00\x01\x00\x00\x00\x00\x00\x00\x00\x00\x00\x00\xff\xff\xff\xff\xff\xff\xff\xff", "\x90\x91\x1f\x92", 31},
		{slot(3, 9, -5), "\x03\x03\x09\x00\x00\x00\x00\x00\x00\x00\xfb\xff\xff\xff\xff\xff\xff\xff", "\xe2\x62\x64\xc7", 24},
		{slot(0, 0, -math.MaxInt64), "\x03\x00\x00\x00\x00\x00\x00\x00\x00\x00\x01\x00\x00\x00\x00\x00\x00\x80", "\xa5\x19\x38\x72", 24},
		{head(), "\x01\x03\x00a.b\x02\x20\xa1\x07\x00\x02\x3c\x00\x00\x00\x0a\x00\x2c\x01\x00\x00\x90\x01", "\x28\x27\xe5\x90", 30},
	}
}

func TestExamples(t *testing.T) {
	for _, c := range examples() {
		want := slices.Concat([]byte{byte(len(c.p)), 0}, []byte(c.p), []byte(c.sum))
		if !segment.Right(c.r) {
			t.Errorf("Right(%s) = false", brief(c.r))
		}
		if p, e := segment.Put(c.r); e != api.OK || string(p) != c.p {
			t.Errorf("Put(%s) = %s, %d, want % x", brief(c.r), brief(p), e, c.p)
		}
		if r, e := segment.Take([]byte(c.p)); e != api.OK || !same(r, c.r) {
			t.Errorf("Take(% x) = %s, %d, want %s", c.p, brief(r), e, brief(c.r))
		}
		if b, e := segment.Frame(c.r); e != api.OK || !bytes.Equal(b, want) || len(b) != c.wholeFrame {
			t.Errorf("Frame(%s) = %s, %d, want %s", brief(c.r), brief(b), e, brief(want))
		}
	}
}

// TestExampleOfASegment: a whole one, byte by byte.
func TestExampleOfASegment(t *testing.T) {
	var want []byte
	for _, i := range []int{4, 0, 1, 2} {
		c := examples()[i]
		want = slices.Concat(want, []byte{byte(len(c.p)), 0}, []byte(c.p), []byte(c.sum))
	}
	list := []api.Record{point(60, 61, 1500000), point(latest, 0, -1), slot(3, 9, -5)}
	if b, e := segment.Write(head(), list); e != api.OK || !bytes.Equal(b, want) {
		t.Errorf("Write = %s, %d, want %s", brief(b), e, brief(want))
	}
	scans(t, want, head(), list, 30+31+31+24)
	scans(t, want[:30], head(), nil, 30)
	scans(t, want[:30+31+30], head(), list[:1], 30+31)
	scansNot(t, want[:29])
	scansNot(t, want[30:])
}

// TestRightRecords: each field at its least and its greatest, there and back.
func TestRightRecords(t *testing.T) {
	for _, r := range append(heads(), behind()...) {
		if !holds(t, r) {
			t.Fatalf("%s is to be right", brief(r))
		}
		p, _ := segment.Put(r)
		if again, e := segment.Take(p); e != api.OK || !same(again, r) {
			t.Fatalf("%s is taken as %s, %d", brief(r), brief(again), e)
		}
	}
}

// TestLengths: how many bytes payloads have, the longest one 296.
func TestLengths(t *testing.T) {
	for _, c := range []struct {
		r    api.Record
		want int
	}{{shortest(), 16}, {head(), 24}, {longest(), 296}, {point(0, 0, 0), 25}, {slot(0, 0, 0), 18}} {
		p, e := segment.Put(c.r)
		b, e2 := segment.Frame(c.r)
		if e != api.OK || e2 != api.OK || len(p) != c.want || len(b) != c.want+6 {
			t.Errorf("%s: %d bytes, %d, and %d, %d, want %d", brief(c.r), len(p), e, len(b), e2, c.want)
		}
	}
}

// Rungs that hold nothing are zero, whether the list is nil or empty.
func TestEmptyRungs(t *testing.T) {
	for _, r := range []api.Record{point(1, 2, 3), slot(1, 2, 3)} {
		for _, none := range [][]api.Rung{nil, {}, rungs(3, 1, 1)[:0]} {
			r.Rungs = none
			if !holds(t, r) {
				t.Errorf("%s is to be right", brief(r))
			}
		}
	}
}

func TestWrite(t *testing.T) {
	for _, w := range segments() {
		if !writes(t, w.head, w.list) {
			t.Fatalf("%s is to be written", brief(w))
		}
	}
	for _, h := range heads() {
		writes(t, h, []api.Record{point(1, 2, 3), slot(1, 2, 3)})
	}
	writes(t, longest(), behind())
}

// TestThereAndBack: what is written is scanned as it was.
func TestThereAndBack(t *testing.T) {
	for _, w := range append(segments(), whole{longest(), behind()}) {
		b, e := segment.Write(w.head, w.list)
		if e != api.OK {
			t.Fatalf("Write(%s) = %d", brief(w), e)
		}
		scans(t, b, w.head, w.list, len(b))
	}
	for _, h := range heads() {
		b, _ := segment.Write(h, nil)
		scans(t, b, h, nil, len(b))
	}
}

// Records that are very many are written, and scanned, one by one.
func TestVeryMany(t *testing.T) {
	list := slices.Repeat([]api.Record{point(60, 61, 1500000), slot(3, 9, -5)}, 20000)
	b, e := segment.Write(head(), list)
	if e != api.OK || len(b) != 30+20000*(31+24) {
		t.Fatalf("Write of %d records: %d bytes, %d", len(list), len(b), e)
	}
	scans(t, b, head(), list, len(b))
	scans(t, b[:len(b)-1], head(), list[:len(list)-1], len(b)-24)
}

// TestTorn: of each beginning of a segment that has its head just the records that are whole in it are scanned.
func TestTorn(t *testing.T) {
	for _, w := range segments() {
		all := w.all()
		b := written(all...)
		count, size := 0, 0
		for end := 0; end <= len(b); end++ {
			for count < len(all) && size+len(laid(all[count]))+6 <= end {
				size += len(laid(all[count])) + 6
				count++
			}
			if count == 0 {
				scansNot(t, b[:end])
			} else {
				scans(t, b[:end], all[0], all[1:count], size)
			}
		}
	}
}

// tails are bytes at whose beginning no frame of a right point or slot stands.
func tails() [][]byte {
	p := written(point(5, 6, 7))
	spoilt := bytes.Clone(p)
	spoilt[9] ^= 1
	other := bytes.Clone(p)
	other[len(other)-1] ^= 128
	list := [][]byte{
		{0}, {1}, {255}, {0, 0}, {1, 0}, {1, 2, 3}, make([]byte, 40), bytes.Repeat([]byte{255}, 600),
		p[:1], p[:2], p[:30], p[1:], spoilt, other, laid(point(5, 6, 7)),
		written(head()), written(shortest()), written(longest()), written(head())[:29],
	}
	for _, payload := range wrongPayloads() {
		list = append(list, framed(payload))
	}
	return list
}

// wrongPayloads are some that are no right record's, each of which has a frame.
func wrongPayloads() [][]byte {
	list := [][]byte{{0}, {1}, {2}, {3}, {4}, {255}, []byte("a"), []byte("a.b 5 60\n"), make([]byte, 25), make([]byte, 512), framed([]byte("a"))}
	for _, r := range []api.Record{head(), point(5, 6, 7), slot(1, 2, 3)} {
		p := laid(r)
		list = append(list, append(bytes.Clone(p), 0), p[:len(p)-1], p[1:], append([]byte{4}, p[1:]...), append([]byte{0}, p[1:]...), append(p, p...))
	}
	for _, r := range []api.Record{point(-1, 0, 0), point(latest+1, 0, 0), point(0, -1, 0), point(0, latest+1, 0), point(0, 0, math.MinInt64), slot(4, 0, 0), slot(255, 0, 0), slot(0, -1, 0), slot(0, latest+1, 0), slot(0, 0, math.MinInt64)} {
		list = append(list, laid(r))
	}
	return list
}

// TestTails: behind the first place at which no frame of a right record stands nothing is scanned, right ones neither.
func TestTails(t *testing.T) {
	more := written(point(1, 2, 3))
	for _, w := range segments() {
		b := written(w.all()...)
		for _, tail := range tails() {
			scans(t, slices.Concat(b, tail), w.head, w.list, len(b))
			scans(t, slices.Concat(b, tail, more), w.head, w.list, len(b))
			scans(t, slices.Concat(b, tail, b), w.head, w.list, len(b))
		}
	}
}

// TestScanOfSpoilt holds Scan of segments that were spoilt by a fixed seed to the chapter's words.
func TestScanOfSpoilt(t *testing.T) {
	r := rand.New(rand.NewPCG(83, 84))
	for range 15000 {
		scansAsSaid(t, spoilt(r, written(whole{someHead(r), someList(r)}.all()...)))
	}
}

// TestScanOfMixed holds Scan of frames in any order, right records' and others', to the chapter's words.
func TestScanOfMixed(t *testing.T) {
	r := rand.New(rand.NewPCG(85, 86))
	wrong := wrongPayloads()
	for range 5000 {
		var b []byte
		for n := range r.IntN(7) {
			switch k := r.IntN(8); {
			case k == 0 || n == 0 && k < 6:
				b = append(b, written(someHead(r))...)
			case k == 1:
				b = append(b, framed(wrong[r.IntN(len(wrong))])...)
			default:
				b = append(b, written(some(r))...)
			}
		}
		scansAsSaid(t, b)
	}
}

// spoilt are bytes of which some were changed, left out or put in, or an end torn off.
func spoilt(r *rand.Rand, b []byte) []byte {
	b = bytes.Clone(b)
	for range r.IntN(3) {
		at := r.IntN(len(b) + 1)
		switch {
		case r.IntN(3) == 0 || at == len(b):
			b = slices.Insert(b, at, []byte{0, 1, 2, byte(r.Uint32())}[r.IntN(4)])
		case r.IntN(2) == 0:
			b = slices.Delete(b, at, at+1)
		default:
			b[at] = byte(r.Uint32())
		}
	}
	return b[:len(b)-r.IntN(1+len(b)/4)]
}

// Paths that a frame's payload would have room for are too long all the same.
func TestPathsByLength(t *testing.T) {
	for n := range 600 {
		h := head()
		h.Path = strings.Repeat("n", n)
		if ok := holds(t, h); ok != (n >= 1 && n <= 263) {
			t.Errorf("a path of %d bytes: %v", n, ok)
		}
	}
}
