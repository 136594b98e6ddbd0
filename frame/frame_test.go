package frame_test

import (
	"bytes"
	"math/rand/v2"
	"slices"
	"testing"

	"isobar/api"
	"isobar/frame"
)

// TestExamples: the chapter's, and frames whose sums were worked out elsewhere.
func TestExamples(t *testing.T) {
	a := []byte("\x01\x00a\x65\x21\x88\x56")
	for _, c := range []struct{ p, want []byte }{
		{[]byte("a"), a},
		{[]byte{0}, []byte("\x01\x00\x00\x04\x31\x25\xc5")},
		{[]byte{255}, []byte("\x01\x00\xff\x55\x62\x58\x68")},
		{[]byte("one"), []byte("\x03\x00one\x52\xd7\xb1\x47")},
		{[]byte("123456789"), []byte("\x09\x00123456789\xd5\xde\x7d\xc9")},
		{count(256, 0), slices.Concat([]byte{0, 1}, count(256, 0), []byte("\x0a\x0f\x22\x34"))},
		{make([]byte, 257), slices.Concat([]byte{1, 1}, make([]byte, 257), []byte("\xd5\xdb\x1e\xc2"))},
		{make([]byte, 511), slices.Concat([]byte{255, 1}, make([]byte, 511), []byte("\xc1\xbf\x73\x6f"))},
		{make([]byte, 512), slices.Concat([]byte{0, 2}, make([]byte, 512), []byte("\x6c\x2f\xb9\x5b"))},
		{bytes.Repeat([]byte("a"), 512), slices.Concat([]byte{0, 2}, bytes.Repeat([]byte("a"), 512), []byte("\xb3\x64\x77\x04"))},
	} {
		if b, e := frame.Put(c.p); e != api.OK || !bytes.Equal(b, c.want) {
			t.Errorf("Put(%q) = %q, %d, want %q", c.p, b, e, c.want)
		}
		if p, n, e := frame.Take(c.want); e != api.OK || n != len(c.want) || !bytes.Equal(p, c.p) {
			t.Errorf("Take(%q) = %q, %d, %d, want %q", c.want, p, n, e, c.p)
		}
	}
	cuts(t, append(a, 5), [][]byte{[]byte("a")}, 7)
}

func TestPut(t *testing.T) {
	for _, p := range payloads() {
		puts(t, p)
	}
}

// A length beyond what two bytes tell comes round to one that may be; it is too long all the same.
func TestPutOfLengthsThatMayNotBe(t *testing.T) {
	for _, p := range [][]byte{nil, {}, []byte("abc")[:0]} {
		if b, e := frame.Put(p); e != api.ErrArg || len(b) != 0 {
			t.Errorf("Put of nothing = %q, %d", b, e)
		}
	}
	for _, n := range []int{513, 514, 767, 768, 1000, 1024, 65535, 65536, 65537, 66048, 131073} {
		if b, e := frame.Put(make([]byte, n)); e != api.ErrLong || len(b) != 0 {
			t.Errorf("Put of %d bytes = %q, %d", n, b, e)
		}
	}
}

// TestTake: of a frame to its last byte, and of one with bytes behind it, whatever they are.
func TestTake(t *testing.T) {
	for _, p := range payloads() {
		b := framed(p)
		takes(t, b, api.OK)
		for _, behind := range [][]byte{{0}, {9}, {255, 255, 255}, {0, 0, 0, 0, 0, 0}, framed([]byte("b")), b} {
			takes(t, slices.Concat(b, behind), api.OK)
		}
	}
}

// TestTakeOfEachLength: whichever two bytes stand at the beginning, and however many stand behind them.
func TestTakeOfEachLength(t *testing.T) {
	room := count(3000, 1)
	for first := range 256 {
		takes(t, []byte{byte(first)}, api.ErrShort)
		for second := range 256 {
			n := first + 256*second
			room[0], room[1] = byte(first), byte(second)
			if n == 0 || n > 512 {
				for _, size := range []int{2, 3, 6, 7, 517, 518, 519, len(room)} {
					takes(t, room[:size], api.ErrForm)
				}
				continue
			}
			for _, size := range []int{2, 3, 2 + n - 1, 2 + n, 2 + n + 3} {
				takes(t, room[:size], api.ErrShort)
			}
			takes(t, room[:2+n+4], api.ErrSum)
			takes(t, room, api.ErrSum)
		}
	}
	takes(t, nil, api.ErrShort)
	takes(t, []byte{}, api.ErrShort)
}

// Bytes that have their right sum behind them are no frame where their length may not be.
func TestTakeOfRightSums(t *testing.T) {
	for _, n := range []int{0, 513, 514, 768, 65535} {
		b := framed(make([]byte, n))
		takes(t, b, api.ErrForm)
		takes(t, append(b, framed([]byte("a"))...), api.ErrForm)
		takes(t, b[:2], api.ErrForm)
		cuts(t, b, nil, 0)
	}
}

// TestTakeOfBeginnings: what stands behind the end isn't asked, even where it is the frame's rest.
func TestTakeOfBeginnings(t *testing.T) {
	for _, p := range payloads() {
		b := framed(p)
		step := 1 + len(b)/20
		for n := 0; n < len(b); n += step {
			takes(t, b[:n], api.ErrShort)
		}
		takes(t, b[:len(b)-1], api.ErrShort)
		takes(t, bytes.Clone(b[:len(b)-1]), api.ErrShort)
	}
}

// A sum of the payload alone, one the other way round, one turned or ahead of the payload isn't the frame's; nor is a length whose greater byte comes first.
func TestTakeOfOtherFrames(t *testing.T) {
	for _, p := range [][]byte{[]byte("a"), []byte("one"), {0}, {255, 0}, count(40, 7), count(258, 0), count(512, 1)} {
		b := framed(p)
		n := len(p)
		sum := bytes.Clone(b[2+n:])
		back := bytes.Clone(sum)
		slices.Reverse(back)
		turned := bytes.Clone(sum)
		for i := range turned {
			turned[i] ^= 255
		}
		alone := framed(b[:2+n])[2+2+n:]
		for _, other := range [][]byte{back, turned, alone, {0, 0, 0, 0}, {255, 255, 255, 255}} {
			takes(t, slices.Concat(b[:2+n], other), api.ErrSum)
		}
		takes(t, slices.Concat(b[:2], sum, p), api.ErrSum)
		if b[0] != b[1] {
			otherwise := slices.Concat([]byte{b[1], b[0]}, b[2:])
			if p, size, e := frame.Take(otherwise); e == api.OK || size != 0 || len(p) != 0 {
				t.Errorf("Take(%q) = %q, %d, %d", otherwise, p, size, e)
			}
		}
	}
}

// torn holds that a frame with a byte changed isn't taken, nor cut, also where frames stand ahead and behind.
func torn(t *testing.T, b []byte, at int, c byte) {
	t.Helper()
	other := bytes.Clone(b)
	other[at] ^= c
	takes(t, other, api.ErrSum)
	takes(t, append(other, 1, 0, 'z'), api.ErrSum)
	cuts(t, other, nil, 0)
	ahead, behind := framed([]byte("ahead")), framed([]byte("behind"))
	cuts(t, slices.Concat(ahead, other, behind), [][]byte{[]byte("ahead")}, len(ahead))
}

// TestChanged: a frame isn't taken of which one byte behind the first two, in the payload or in the sum, is another one.
func TestChanged(t *testing.T) {
	for _, p := range [][]byte{[]byte("a"), []byte("one"), {0, 0, 0, 0, 0}, {255, 255}, []byte("a.b 5 60\n")} {
		b := framed(p)
		for at := 2; at < len(b); at++ {
			for c := 1; c < 256; c++ {
				torn(t, b, at, byte(c))
			}
		}
	}
	for _, p := range [][]byte{count(256, 9), make([]byte, 511), count(512, 200)} {
		b := framed(p)
		for at := 2; at < len(b); at++ {
			torn(t, b, at, 1)
			torn(t, b, at, 128)
			torn(t, b, at, byte(1+at%255))
		}
	}
}

// rows are lists of payloads: none, one, many.
func rows() [][][]byte {
	list := [][][]byte{
		nil, {}, {[]byte("a")}, {{0}}, {[]byte("one"), []byte("two"), []byte("x")},
		{[]byte("same"), []byte("same"), []byte("same")},
		{count(512, 0), count(1, 0), count(255, 1), count(256, 2), count(257, 3)},
		{count(1, 1), count(512, 5), count(512, 6)},
		{framed([]byte("a")), []byte("a"), framed(framed([]byte("b")))},
		{make([]byte, 6), make([]byte, 1), make([]byte, 7)},
	}
	r := rand.New(rand.NewPCG(71, 72))
	for range 40 {
		list = append(list, some(r))
	}
	return append(list, payloads())
}

func TestJoin(t *testing.T) {
	for _, list := range rows() {
		joins(t, list)
	}
	for _, list := range [][][]byte{nil, {}} {
		if b, e := frame.Join(list); e != api.OK || len(b) != 0 {
			t.Errorf("Join of no payloads = %q, %d", b, e)
		}
	}
	for _, p := range payloads() {
		b, e := frame.Put(p)
		if l, e2 := frame.Join([][]byte{p}); e2 != e || !bytes.Equal(l, b) {
			t.Fatalf("Join of %s alone = %s, %d, want %s, %d", brief(p), brief(l), e2, brief(b), e)
		}
	}
}

// TestJoinOfLengthsThatMayNotBe: wherever one stands, and of two the first one's error.
func TestJoinOfLengthsThatMayNotBe(t *testing.T) {
	a, none, long := []byte("a"), []byte{}, make([]byte, 513)
	for _, c := range []struct {
		list [][]byte
		want api.Errno
	}{
		{[][]byte{nil}, api.ErrArg},
		{[][]byte{none}, api.ErrArg},
		{[][]byte{long}, api.ErrLong},
		{[][]byte{none, a}, api.ErrArg},
		{[][]byte{a, none}, api.ErrArg},
		{[][]byte{a, nil, a}, api.ErrArg},
		{[][]byte{long, a}, api.ErrLong},
		{[][]byte{a, a, long}, api.ErrLong},
		{[][]byte{none, long}, api.ErrArg},
		{[][]byte{long, none}, api.ErrLong},
		{[][]byte{a, none, a, long, a}, api.ErrArg},
		{[][]byte{a, long, a, none, a}, api.ErrLong},
		{[][]byte{make([]byte, 65537), none}, api.ErrLong},
	} {
		joins(t, c.list)
		if b, e := frame.Join(c.list); e != c.want || len(b) != 0 {
			t.Errorf("Join(%q) = %q, %d, want %d", c.list, b, e, c.want)
		}
	}
}

// TestThereAndBack: what is joined is cut as it was; of each beginning of it just the frames that are whole in it.
func TestThereAndBack(t *testing.T) {
	for _, list := range rows() {
		b, e := frame.Join(list)
		if e != api.OK {
			t.Fatalf("Join(%s) = %d", brief(list), e)
		}
		cuts(t, b, list, len(b))
		step := 1 + len(b)/3000
		for end := 0; end <= len(b); end += step {
			whole, size := 0, 0
			for whole < len(list) && size+2+len(list[whole])+4 <= end {
				size += 2 + len(list[whole]) + 4
				whole++
			}
			cuts(t, b[:end], list[:whole], size)
		}
	}
}

// TestTorn: of frames whose last one lacks bytes, one or more, all others are cut, and nothing else.
func TestTorn(t *testing.T) {
	for _, list := range rows() {
		if len(list) == 0 {
			continue
		}
		b := framedAll(list)
		last := 2 + len(list[len(list)-1]) + 4
		for lacks := 1; lacks <= last; lacks++ {
			cuts(t, bytes.Clone(b[:len(b)-lacks]), list[:len(list)-1], len(b)-last)
		}
	}
}

func TestCut(t *testing.T) {
	cuts(t, nil, nil, 0)
	cuts(t, []byte{}, nil, 0)
	for _, list := range rows() {
		b := framedAll(list)
		for _, behind := range [][]byte{{0}, {1}, {5}, {255}, {0, 0}, {1, 0}, {0, 2}, {1, 2}, {255, 255}, {1, 0, 'a', 0, 0, 0, 0}, framed(nil)} {
			cuts(t, slices.Concat(b, behind), list, len(b))
		}
		// What stands behind a place at which Take errs isn't cut any more.
		for _, between := range [][]byte{{0}, {5}, {0, 0}, {1, 2}, {1, 0, 'a', 0, 0, 0, 0}, framed(nil), framed(make([]byte, 513))} {
			cuts(t, slices.Concat(b, between, framed([]byte("more"))), list, len(b))
			cuts(t, slices.Concat(between, b), nil, 0)
		}
	}
}

// Frames that are very many are cut, and joined, one by one.
func TestVeryMany(t *testing.T) {
	list := slices.Repeat([][]byte{[]byte("a"), []byte("bc"), []byte("d")}, 30000)
	b, e := frame.Join(list)
	if e != api.OK || !bytes.Equal(b, framedAll(list)) {
		t.Fatalf("Join of %d payloads: %d bytes, %d", len(list), len(b), e)
	}
	if l, n := frame.Cut(b); n != len(b) || !sameList(l, list) {
		t.Errorf("Cut of %d frames: %d of them, %d bytes", len(list), len(l), n)
	}
	if l, n := frame.Cut(b[:len(b)-1]); n != len(b)-7 || !sameList(l, list[:len(list)-1]) {
		t.Errorf("Cut of %d frames, the last one torn: %d of them, %d bytes", len(list), len(l), n)
	}
}

// spoilt are bytes of which some were changed, left out or put in.
func spoilt(r *rand.Rand, b []byte) []byte {
	b = bytes.Clone(b)
	for range r.IntN(3) {
		at := r.IntN(len(b) + 1)
		switch {
		case r.IntN(3) == 0 || at == len(b):
			b = slices.Insert(b, at, []byte{0, 1, 2, byte(r.Uint32())}[r.IntN(4)])
		case r.IntN(2) == 0:
			b = slices.Delete(b, at, at+1)
		default:
			b[at] = byte(r.Uint32())
		}
	}
	return b[:len(b)-r.IntN(1+len(b)/4)]
}

// TestSpoilt holds Take and Cut of bytes by a fixed seed to the chapter's words.
func TestSpoilt(t *testing.T) {
	r := rand.New(rand.NewPCG(73, 74))
	for range 20000 {
		b := spoilt(r, framedAll(some(r)))
		_, _, e := taken(b)
		takes(t, b, e)
		list, size := cut(b)
		cuts(t, b, list, size)
	}
}
