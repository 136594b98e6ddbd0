package crc_test

import (
	"bytes"
	"math"
	"math/rand/v2"
	"slices"
	"testing"

	"isobar/api"
	"isobar/crc"
)

// defined is the sum of bytes that follow those of a sum, bit by bit, as the chapter's words say it.
func defined(sum uint32, b []byte) uint32 {
	word := sum ^ math.MaxUint32
	for _, c := range b {
		word ^= uint32(c)
		for range 8 {
			out := word & 1
			word >>= 1
			if out == 1 {
				word ^= 0x82f63b78
			}
		}
	}
	return word ^ math.MaxUint32
}

// withSum is b with its sum behind it, by definition.
func withSum(b []byte) []byte {
	s := defined(0, b)
	return append(bytes.Clone(b), byte(s), byte(s>>8), byte(s>>16), byte(s>>24))
}

// some are bytes by a seed.
func some(r *rand.Rand, n int) []byte {
	b := make([]byte, n)
	for i := range b {
		b[i] = byte(r.Uint32())
	}
	return b
}

// risen are n bytes, each one more than the one ahead.
func risen(n int) []byte {
	b := make([]byte, n)
	for i := range b {
		b[i] = byte(i)
	}
	return b
}

// samples are no bytes, one byte, each of the 256, bytes all clear and all set, texts, and bytes of all lengths by a fixed seed.
func samples() [][]byte {
	list := [][]byte{nil, {}, []byte("123456789"), []byte("a.b 5 60\n"), risen(256), risen(1000)}
	for c := range 256 {
		list = append(list, []byte{byte(c)})
	}
	r := rand.New(rand.NewPCG(51, 52))
	for n := range 70 {
		list = append(list, make([]byte, n), bytes.Repeat([]byte{255}, n), some(r, n), some(r, n))
	}
	return append(list, some(r, 511), some(r, 512), some(r, 513), some(r, 10000))
}

// short are the samples of at most n bytes; of the single bytes six are enough.
func short(n int) [][]byte {
	return slices.DeleteFunc(samples(), func(b []byte) bool { return len(b) > n || len(b) == 1 && b[0]%51 != 0 })
}

func TestSum(t *testing.T) {
	down := risen(32)
	slices.Reverse(down)
	for _, c := range []struct {
		b    []byte
		want uint32
	}{
		{nil, 0},
		{[]byte{}, 0},
		{[]byte("123456789"), 0xe3069283},
		{[]byte("a"), 0xc1d04330},
		{[]byte("abc"), 0x364b3fb7},
		{[]byte{0}, 0x527d5351},
		{[]byte{255}, 0xff000000},
		{[]byte{0, 0, 0, 0}, 0x48674bc7},
		{[]byte{255, 255, 255, 255}, 0xffffffff},
		{make([]byte, 32), 0x8a9136aa},
		{bytes.Repeat([]byte{255}, 32), 0x62a8ab43},
		{risen(32), 0x46dd794e},
		{down, 0x113fdb5c},
	} {
		if got := crc.Sum(c.b); got != c.want {
			t.Errorf("Sum(%q) = %08x, want %08x", c.b, got, c.want)
		}
	}
	for _, b := range samples() {
		if got, want := crc.Sum(b), defined(0, b); got != want {
			t.Errorf("Sum(%q) = %08x, want %08x", b, got, want)
		}
	}
	long := some(rand.New(rand.NewPCG(53, 54)), 1<<20)
	if got, want := crc.Sum(long), defined(0, long); got != want {
		t.Errorf("Sum of 2^20 bytes = %08x, want %08x", got, want)
	}
}

// Each word of 32 bits is the sum of some bytes, so each is gone on from.
func TestUpdate(t *testing.T) {
	sums := []uint32{0, 1, 2, 15, 16, 0x82f63b78, 0xe3069283, 1 << 31, math.MaxUint32 - 1, math.MaxUint32}
	for bit := range 32 {
		sums = append(sums, 1<<bit, ^(1 << bit))
	}
	r := rand.New(rand.NewPCG(55, 56))
	for range 50 {
		sums = append(sums, r.Uint32())
	}
	for _, sum := range sums {
		for _, b := range short(70) {
			if got, want := crc.Update(sum, b), defined(sum, b); got != want {
				t.Errorf("Update(%08x, %q) = %08x, want %08x", sum, b, got, want)
			}
		}
	}
	if got := crc.Update(0xe3069283, nil); got != 0xe3069283 {
		t.Errorf("Update with nothing = %08x", got)
	}
	if got := crc.Update(0, []byte("123456789")); got != 0xe3069283 {
		t.Errorf("Update of nothing's sum = %08x", got)
	}
}

// TestParts: the sum of two parts is the second one's, updated from the first one's, wherever they are cut.
func TestParts(t *testing.T) {
	for _, b := range samples() {
		whole := crc.Sum(b)
		step := 1 + len(b)/300
		for at := 0; at <= len(b); at += step {
			if got := crc.Update(crc.Sum(b[:at]), b[at:]); got != whole {
				t.Errorf("%q cut at %d: %08x, want %08x", b, at, got, whole)
			}
		}
		sum := crc.Sum(nil)
		for i, c := range b {
			sum = crc.Update(sum, []byte{c})
			if i%step == 0 && sum != crc.Sum(b[:i+1]) {
				t.Errorf("%q byte by byte up to %d: %08x", b, i, sum)
			}
		}
		if sum != whole {
			t.Errorf("%q byte by byte: %08x, want %08x", b, sum, whole)
		}
	}
}

func TestThreeParts(t *testing.T) {
	b := []byte("a.b.c 12.5 1000\n")
	for first := range len(b) + 1 {
		for second := first; second <= len(b); second++ {
			sum := crc.Update(crc.Update(crc.Sum(b[:first]), b[first:second]), b[second:])
			if sum != crc.Sum(b) {
				t.Errorf("cut at %d and %d: %08x, want %08x", first, second, sum, crc.Sum(b))
			}
		}
	}
}

func TestPut(t *testing.T) {
	for _, c := range []struct{ b, want []byte }{
		{nil, []byte{0, 0, 0, 0}},
		{[]byte{}, []byte{0, 0, 0, 0}},
		{[]byte{255}, []byte{255, 0, 0, 0, 255}},
		{[]byte{0}, []byte{0, 0x51, 0x53, 0x7d, 0x52}},
		{[]byte("123456789"), []byte("123456789\x83\x92\x06\xe3")},
	} {
		if got := crc.Put(c.b); !bytes.Equal(got, c.want) {
			t.Errorf("Put(%q) = %q, want %q", c.b, got, c.want)
		}
	}
	for _, b := range samples() {
		if got, want := crc.Put(b), withSum(b); !bytes.Equal(got, want) {
			t.Errorf("Put(%q) = %q, want %q", b, got, want)
		}
	}
}

func TestCheck(t *testing.T) {
	for _, b := range samples() {
		if got, e := crc.Check(withSum(b)); e != api.OK || !bytes.Equal(got, b) {
			t.Errorf("Check of %q and its sum = %q, %d", b, got, e)
		}
		twice, e := crc.Check(crc.Put(crc.Put(b)))
		if got, e2 := crc.Check(twice); e != api.OK || e2 != api.OK || !bytes.Equal(got, b) {
			t.Errorf("Check of %q put twice = %q, %d, %d", b, got, e, e2)
		}
	}
}

// refused: does Check answer an error, and nothing beside it?
func refused(b []byte, want api.Errno) bool {
	got, e := crc.Check(b)
	return e == want && len(got) == 0
}

func TestCheckOfTooFew(t *testing.T) {
	for _, b := range [][]byte{nil, {}, {1}, {0, 0}, {255, 255, 255}, {0, 0, 0}} {
		if !refused(b, api.ErrShort) {
			t.Errorf("Check(%q) isn't too short", b)
		}
	}
	for c := range 256 {
		if !refused([]byte{byte(c)}, api.ErrShort) {
			t.Errorf("Check of the byte %d isn't too short", c)
		}
	}
	// What stands behind the end isn't asked.
	for _, b := range [][]byte{nil, []byte("123456789")} {
		whole := crc.Put(b)
		for n := range 4 {
			if !refused(whole[:n], api.ErrShort) {
				t.Errorf("Check(%q) isn't too short", whole[:n])
			}
		}
	}
}

// Exactly four bytes are the sum of nothing: all are clear, or they aren't its sum.
func TestCheckOfFour(t *testing.T) {
	if got, e := crc.Check([]byte{0, 0, 0, 0}); e != api.OK || len(got) != 0 {
		t.Errorf("Check of four bytes that are clear = %q, %d", got, e)
	}
	for at := range 4 {
		for c := 1; c < 256; c++ {
			b := make([]byte, 4)
			b[at] = byte(c)
			if !refused(b, api.ErrSum) {
				t.Errorf("Check(%q) isn't refused", b)
			}
		}
	}
	r := rand.New(rand.NewPCG(57, 58))
	for range 2000 {
		if b := some(r, 4); !bytes.Equal(b, make([]byte, 4)) && !refused(b, api.ErrSum) {
			t.Errorf("Check(%q) isn't refused", b)
		}
	}
	if !refused([]byte{255, 255, 255, 255}, api.ErrSum) {
		t.Error("Check of four bytes that are set isn't refused")
	}
}

func TestCheckOfAnotherSum(t *testing.T) {
	for _, b := range short(70) {
		whole := withSum(b)
		for bit := range 32 {
			other := bytes.Clone(whole)
			other[len(b)+bit/8] ^= 1 << (bit % 8)
			if !refused(other, api.ErrSum) {
				t.Errorf("Check(%q) isn't refused", other)
			}
		}
		back := bytes.Clone(whole)
		slices.Reverse(back[len(b):])
		// Only a sum that reads the same both ways is right the other way round.
		if !bytes.Equal(back, whole) && !refused(back, api.ErrSum) {
			t.Errorf("Check(%q), the sum the other way round, isn't refused", back)
		}
		turned := bytes.Clone(whole)
		for i := range 4 {
			turned[len(b)+i] ^= 255
		}
		if !refused(turned, api.ErrSum) {
			t.Errorf("Check(%q), the sum turned, isn't refused", turned)
		}
	}
	if !refused([]byte("123456789\xe3\x06\x92\x83"), api.ErrSum) {
		t.Error("the chapter's sum, the other way round, isn't refused")
	}
}

// told holds that Check refuses b, changed at a place by exclusive or with a pattern that isn't all clear.
func told(t *testing.T, whole []byte, at int, pattern []byte) {
	t.Helper()
	changed := bytes.Clone(whole)
	for i, p := range pattern {
		changed[at+i] ^= p
	}
	if !refused(changed, api.ErrSum) {
		t.Errorf("Check of %q, at %d changed by %x, isn't refused", whole, at, pattern)
	}
}

// patterns are changes of up to four bytes that stand side by side, the ones between them changed or left: single bits, bytes turned, and some by a fixed seed.
func patterns() [][]byte {
	var list [][]byte
	values := []byte{0, 1, 128, 255}
	for n := 1; n <= 4; n++ {
		for code := range 1 << (2 * n) {
			p := make([]byte, n)
			for i := range p {
				p[i] = values[code>>(2*i)&3]
			}
			list = append(list, p)
		}
	}
	// The bits of the sum's own rule, at each shift: what a sum of fewer bits, or of another rule, lets pass.
	for shift := range 8 {
		word := uint64(0x82f63b78) << shift
		list = append(list, []byte{byte(word), byte(word >> 8), byte(word >> 16), byte(word >> 24)})
	}
	r := rand.New(rand.NewPCG(59, 60))
	for n := 1; n <= 4; n++ {
		for range 50 {
			list = append(list, some(r, n))
		}
	}
	return slices.DeleteFunc(list, func(p []byte) bool { return bytes.Equal(p, make([]byte, len(p))) })
}

// TestTold: a change of four bytes side by side, or of fewer, is told in the bytes, in the sum, and across the border of both.
func TestTold(t *testing.T) {
	r := rand.New(rand.NewPCG(61, 62))
	list := [][]byte{nil, {0}, {255}, {7, 9}, []byte("123456789"), make([]byte, 12), bytes.Repeat([]byte{255}, 12), some(r, 40)}
	for _, b := range list {
		whole := withSum(b)
		for _, p := range patterns() {
			for at := 0; at+len(p) <= len(whole); at++ {
				told(t, whole, at, p)
			}
		}
	}
}

// Of a few bytes each change of one byte is told, and each of two that stand side by side.
func TestToldEachOfTwo(t *testing.T) {
	whole := withSum([]byte("a.b"))
	for at := range len(whole) - 1 {
		for code := 1; code < 1<<16; code++ {
			told(t, whole, at, []byte{byte(code), byte(code >> 8)})
		}
	}
}

// In bytes that are long, changes are told far from the sum, too.
func TestToldFarAway(t *testing.T) {
	r := rand.New(rand.NewPCG(63, 64))
	whole := withSum(some(r, 5000))
	for range 3000 {
		p := some(r, 1+r.IntN(4))
		p[0] |= 1
		told(t, whole, r.IntN(len(whole)-len(p)+1), p)
	}
}

func TestLeftOut(t *testing.T) {
	for _, b := range short(40) {
		want := api.ErrSum
		if len(b) == 0 {
			want = api.ErrShort
		}
		whole := withSum(b)
		for at := range whole {
			if left := slices.Delete(bytes.Clone(whole), at, at+1); !refused(left, want) {
				t.Errorf("Check of %q without its byte at %d isn't refused", whole, at)
			}
		}
	}
}

// A clear byte behind bytes whose sum is all set leaves the sum as it was: by the sum's rule alone it isn't told.
func unseen(ahead []byte, c byte) bool { return c == 0 && defined(0, ahead) == math.MaxUint32 }

func TestPutIn(t *testing.T) {
	for _, b := range short(40) {
		whole := withSum(b)
		for at := range len(whole) + 1 {
			for _, c := range []byte{0, 1, 'a', 128, 254, 255} {
				more := slices.Insert(bytes.Clone(whole), at, c)
				if !unseen(whole[:at], c) && !refused(more, api.ErrSum) {
					t.Errorf("Check of %q with %d put in at %d isn't refused", whole, c, at)
				}
			}
		}
	}
	got, e := crc.Check([]byte{255, 255, 255, 255, 0, 255, 255, 255, 255})
	if e != api.OK || !bytes.Equal(got, []byte{255, 255, 255, 255, 0}) {
		t.Errorf("Check of a clear byte behind four that are set = %q, %d", got, e)
	}
}

// TestHandedIn: no call changes what is handed in, nor its spare room.
func TestHandedIn(t *testing.T) {
	for _, b := range samples() {
		room := append(withSum(b), 11, 12, 13, 14, 15, 16, 17, 18)
		before := bytes.Clone(room)
		crc.Sum(room[:len(b)])
		crc.Update(9, room[:len(b)])
		crc.Put(room[:len(b)])
		crc.Check(room[:len(b)+4])
		crc.Check(room[:len(b)+3])
		if !bytes.Equal(room, before) {
			t.Errorf("%q became %q", before, room)
		}
		if got := crc.Put(room[:len(b)]); !bytes.Equal(got, withSum(b)) {
			t.Errorf("Put of %q with spare room = %q", b, got)
		}
	}
}

// spoil changes all of an answer, and its spare room.
func spoil(b []byte) {
	b = b[:cap(b)]
	for i := range b {
		b[i] ^= 255
	}
}

// TestNewMemory: an answer, its spare room too, shares nothing with what was handed in, nor with another answer.
func TestNewMemory(t *testing.T) {
	for _, b := range samples() {
		whole := withSum(b)
		room := append(bytes.Clone(whole), 1, 2, 3, 4)
		first, second := crc.Put(room[:len(b)]), crc.Put(room[:len(b)])
		back, e := crc.Check(room[:len(whole)])
		again, e2 := crc.Check(room[:len(whole)])
		if e != api.OK || e2 != api.OK {
			t.Fatalf("Check(%q) = %d, %d", whole, e, e2)
		}
		spoil(first)
		spoil(back)
		if !bytes.Equal(room, append(bytes.Clone(whole), 1, 2, 3, 4)) {
			t.Errorf("%q is changed by its answers", whole)
		}
		if !bytes.Equal(second, whole) || !bytes.Equal(again, b) {
			t.Errorf("%q: a change of one answer changes another", b)
		}
		spoil(room)
		if !bytes.Equal(second, whole) || !bytes.Equal(again, b) {
			t.Errorf("%q: a change of what was handed in changes an answer", b)
		}
	}
}

// Nothing is kept from call to call: asked once more, in another order, all answer as before.
func TestAnswersHangOnArgumentsAlone(t *testing.T) {
	list := samples()
	sums := make([]uint32, len(list))
	puts := make([][]byte, len(list))
	for i, b := range list {
		sums[i], puts[i] = crc.Sum(b), crc.Put(b)
		crc.Check(b)
	}
	for i := len(list) - 1; i >= 0; i-- {
		crc.Update(uint32(i), list[i])
		if crc.Sum(list[i]) != sums[i] || !bytes.Equal(crc.Put(list[i]), puts[i]) {
			t.Errorf("%q answers otherwise when it is asked again", list[i])
		}
	}
}
