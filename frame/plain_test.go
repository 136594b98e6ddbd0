package frame_test

import (
	"bytes"
	"fmt"
	"math/rand/v2"
	"slices"
	"testing"

	"isobar/api"
	"isobar/crc"
	"isobar/frame"
)

// framed is a payload's frame, as the chapter's words say it.
func framed(p []byte) []byte {
	b := slices.Concat([]byte{byte(len(p) % 256), byte(len(p) / 256)}, p)
	s := crc.Sum(b)
	return append(b, byte(s), byte(s>>8), byte(s>>16), byte(s>>24))
}

// framedAll are frames, one behind the other.
func framedAll(list [][]byte) []byte {
	b := []byte{}
	for _, p := range list {
		b = append(b, framed(p)...)
	}
	return b
}

// refused is the error of a payload that has no frame.
func refused(p []byte) api.Errno {
	if len(p) == 0 {
		return api.ErrArg
	}
	if len(p) > 512 {
		return api.ErrLong
	}
	return api.OK
}

// taken is what bytes begin with, as the chapter's words say it.
func taken(b []byte) (p []byte, size int, e api.Errno) {
	if len(b) < 2 {
		return nil, 0, api.ErrShort
	}
	n := int(b[0]) + 256*int(b[1])
	switch {
	case n < 1 || n > 512:
		return nil, 0, api.ErrForm
	case len(b) < 2+n+4:
		return nil, 0, api.ErrShort
	case !bytes.Equal(b[:2+n+4], framed(b[2:2+n])):
		return nil, 0, api.ErrSum
	}
	return b[2 : 2+n], 2 + n + 4, api.OK
}

// cut are the payloads at the beginning of bytes, as the chapter's words say it.
func cut(b []byte) ([][]byte, int) {
	p, n, e := taken(b)
	if e != api.OK {
		return nil, 0
	}
	rest, size := cut(b[n:])
	return append([][]byte{p}, rest...), n + size
}

// sameList: are they the same payloads?
func sameList(a, b [][]byte) bool { return slices.EqualFunc(a, b, bytes.Equal) }

// brief are bytes, or payloads, as a test tells them: lists that are long would bury the rest.
func brief(x any) string {
	s := fmt.Sprintf("%q", x)
	if len(s) > 300 {
		return s[:300] + "..."
	}
	return s
}

// puts holds Put of a payload to the chapter's words.
func puts(t *testing.T, p []byte) {
	t.Helper()
	var want []byte
	wanted := refused(p)
	if wanted == api.OK {
		want = framed(p)
	}
	if b, e := frame.Put(p); e != wanted || !bytes.Equal(b, want) {
		t.Fatalf("Put(%s) = %s, %d, want %s, %d", brief(p), brief(b), e, brief(want), wanted)
	}
}

// takes holds Take of bytes to the chapter's words, and to an error where one is named.
func takes(t *testing.T, b []byte, named api.Errno) {
	t.Helper()
	p, n, e := frame.Take(b)
	want, size, wanted := taken(b)
	if e != wanted || e != named || n != size || !bytes.Equal(p, want) {
		t.Fatalf("Take(%s) = %s, %d, %d, want %s, %d, %d (named %d)", brief(b), brief(p), n, e, brief(want), size, wanted, named)
	}
}

// cuts holds Cut of bytes to payloads and to how many bytes their frames have.
func cuts(t *testing.T, b []byte, want [][]byte, size int) {
	t.Helper()
	if l, n := frame.Cut(b); n != size || !sameList(l, want) {
		t.Fatalf("Cut(%s) = %s, %d, want %s, %d", brief(b), brief(l), n, brief(want), size)
	}
}

// joins holds Join of payloads to the chapter's words.
func joins(t *testing.T, list [][]byte) {
	t.Helper()
	want, wanted := framedAll(list), api.OK
	for _, p := range list {
		if wanted == api.OK {
			wanted = refused(p)
		}
	}
	if wanted != api.OK {
		want = nil
	}
	if b, e := frame.Join(list); e != wanted || !bytes.Equal(b, want) {
		t.Fatalf("Join(%s) = %s, %d, want %s, %d", brief(list), brief(b), e, brief(want), wanted)
	}
}

// edges are the lengths about which a payload's may be told wrongly.
var edges = []int{1, 2, 3, 4, 5, 6, 7, 127, 128, 254, 255, 256, 257, 258, 510, 511, 512}

// count is a payload whose bytes count up from a number.
func count(n, from int) []byte {
	p := make([]byte, n)
	for i := range p {
		p[i] = byte(from + i)
	}
	return p
}

// payloads are all that may be of a byte, one of each length, some of bytes all clear and all set, a text, and frames in a frame.
func payloads() [][]byte {
	var list [][]byte
	for c := range 256 {
		list = append(list, []byte{byte(c)})
	}
	for n := 2; n <= 512; n++ {
		list = append(list, count(n, 3*n))
	}
	for _, n := range edges {
		list = append(list, make([]byte, n), bytes.Repeat([]byte{255}, n))
	}
	twice := framedAll([][]byte{[]byte("a"), []byte("bc")})
	return append(list, []byte("a.b 5 60\n"), framed([]byte("a")), twice, framed(framed(twice)))
}

// some are payloads that may be, by a seed, short ones above all.
func some(r *rand.Rand) [][]byte {
	list := make([][]byte, r.IntN(6))
	for i := range list {
		n := 1 + r.IntN(6)
		if r.IntN(5) == 0 {
			n = edges[r.IntN(len(edges))]
		}
		list[i] = count(n, r.IntN(256))
		list[i][r.IntN(n)] = byte(r.Uint32())
	}
	return list
}
