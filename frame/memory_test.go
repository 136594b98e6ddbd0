package frame_test

import (
	"bytes"
	"slices"
	"testing"

	"isobar/api"
	"isobar/frame"
)

// A made is one of the answers' lists of bytes, and what it holds.
type made struct {
	what      string
	got, want []byte
}

// answers are all lists of bytes that the calls answer, of a list of payloads and of bytes that begin with their frames.
func answers(t *testing.T, list [][]byte, b []byte) []made {
	t.Helper()
	all := []made{}
	for _, p := range list {
		put, e := frame.Put(p)
		if e != api.OK {
			t.Fatalf("Put(%q) = %d", p, e)
		}
		all = append(all, made{"Put", put, framed(p)})
	}
	p, _, e := frame.Take(b)
	whole, e2 := frame.Join(list)
	cut, _ := frame.Cut(b)
	if e != api.OK || e2 != api.OK || len(cut) != len(list) {
		t.Fatalf("of %q: %d, %d, %d payloads", list, e, e2, len(cut))
	}
	all = append(all, made{"Take", p, bytes.Clone(list[0])}, made{"Join", whole, framedAll(list)})
	for i := range cut {
		all = append(all, made{"Cut", cut[i], bytes.Clone(list[i])})
	}
	return all
}

// roomy is a list of bytes with spare room behind it.
func roomy(b []byte) []byte { return slices.Concat(b, []byte{21, 22, 23, 24, 25, 26, 27, 28})[:len(b)] }

// full is all that stands in a list of bytes, its spare room too.
func full(b []byte) []byte { return b[:cap(b)] }

// spoil changes all that stands in a list of bytes, its spare room too.
func spoil(b []byte) {
	for i := range full(b) {
		full(b)[i] ^= 255
	}
}

// shared are lists of payloads, for the tests of memory.
func shared() [][][]byte {
	return [][][]byte{
		{[]byte("a")},
		{[]byte("one"), []byte("two"), []byte("x")},
		{count(512, 1), count(1, 2), count(256, 3), count(512, 4)},
	}
}

// TestHandedIn: no call changes what is handed in, nor its spare room, whether it errs or not.
func TestHandedIn(t *testing.T) {
	for _, list := range shared() {
		in := [][]byte{}
		for _, p := range list {
			in = append(in, roomy(p))
		}
		in = append(in, roomy(make([]byte, 513)), roomy(nil))
		b := roomy(append(framedAll(list), 9))
		before := [][]byte{}
		for _, p := range append(slices.Clone(in), b) {
			before = append(before, bytes.Clone(full(p)))
		}
		for _, p := range in {
			frame.Put(p)
			frame.Take(p)
			frame.Cut(p)
		}
		for n := range len(in) + 1 {
			frame.Join(in[:n])
		}
		for n := range len(b) + 1 {
			frame.Take(b[:n])
			frame.Cut(b[:n])
		}
		for i, p := range append(slices.Clone(in), b) {
			if !bytes.Equal(full(p), before[i]) {
				t.Errorf("%q became %q", before[i], full(p))
			}
		}
		for i, p := range list {
			if !bytes.Equal(in[i], p) {
				t.Errorf("payload %d of %q became %q", i, list, in[i])
			}
		}
	}
}

// TestNewMemory: an answer, its spare room too, shares nothing with what was handed in, nor with any other one.
func TestNewMemory(t *testing.T) {
	for _, list := range shared() {
		in := [][]byte{}
		for _, p := range list {
			in = append(in, roomy(p))
		}
		b := roomy(framedAll(list))
		first, second := answers(t, in, b), answers(t, in, b)
		for i, a := range first {
			spoil(a.got)
			for j, other := range append(slices.Clone(first[i+1:]), second...) {
				if !bytes.Equal(other.got, other.want) {
					t.Fatalf("%q: a change of %s's answer changes %s's, %d behind it", list, a.what, other.what, j)
				}
			}
		}
		for i, p := range list {
			if !bytes.Equal(full(in[i]), full(roomy(p))) {
				t.Errorf("payload %d of %q is changed by an answer", i, list)
			}
		}
		if !bytes.Equal(full(b), full(roomy(framedAll(list)))) {
			t.Errorf("the frames of %q are changed by an answer", list)
		}
		for _, p := range append(slices.Clone(in), b) {
			spoil(p)
		}
		for _, a := range second {
			if !bytes.Equal(a.got, a.want) {
				t.Errorf("%q: a change of what was handed in changes %s's answer", list, a.what)
			}
		}
	}
}

// The lists that Cut answers are new as well: one that is changed changes no other.
func TestNewLists(t *testing.T) {
	for _, list := range shared() {
		b := framedAll(list)
		first, _ := frame.Cut(b)
		second, _ := frame.Cut(b)
		clear(first[:cap(first)])
		cuts(t, b, list, len(b))
		if !sameList(second, list) {
			t.Errorf("%q: a change of one list changes another", list)
		}
	}
}

// Nothing is kept from call to call: asked once more, in another order, and behind errors, all answer as before.
func TestAnswersHangOnArgumentsAlone(t *testing.T) {
	list := payloads()
	for range 2 {
		slices.Reverse(list)
		for i, p := range list {
			puts(t, p)
			puts(t, nil)
			puts(t, make([]byte, 513))
			takes(t, framed(p), api.OK)
			takes(t, framed(p)[:2], api.ErrShort)
			pair := [][]byte{p, list[len(list)-1-i]}
			joins(t, pair)
			joins(t, [][]byte{p, nil})
			cuts(t, framedAll(pair), pair, len(framedAll(pair)))
		}
	}
}
