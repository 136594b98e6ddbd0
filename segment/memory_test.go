package segment_test

import (
	"bytes"
	"slices"
	"testing"

	"isobar/api"
	"isobar/segment"
)

// roomy is a list of bytes with spare room behind it.
func roomy(b []byte) []byte { return slices.Concat(b, []byte{21, 22, 23, 24, 25, 26, 27, 28})[:len(b)] }

// roomyRecord is a record whose rungs have spare room behind them.
func roomyRecord(r api.Record) api.Record {
	r.Rungs = slices.Concat(r.Rungs, rungs(3, 77, 7))[:len(r.Rungs)]
	return r
}

// roomyList is a list of records with spare room behind it, and behind each one's rungs.
func roomyList(list []api.Record) []api.Record {
	var l []api.Record
	for _, r := range append(slices.Clone(list), head(), point(9, 9, 9)) {
		l = append(l, roomyRecord(r))
	}
	return l[: len(list) : len(list)+2]
}

// spoil changes all that stands in a list of bytes, its spare room too.
func spoil(b []byte) {
	b = b[:cap(b)]
	for i := range b {
		b[i] ^= 255
	}
}

// spoilRecords changes all that stands in a list of records, its spare room and their rungs too.
func spoilRecords(list []api.Record) {
	for _, r := range list[:cap(list)] {
		spoilRungs(r)
	}
	for i := range list[:cap(list)] {
		list[:cap(list)][i] = api.Record{Kind: -1, Path: "spoilt"}
	}
}

func spoilRungs(r api.Record) {
	for i := range r.Rungs[:cap(r.Rungs)] {
		r.Rungs[:cap(r.Rungs)][i] = api.Rung{Step: -7, Count: -7}
	}
}

// copied is a list of records of memory of its own, its spare room and their rungs' spare room too.
func copied(list []api.Record) []api.Record {
	l := slices.Clone(list[:cap(list)])
	for i, r := range l {
		l[i].Rungs = slices.Clone(r.Rungs[:cap(r.Rungs)])
	}
	return l
}

// TestRecordsHandedIn: no call changes a record, or a list of them, nor the spare room, whether it errs or not.
func TestRecordsHandedIn(t *testing.T) {
	wrong := headWith(func(r *api.Record) { r.Rungs = rungs(5, 60, 10) })
	for _, w := range append(segments(), whole{wrong, []api.Record{wrong, point(-1, 2, 3)}}, whole{head(), []api.Record{head(), point(1, 2, 3)}}, whole{point(1, 2, 3), nil}) {
		list := roomyList(append(slices.Clone(w.list), w.head))
		h := roomyRecord(w.head)
		before, headBefore := copied(list), copied([]api.Record{h})
		for _, r := range append(slices.Clone(list), h) {
			segment.Right(r)
			segment.Put(r)
			segment.Frame(r)
		}
		segment.Write(h, list)
		segment.Write(h, list[:len(list)-1])
		if !sameList(copied(list), before) || !sameList(copied([]api.Record{h}), headBefore) {
			t.Fatalf("%s became %s, %s", brief(w), brief(h), brief(list))
		}
	}
}

// TestBytesHandedIn: no call changes bytes, nor their spare room.
func TestBytesHandedIn(t *testing.T) {
	var inputs [][]byte
	for _, w := range segments() {
		inputs = append(inputs, written(w.all()...), written(w.list...), laid(w.head))
	}
	inputs = append(inputs, tails()...)
	inputs = append(inputs, wrongPayloads()...)
	for _, b := range inputs {
		b = roomy(b)
		before := bytes.Clone(b[:cap(b)])
		for _, n := range []int{len(b), len(b) / 2, max(len(b)-1, 0)} {
			segment.Take(b[:n])
			segment.Scan(b[:n])
		}
		if !bytes.Equal(b[:cap(b)], before) {
			t.Fatalf("%s became %s", brief(before), brief(b[:cap(b)]))
		}
	}
}

// TestBytesAnswered: bytes that a call answers share nothing with another answer.
func TestBytesAnswered(t *testing.T) {
	list := []api.Record{point(1, 2, 3), slot(1, 2, 3)}
	for _, r := range append(list, head(), longest()) {
		for _, call := range []func() ([]byte, api.Errno){
			func() ([]byte, api.Errno) { return segment.Put(r) },
			func() ([]byte, api.Errno) { return segment.Frame(r) },
			func() ([]byte, api.Errno) { return segment.Write(head(), list) },
		} {
			first, _ := call()
			second, _ := call()
			before := bytes.Clone(second)
			spoil(first)
			third, e := call()
			if e != api.OK || !bytes.Equal(second, before) || !bytes.Equal(third, before) {
				t.Errorf("%s: a change of one answer changes another: %s, %s, want %s", brief(r), brief(second), brief(third), brief(before))
			}
		}
	}
}

// TestRecordsAnswered: records that a call answers share nothing with the bytes, nor with another answer.
func TestRecordsAnswered(t *testing.T) {
	for _, w := range segments() {
		b, p := written(w.all()...), laid(w.head)
		h, list, size, _ := segment.Scan(b)
		h2, list2, _, _ := segment.Scan(b)
		r, _ := segment.Take(p)
		r2, _ := segment.Take(p)
		spoilRungs(h2)
		spoilRecords(list2)
		spoilRungs(r2)
		scans(t, b, w.head, w.list, len(b))
		takes(t, p)
		spoil(b)
		spoil(p)
		if !same(h, w.head) || !sameList(list, w.list) || size != len(b) || !same(r, w.head) {
			t.Fatalf("%s became %s, %s, %s", brief(w), brief(h), brief(list), brief(r))
		}
	}
}

// Nothing is kept from call to call: asked once more, in another order, and behind errors, all answer as before.
func TestAnswersHangOnArgumentsAlone(t *testing.T) {
	list := append(heads(), behind()[:100]...)
	for range 2 {
		slices.Reverse(list)
		for _, r := range list {
			holds(t, r)
			holds(t, api.Record{})
			takes(t, laid(r)[:3])
			scansAsSaid(t, written(head(), r))
			scansAsSaid(t, written(r))
			scansNot(t, nil)
		}
	}
}
