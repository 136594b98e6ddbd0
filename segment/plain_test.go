package segment_test

import (
	"bytes"
	"encoding/binary"
	"fmt"
	"math"
	"slices"
	"testing"

	"isobar/api"
	"isobar/frame"
	"isobar/segment"
)

// right is whether a record is as it must be, as the chapter's words say it.
func right(r api.Record) bool {
	noHead := r.Path == "" && r.Method == 0 && r.Factor == 0 && len(r.Rungs) == 0
	point := r.Time >= 0 && r.Time <= 1099511627776 && r.Value != math.MinInt64
	switch r.Kind {
	case 1:
		for _, g := range r.Rungs {
			if g.Step < 1 || g.Step > 86400 || g.Count < 1 || g.Count > 400 {
				return false
			}
		}
		named := len(r.Path) >= 1 && len(r.Path) <= 263 && len(r.Rungs) >= 1 && len(r.Rungs) <= 4
		how := r.Method >= 1 && r.Method <= 5 && r.Factor >= 0 && r.Factor <= 1000000
		return named && how && r.Rung == 0 && r.Time == 0 && r.Now == 0 && r.Value == 0
	case 2:
		return noHead && point && r.Now >= 0 && r.Now <= 1099511627776 && r.Rung == 0
	case 3:
		return noHead && point && r.Rung >= 0 && r.Rung <= 3 && r.Now == 0
	}
	return false
}

// laid is a record's payload, as the chapter's words say it; of a field that has no room in its bytes the lowest ones.
func laid(r api.Record) []byte {
	b := []byte{byte(r.Kind)}
	le := binary.LittleEndian
	switch r.Kind & 255 {
	case 1:
		b = le.AppendUint16(b, uint16(len(r.Path)))
		b = append(append(b, r.Path...), byte(r.Method))
		b = append(le.AppendUint32(b, uint32(r.Factor)), byte(len(r.Rungs)))
		for _, g := range r.Rungs {
			b = le.AppendUint16(le.AppendUint32(b, uint32(g.Step)), uint16(g.Count))
		}
		return b
	case 2:
		b = le.AppendUint64(le.AppendUint64(b, uint64(r.Time)), uint64(r.Now))
	default:
		b = le.AppendUint64(append(b, byte(r.Rung)), uint64(r.Time))
	}
	return le.AppendUint64(b, uint64(r.Value))
}

// taken is the right record whose payload bytes are, as the chapter's words say it.
func taken(p []byte) (api.Record, bool) {
	le := binary.LittleEndian
	var r api.Record
	switch {
	case len(p) == 25 && p[0] == 2:
		r = api.Record{Kind: 2, Time: int(le.Uint64(p[1:])), Now: int(le.Uint64(p[9:])), Value: int64(le.Uint64(p[17:]))}
	case len(p) == 18 && p[0] == 3:
		r = api.Record{Kind: 3, Rung: int(p[1]), Time: int(le.Uint64(p[2:])), Value: int64(le.Uint64(p[10:]))}
	case len(p) >= 3 && p[0] == 1:
		n := 3 + int(le.Uint16(p[1:]))
		if len(p) < n+6 || len(p) != n+6+6*int(p[n+5]) {
			return r, false
		}
		r = api.Record{Kind: 1, Path: string(p[3:n]), Method: int(p[n]), Factor: int64(le.Uint32(p[n+1:]))}
		for at := n + 6; at < len(p); at += 6 {
			r.Rungs = append(r.Rungs, api.Rung{Step: int(le.Uint32(p[at:])), Count: int(le.Uint16(p[at+4:]))})
		}
	}
	if !right(r) {
		return api.Record{}, false
	}
	return r, true
}

// framed is the frame of a payload.
func framed(p []byte) []byte {
	b, e := frame.Put(p)
	if e != api.OK {
		panic(e)
	}
	return b
}

// written are the frames of records, one behind the other.
func written(list ...api.Record) []byte {
	b := []byte{}
	for _, r := range list {
		b = append(b, framed(laid(r))...)
	}
	return b
}

// records are those whose frames bytes begin with, up to the first place at which no right record's stands, or a head but at the beginning; and how many bytes each has.
func records(b []byte) (list []api.Record, sizes []int) {
	for {
		p, n, e := frame.Take(b)
		if e != api.OK {
			return list, sizes
		}
		r, ok := taken(p)
		if !ok || r.Kind == 1 && len(list) > 0 {
			return list, sizes
		}
		list, sizes, b = append(list, r), append(sizes, n), b[n:]
	}
}

// same: are two records alike, lists that hold nothing being one?
func same(a, b api.Record) bool {
	return a.Kind == b.Kind && a.Path == b.Path && a.Method == b.Method && a.Factor == b.Factor && slices.Equal(a.Rungs, b.Rungs) &&
		a.Rung == b.Rung && a.Time == b.Time && a.Now == b.Now && a.Value == b.Value
}

func sameList(a, b []api.Record) bool { return slices.EqualFunc(a, b, same) }

// brief is what a test tells of a thing: what is long would bury the rest.
func brief(x any) string {
	s := fmt.Sprintf("%#v", x)
	if b, ok := x.([]byte); ok {
		s = fmt.Sprintf("% x", b)
	}
	if len(s) > 400 {
		return s[:400] + "..."
	}
	return s
}

// holds holds all calls of a record to the chapter's words, and answers whether it is right.
func holds(t *testing.T, r api.Record) bool {
	t.Helper()
	ok := right(r)
	if got := segment.Right(r); got != ok {
		t.Fatalf("Right(%s) = %v", brief(r), got)
	}
	var payload, framing []byte
	wanted := api.ErrArg
	if ok {
		payload, framing, wanted = laid(r), written(r), api.OK
	}
	if b, e := segment.Put(r); e != wanted || !bytes.Equal(b, payload) {
		t.Fatalf("Put(%s) = %s, %d, want %s, %d", brief(r), brief(b), e, brief(payload), wanted)
	}
	if b, e := segment.Frame(r); e != wanted || !bytes.Equal(b, framing) {
		t.Fatalf("Frame(%s) = %s, %d, want %s, %d", brief(r), brief(b), e, brief(framing), wanted)
	}
	takes(t, laid(r))
	writes(t, r, nil)
	writes(t, head(), []api.Record{r})
	return ok
}

// takes holds Take of bytes to the chapter's words, and answers whether they are a right record's payload.
func takes(t *testing.T, p []byte) bool {
	t.Helper()
	want, ok := taken(p)
	wanted := api.OK
	if !ok {
		wanted = api.ErrForm
	}
	if r, e := segment.Take(p); e != wanted || !same(r, want) {
		t.Fatalf("Take(%s) = %s, %d, want %s, %d", brief(p), brief(r), e, brief(want), wanted)
	}
	return ok
}

// writes holds Write to the chapter's words, and answers whether it is to write.
func writes(t *testing.T, h api.Record, list []api.Record) bool {
	t.Helper()
	ok := right(h) && h.Kind == 1
	for _, r := range list {
		ok = ok && right(r) && r.Kind != 1
	}
	var want []byte
	wanted := api.ErrArg
	if ok {
		want, wanted = written(append([]api.Record{h}, list...)...), api.OK
	}
	if b, e := segment.Write(h, list); e != wanted || !bytes.Equal(b, want) {
		t.Fatalf("Write(%s, %s) = %s, %d, want %s, %d", brief(h), brief(list), brief(b), e, brief(want), wanted)
	}
	return ok
}

// scans holds Scan of bytes to a head, records behind it, and how many bytes all of these have.
func scans(t *testing.T, b []byte, want api.Record, list []api.Record, size int) {
	t.Helper()
	if h, l, n, e := segment.Scan(b); e != api.OK || !same(h, want) || !sameList(l, list) || n != size {
		t.Fatalf("Scan(%s) = %s, %s, %d, %d, want %s, %s, %d", brief(b), brief(h), brief(l), n, e, brief(want), brief(list), size)
	}
}

// scansNot holds Scan of bytes to its refusal.
func scansNot(t *testing.T, b []byte) {
	t.Helper()
	if h, l, n, e := segment.Scan(b); e != api.ErrForm || !same(h, api.Record{}) || len(l) != 0 || n != 0 {
		t.Fatalf("Scan(%s) = %s, %s, %d, %d, want an error", brief(b), brief(h), brief(l), n, e)
	}
}

// scansAsSaid holds Scan of any bytes to the chapter's words.
func scansAsSaid(t *testing.T, b []byte) {
	t.Helper()
	list, sizes := records(b)
	if len(list) == 0 || list[0].Kind != 1 {
		scansNot(t, b)
		return
	}
	size := 0
	for _, n := range sizes {
		size += n
	}
	scans(t, b, list[0], list[1:], size)
}
