package segment_test

import (
	"math"
	"math/rand/v2"
	"strings"

	"isobar/api"
)

const latest = 1 << 40

// head is a right head that a test may change.
func head() api.Record {
	return api.Record{Kind: 1, Path: "a.b", Method: 2, Factor: 500000, Rungs: []api.Rung{{Step: 60, Count: 10}, {Step: 300, Count: 400}}}
}

func point(t, now int, v int64) api.Record {
	return api.Record{Kind: 2, Time: t, Now: now, Value: v}
}

func slot(rung, t int, v int64) api.Record {
	return api.Record{Kind: 3, Rung: rung, Time: t, Value: v}
}

// longest is a head of the longest payload, 296 bytes.
func longest() api.Record {
	return api.Record{Kind: 1, Path: strings.Repeat("x", 263), Method: 5, Factor: 1000000, Rungs: rungs(4, 86400, 400)}
}

// shortest is a head of the shortest one, 16 bytes.
func shortest() api.Record {
	return api.Record{Kind: 1, Path: "a", Method: 1, Rungs: rungs(1, 1, 1)}
}

func rungs(n, step, count int) []api.Rung {
	list := make([]api.Rung, n)
	for i := range list {
		list[i] = api.Rung{Step: step, Count: count}
	}
	return list
}

// everyByte are the first n of all bytes there are, from one on.
func everyByte(n, from int) string {
	b := make([]byte, n)
	for i := range b {
		b[i] = byte(from + i)
	}
	return string(b)
}

// heads are right heads: each field at its least and its greatest, and paths of any bytes.
func heads() []api.Record {
	list := []api.Record{head(), longest(), shortest()}
	for _, path := range []string{"a", "\x00", "\xff", "a b\n", "..", "é", everyByte(256, 0), everyByte(263, 128), strings.Repeat("a", 255), strings.Repeat("b", 257), strings.Repeat("c", 262)} {
		h := head()
		h.Path = path
		list = append(list, h)
	}
	for m := 1; m <= 5; m++ {
		h := head()
		h.Method = m
		list = append(list, h)
	}
	for _, f := range []int64{0, 1, 255, 256, 65535, 65536, 999999, 1000000} {
		h := head()
		h.Factor = f
		list = append(list, h)
	}
	for n := 1; n <= 4; n++ {
		for _, step := range []int{1, 255, 256, 65535, 65536, 86399, 86400} {
			for _, count := range []int{1, 2, 255, 256, 399, 400} {
				h := head()
				h.Rungs = append(rungs(n-1, 61, 11), api.Rung{Step: step, Count: count})
				list = append(list, h)
			}
		}
	}
	return list
}

// times are right ones, and values too.
func times() []int { return []int{0, 1, 60, 255, 256, 65536, 1 << 32, latest - 1, latest} }

func values() []int64 {
	return []int64{0, 1, -1, 1500000, -1500000, 255, 256, -256, -257, 1 << 31, 1 << 32, math.MaxInt64, math.MaxInt64 - 1, -math.MaxInt64}
}

// behind are right points and slots: each field at its least and its greatest, whatever the others.
func behind() []api.Record {
	var list []api.Record
	for _, v := range values() {
		for _, t := range times() {
			for _, now := range times() {
				list = append(list, point(t, now, v))
			}
			for rung := range 4 {
				list = append(list, slot(rung, t, v))
			}
		}
	}
	return list
}

// A change makes another record of one.
type change func(r *api.Record)

// sums are whole numbers about what may be, and some that come round to those in few bytes.
func sums(edges ...int) []int {
	list := []int{math.MinInt64, math.MinInt64 + 1, -1 << 32, -256, -1, 0, 1, math.MaxInt64, math.MaxInt64 - 1}
	for _, n := range edges {
		list = append(list, n-1, n, n+1, n+256, n+1<<16, n+1<<32, n-1<<32)
	}
	return list
}

// changes are all that the tests do to a record's fields, one at a time.
func changes() []change {
	var list []change
	for _, n := range sums(1, 2, 3, 4) {
		list = append(list, func(r *api.Record) { r.Kind = n })
	}
	for _, n := range []int{0, 1, 2, 262, 263, 264, 265, 511, 512, 513, 519, 65535, 65536, 65537, 65536 + 263} {
		list = append(list, func(r *api.Record) { r.Path = strings.Repeat("p", n) })
	}
	for _, n := range sums(1, 5) {
		list = append(list, func(r *api.Record) { r.Method = n })
	}
	for _, n := range sums(1000000) {
		list = append(list, func(r *api.Record) { r.Factor = int64(n) })
	}
	for _, n := range []int{0, 1, 2, 3, 4, 5, 6, 255, 256, 257, 260} {
		list = append(list, func(r *api.Record) { r.Rungs = rungs(n, 60, 10) })
	}
	list = append(list, func(r *api.Record) { r.Rungs = nil }, func(r *api.Record) { r.Rungs = []api.Rung{{}} })
	for at := range 4 {
		for _, n := range sums(86400) {
			list = append(list, func(r *api.Record) { r.Rungs = rungs(4, 60, 10); r.Rungs[at].Step = n })
		}
		for _, n := range sums(400) {
			list = append(list, func(r *api.Record) { r.Rungs = rungs(4, 60, 10); r.Rungs[at].Count = n })
		}
	}
	for _, n := range sums(3) {
		list = append(list, func(r *api.Record) { r.Rung = n })
	}
	for _, n := range sums(latest) {
		list = append(list, func(r *api.Record) { r.Time = n }, func(r *api.Record) { r.Now = n })
		list = append(list, func(r *api.Record) { r.Value = int64(n) })
	}
	return list
}

// some is a right point or slot, by a seed.
func some(r *rand.Rand) api.Record {
	v := values()[r.IntN(len(values()))]
	if r.IntN(2) == 0 {
		v = max(int64(r.Uint64()), -math.MaxInt64)
	}
	if r.IntN(3) == 0 {
		return slot(r.IntN(4), r.IntN(latest+1), v)
	}
	return point(r.IntN(latest+1), times()[r.IntN(len(times()))], v)
}

// someHead is a right head, by a seed.
func someHead(r *rand.Rand) api.Record {
	h := api.Record{Kind: 1, Path: everyByte(1+r.IntN(12), r.IntN(256)), Method: 1 + r.IntN(5), Factor: int64(r.IntN(1000001))}
	if r.IntN(4) == 0 {
		h.Path = everyByte(1+r.IntN(263), r.IntN(256))
	}
	for range 1 + r.IntN(4) {
		h.Rungs = append(h.Rungs, api.Rung{Step: 1 + r.IntN(86400), Count: 1 + r.IntN(400)})
	}
	return h
}

// someList are up to eight right points and slots, by a seed.
func someList(r *rand.Rand) []api.Record {
	list := make([]api.Record, r.IntN(9))
	for i := range list {
		list[i] = some(r)
	}
	return list
}

// A whole is a segment's records.
type whole struct {
	head api.Record
	list []api.Record
}

// all are a segment's records, its head first.
func (w whole) all() []api.Record { return append([]api.Record{w.head}, w.list...) }

// segments are a head alone, one record behind it, and many.
func segments() []whole {
	list := []whole{
		{head(), nil}, {head(), []api.Record{}}, {shortest(), nil}, {longest(), nil},
		{head(), []api.Record{point(1, 5, 7)}}, {longest(), []api.Record{slot(0, 0, 0)}},
		{head(), []api.Record{point(1, 2, 5), point(1, 2, 5), slot(3, 9, -5), point(latest, 0, -1)}},
		{shortest(), []api.Record{slot(3, latest, math.MaxInt64), slot(0, 0, -math.MaxInt64), point(latest, latest, math.MaxInt64)}},
		{head(), behind()[:200]},
	}
	r := rand.New(rand.NewPCG(81, 82))
	for range 40 {
		list = append(list, whole{someHead(r), someList(r)})
	}
	return list
}
