package ladder_test

import (
	"math"
	"testing"

	"isobar/api"
	"isobar/ladder"
)

// TestPick: the first ring that reaches back to a time, or the last one.
func TestPick(t *testing.T) {
	l := fresh(t, way(api.Average, 500000, 10, 6, 60, 5, 300, 4))
	for _, x := range [][3]int{
		{0, 0, 0}, {0, 59, 0}, {0, 60, 0}, {0, 61, 1}, {1, 61, 0}, {0, 299, 1}, {0, 300, 1}, {0, 301, 2}, {0, 1200, 2}, {0, 1201, 2}, {0, latest, 2},
		{941, 1000, 0}, {940, 1000, 0}, {939, 1000, 1}, {700, 1000, 1}, {699, 1000, 2}, {1000, 1000, 0}, {1001, 1000, 0}, {latest, 0, 0}, {latest, latest, 0},
		{latest - 60, latest, 0}, {latest - 61, latest, 1}, {latest - 300, latest, 1}, {latest - 301, latest, 2},
	} {
		asks(t, l, x[0], x[1], x[2])
	}
	one := fresh(t, way(api.Average, 500000, 10, 6))
	for _, x := range [][2]int{{0, 0}, {0, 61}, {0, latest}, {latest, 0}} {
		asks(t, one, x[0], x[1], 0)
	}
}

// TestFetch: all slots of the ring that is asked, from the first time on, below the second one, up to now, as far as the ring reaches.
func TestFetch(t *testing.T) {
	l := laid(t, way(api.Average, 500000, 10, 6, 60, 5),
		[3]int{0, 30, 3}, [3]int{0, 50, 5}, [3]int{0, 60, 6}, [3]int{0, 80, 8}, [3]int{1, 0, 100}, [3]int{1, 60, 160})
	tells(t, l, 30, 90, 85, 30, 10, 3, no, 5, 6, no, 8)
	tells(t, l, 30, 81, 85, 30, 10, 3, no, 5, 6, no, 8)
	tells(t, l, 30, 80, 85, 30, 10, 3, no, 5, 6, no)
	tells(t, l, 30, 51, 85, 30, 10, 3, no, 5)
	tells(t, l, 30, 50, 85, 30, 10, 3, no)
	tells(t, l, 30, 31, 85, 30, 10, 3)
	tells(t, l, 31, 61, 85, 40, 10, no, 5, 6)
	tells(t, l, 39, 61, 85, 40, 10, no, 5, 6)
	tells(t, l, 40, 61, 85, 40, 10, no, 5, 6)
	// Up to now: its own slot is one of them.
	tells(t, l, 50, latest, 79, 50, 10, 5, 6, no)
	tells(t, l, 50, latest, 80, 50, 10, 5, 6, no, 8)
	tells(t, l, 50, 81, 80, 50, 10, 5, 6, no, 8)
	tells(t, l, 50, latest, 50, 50, 10, 5)
	// Above now less the reach: of 30 to 90 from 30 on the slot of 30 is told at 89, and not at 90.
	tells(t, l, 30, latest, 89, 30, 10, 3, no, 5, 6, no, 8)
	tells(t, l, 30, latest, 90, 40, 10, no, 5, 6, no, 8, no)
	tells(t, l, 29, latest, 89, 30, 10, 3, no, 5, 6, no, 8)
	// Farther back the coarser ring is asked.
	tells(t, l, 29, latest, 90, 60, 60, 160)
	tells(t, l, 0, latest, 90, 0, 60, 100, 160)
	tells(t, l, 0, latest, 119, 0, 60, 100, 160)
	tells(t, l, 0, latest, 120, 0, 60, 100, 160, no)
	tells(t, l, 0, latest, 179, 0, 60, 100, 160, no)
	tells(t, l, 0, latest, 180, 0, 60, 100, 160, no, no)
	tells(t, l, 0, latest, 299, 0, 60, 100, 160, no, no, no)
	tells(t, l, 0, latest, 300, 60, 60, 160, no, no, no, no)
	tells(t, l, 0, latest, 359, 60, 60, 160, no, no, no, no)
	tells(t, l, 0, latest, 360, 120, 60, no, no, no, no, no)
	tells(t, l, 0, 61, 300, 60, 60, 160)
	tells(t, l, 0, latest, latest, 1099511627520, 60, no, no, no, no, no)
}

// TestFetchNone: where no slot is told, the series begins at the first time, rounded up.
func TestFetchNone(t *testing.T) {
	l := laid(t, way(api.Average, 500000, 10, 6, 60, 5), [3]int{0, 30, 3}, [3]int{1, 0, 100})
	tells(t, l, 31, 32, 50, 40, 10)
	tells(t, l, 31, 40, 50, 40, 10)
	tells(t, l, 60, 100, 50, 60, 10)
	tells(t, l, 51, 100, 50, 60, 10)
	tells(t, l, 50, 100, 49, 50, 10)
	tells(t, l, 0, 60, 300, 0, 60)
	tells(t, l, 0, 1, 100000, 0, 60)
	tells(t, l, 1, 60, 100, 60, 60)
	tells(t, l, 61, 62, 1000, 120, 60)
	tells(t, l, latest-1, latest, 0, 1099511627780, 10)
}

// TestFetchFull: a ring of 400 slots is told whole, and no slot more.
func TestFetchFull(t *testing.T) {
	l := fresh(t, way(api.Sum, 0, 1, 400, 216, 400, 86400, 400))
	for i := range 1000 {
		l = take(t, l, i, [2]int{i, i})
	}
	var all []int64
	for i := 600; i < 1000; i++ {
		all = append(all, int64(i))
	}
	tells(t, l, 599, 1000, 999, 600, 1, all...)
	tells(t, l, 600, 1000, 999, 600, 1, all...)
	tells(t, l, 599, latest, 999, 600, 1, all...)
	tells(t, l, 0, 1000, 999, 0, 216, 23220, 69876, 116532, 163188, 126684)
	tells(t, l, 0, 1000, 86401, 0, 86400, 499500)
	if s, e := fetches(t, l, 0, latest, latest); e != api.OK || len(s.Values) != 400 {
		t.Errorf("%d values, %d", len(s.Values), e)
	}
}

// TestBlend: what parts make by each method, those too whose sum can't be told.
func TestBlend(t *testing.T) {
	const most = math.MaxInt64
	for _, x := range []struct {
		parts                       []int64
		average, sum, least, m, end int64
	}{
		{nil, no, no, no, no, no}, {[]int64{}, no, no, no, no, no},
		{[]int64{0}, 0, 0, 0, 0, 0}, {[]int64{5}, 5, 5, 5, 5, 5}, {[]int64{-most}, -most, -most, -most, -most, -most},
		{[]int64{4, -2, 7}, 3, 9, -2, 7, 7}, {[]int64{7, -2, 4}, 3, 9, -2, 7, 4}, {[]int64{-2, 7, 4, 0}, 2, 9, -2, 7, 0}, {[]int64{0, 0, 1}, 0, 1, 0, 1, 1}, {[]int64{0, -1, -1}, -1, -2, -1, 0, -1},
		{[]int64{1, 2}, 2, 3, 1, 2, 2}, {[]int64{-1, -2}, -2, -3, -2, -1, -2}, {[]int64{3, 3, 3, 3}, 3, 12, 3, 3, 3},
		{[]int64{most, 1}, no, no, 1, most, 1}, {[]int64{most, 0, -1}, 3074457345618258602, most - 1, -1, most, -1}, {[]int64{most, 1, -1}, no, no, -1, most, -1}, {[]int64{most, -1, 1}, 3074457345618258602, most, -1, most, 1},
		{[]int64{-most, -1}, no, no, -most, -1, -1}, {[]int64{-most, -1, most}, no, no, -most, most, most}, {[]int64{-most, most, -1}, 0, -1, -most, most, -1}, {[]int64{most, most, most}, no, no, most, most, most},
		// -2^63 is no number: it counts as nothing, as layer 2 has it.
		{[]int64{no}, no, no, no, no, no}, {[]int64{no, no}, no, no, no, no, no}, {[]int64{no, 5}, no, no, 5, 5, 5}, {[]int64{5, no}, no, no, 5, 5, no}, {[]int64{-3, no, 4}, no, no, -3, 4, 4}, {[]int64{no, no, -8, no}, no, no, -8, -8, no},
	} {
		for method, v := range map[int]int64{0: no, 1: x.average, 2: x.sum, 3: x.least, 4: x.m, 5: x.end, 6: no, -1: no, math.MinInt: no, math.MaxInt: no} {
			want := api.Num{V: v}
			if v == no {
				want = api.Num{Null: true}
			}
			if n := ladder.Blend(method, x.parts); n != want {
				t.Errorf("Blend(%d, %v) = %v, want %v", method, x.parts, n, want)
			}
			blends(t, method, x.parts)
		}
	}
}

// TestSlots: all rings, the finest one first, each by rising times, however the slots stand in it.
func TestSlots(t *testing.T) {
	s := way(api.Last, 0, 10, 6, 60, 5, 300, 4)
	l := laid(t, s, [3]int{2, 300, 1}, [3]int{0, 70, 2}, [3]int{1, 0, 0}, [3]int{0, 20, 4}, [3]int{2, 0, 5}, [3]int{0, 60, 6}, [3]int{1, 300, -7}, [3]int{1, 240, 8})
	has(t, l, [3]int{0, 20, 4}, [3]int{0, 60, 6}, [3]int{0, 70, 2}, [3]int{1, 240, 8}, [3]int{1, 300, -7}, [3]int{2, 0, 5}, [3]int{2, 300, 1})
	has(t, fresh(t, s))
	// As many as all rings have, and no more.
	for i := range 3000 {
		l = take(t, l, i, [2]int{i, i})
	}
	if list := ladder.Slots(l); len(list) != 15 {
		t.Errorf("%d slots: %v", len(list), list)
	}
}

// TestBuild: rings are set by the records, in order, an older time behind a newer one, too; nothing is made of them.
func TestBuild(t *testing.T) {
	s := way(api.Sum, 0, 10, 3, 20, 5)
	has(t, laid(t, s))
	has(t, laid(t, s, [3]int{0, 0, 1}, [3]int{0, 10, 2}), [3]int{0, 0, 1}, [3]int{0, 10, 2})
	has(t, laid(t, s, [3]int{0, 0, 1}, [3]int{0, 0, 2}), [3]int{0, 0, 2})
	has(t, laid(t, s, [3]int{0, 0, 1}, [3]int{0, 30, 2}), [3]int{0, 30, 2})
	has(t, laid(t, s, [3]int{0, 30, 1}, [3]int{0, 0, 2}), [3]int{0, 0, 2})
	has(t, laid(t, s, [3]int{1, 100, 1}, [3]int{0, 30, 1}, [3]int{1, 0, 3}, [3]int{0, 0, 2}, [3]int{1, 100, 4}), [3]int{0, 0, 2}, [3]int{1, 100, 4})
	has(t, laid(t, s, [3]int{0, 1099511627770, 1}, [3]int{1, 1099511627760, 2}, [3]int{0, 0, -1}), [3]int{0, 0, -1}, [3]int{0, 1099511627770, 1}, [3]int{1, 1099511627760, 2})
	has(t, laid(t, way(api.Sum, 0, 1, 3), [3]int{0, latest, math.MaxInt64}, [3]int{0, latest - 1, -math.MaxInt64}), [3]int{0, latest - 1, -math.MaxInt64}, [3]int{0, latest, math.MaxInt64})
	// Rungs that are empty are as none.
	l, e := builds(t, s, []api.Record{{Kind: 3, Rungs: []api.Rung{}, Time: 10, Value: 5}})
	if e != api.OK {
		t.Errorf("a record of empty Rungs: %d", e)
	}
	has(t, l, [3]int{0, 10, 5})
}
