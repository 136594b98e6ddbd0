package ladder_test

import (
	"math"
	"slices"
	"testing"

	"isobar/api"
	"isobar/ladder"
)

// refused holds all calls of a ladder that isn't right to what they say of such a one.
func refused(t *testing.T, l api.Ladder) {
	t.Helper()
	if right(l) || ladder.Right(l) {
		t.Errorf("%s is right", brief(l))
	}
	if list := ladder.Slots(l); len(list) != 0 {
		t.Errorf("Slots(%s) = %v", brief(l), list)
	}
	for _, now := range times() {
		for _, at := range times() {
			refuses(t, l, api.Point{Time: at, Value: 5}, now, api.ErrArg)
			if i := ladder.Pick(l, at, now); i != 0 {
				t.Errorf("Pick(%s, %d, %d) = %d", brief(l), at, now, i)
			}
			unfetched(t, l, at, latest, now)
			unfetched(t, l, 0, at, now)
		}
	}
}

// unfetched holds Fetch to ErrArg.
func unfetched(t *testing.T, l api.Ladder, from, until, now int) {
	t.Helper()
	if s, e := ladder.Fetch(l, from, until, now); e != api.ErrArg || !sameSeries(s, api.Series{}) {
		t.Errorf("Fetch(%s, %d, %d, %d) = %v, %d", brief(l), from, until, now, s, e)
	}
	fetches(t, l, from, until, now)
}

// wrongWays are schemas that may not be, each for one thing.
func wrongWays() []api.Schema {
	list := []api.Schema{
		{}, {Method: 1}, {Method: 1, Factor: 500000, Rungs: []api.Rung{}},
		way(1, 0, 10, 6, 60, 5, 300, 4, 600, 4, 1200, 4), way(1, 0, 0, 6), way(1, 0, -10, 6), way(1, 0, 86401, 6), way(1, 0, 10, 0), way(1, 0, 10, -6), way(1, 0, 10, 401),
		// No greater step, no multiple, no further reach, too few slots ahead.
		way(1, 0, 10, 6, 10, 7), way(1, 0, 60, 5, 10, 60), way(1, 0, 10, 9, 25, 9), way(1, 0, 10, 6, 60, 1), way(1, 0, 10, 12, 60, 2), way(1, 0, 10, 5, 60, 5), way(1, 0, 10, 6, 60, 5, 360, 4), way(1, 0, 10, 6, 60, 6, 360, 1),
		way(1, 0, 1<<62, 4), way(1, 0, 10, 1<<62), way(1, 0, math.MinInt, math.MinInt), way(1, 0, math.MaxInt, math.MaxInt),
	}
	for _, method := range []int{0, -1, 6, 7, 256, 257, math.MinInt, math.MaxInt} {
		list = append(list, way(method, 500000, 10, 6, 60, 5))
	}
	for _, factor := range []int64{-1, 1000001, -1000000, 1<<32 + 1, math.MinInt64, math.MaxInt64} {
		list = append(list, way(1, factor, 10, 6, 60, 5))
	}
	return list
}

// TestWrongWays: of such a schema there is no ladder, nor is one right that has it.
func TestWrongWays(t *testing.T) {
	for _, s := range wrongWays() {
		if l, e := ladder.New(s); e != api.ErrArg || !same(l, api.Ladder{}) {
			t.Errorf("New(%v) = %s, %d", s, brief(l), e)
		}
		news(t, s)
		for _, list := range [][]api.Record{nil, slotsOf([3]int{0, 0, 1}), slotsOf([3]int{4, 5, no})} {
			if l, e := ladder.Build(s, list); e != api.ErrArg || !same(l, api.Ladder{}) {
				t.Errorf("Build(%v, %v) = %s, %d", s, list, brief(l), e)
			}
		}
		l := api.Ladder{Method: s.Method, Factor: s.Factor}
		for _, g := range s.Rungs {
			l.Rings = append(l.Rings, api.Ring{Step: g.Step, Slots: none(max(0, min(g.Count, 500)))})
		}
		refused(t, l)
	}
	// Beside them stand those that may be.
	for _, s := range []api.Schema{
		way(1, 0, 10, 6, 60, 5, 300, 4, 600, 4), way(5, 1000000, 86400, 400), way(1, 0, 1, 1), way(1, 0, 10, 6, 60, 2), way(1, 0, 10, 12, 60, 3), way(1, 0, 10, 13, 60, 3), way(1, 0, 10, 6, 60, 6, 360, 2),
	} {
		has(t, fresh(t, s))
	}
}

// TestWrongRings: a ladder one of whose rings isn't right isn't right, whichever it is.
func TestWrongRings(t *testing.T) {
	s := way(api.Sum, 500000, 10, 6, 60, 5, 300, 4)
	good := laid(t, s, [3]int{0, 30, 3}, [3]int{0, 60, 6}, [3]int{1, 60, 7}, [3]int{2, 300, 8})
	for i, r := range good.Rings {
		for at := range r.Slots {
			for _, x := range []api.Slot{{Time: -1, Value: 1}, {Time: -2}, {Time: -r.Step}, {Time: at*r.Step + 1}, {Time: (at + 1) * r.Step}, {Time: at * r.Step, Value: math.MinInt64}, {Time: latest + 24}, {Time: math.MinInt}, {Time: math.MaxInt}} {
				l := copied(good)
				l.Rings[i].Slots[at] = x
				refused(t, l)
			}
		}
	}
	for i := range good.Rings {
		l := copied(good)
		l.Rings[i] = api.Ring{}
		refused(t, l)
		l = copied(good)
		l.Rings[i].Slots = nil
		refused(t, l)
		l = copied(good)
		slices.Reverse(l.Rings[i].Slots)
		refused(t, l)
	}
	l := copied(good)
	slices.Reverse(l.Rings)
	refused(t, l)
	// More rings than there may be, though each two go together.
	l = api.Ladder{Method: 1}
	for i := range 5 {
		l.Rings = append(l.Rings, api.Ring{Step: 10 << i, Slots: none(6)})
	}
	refused(t, l)
	l.Rings = l.Rings[:4]
	has(t, l)
}

// TestWrongPoints: times, and a value, that may not be; of several errors the first one that Accept's words name.
func TestWrongPoints(t *testing.T) {
	l := laid(t, way(api.Sum, 500000, 10, 6, 60, 5), [3]int{0, 30, 3}, [3]int{1, 0, 7})
	for _, at := range edges() {
		for _, now := range edges() {
			for _, v := range values() {
				_, e := accepts(t, l, api.Point{Time: at, Value: v}, now)
				may := 0 <= at && at <= latest && 0 <= now && now <= latest && v != math.MinInt64
				if may == (e == api.ErrArg) || may && (at > now) != (e == api.ErrRange) {
					t.Fatalf("Accept(%d, %d at %d): %d", at, v, now, e)
				}
			}
		}
	}
	for _, x := range []struct {
		p    api.Point
		now  int
		want api.Errno
	}{
		{api.Point{Time: -1}, 5, api.ErrArg}, {api.Point{Time: 5}, -1, api.ErrArg}, {api.Point{Time: latest + 1}, latest, api.ErrArg}, {api.Point{Time: 0}, latest + 1, api.ErrArg}, {api.Point{Time: latest}, latest + 1, api.ErrArg},
		{api.Point{Time: latest + 1}, 5, api.ErrArg}, {api.Point{Time: 6, Value: no}, 5, api.ErrArg}, {api.Point{Time: 0, Value: no}, 5000, api.ErrArg}, {api.Point{Time: 5, Value: no}, 5, api.ErrArg}, {api.Point{Time: -1}, 5000, api.ErrArg},
		{api.Point{Time: 6}, 5, api.ErrRange}, {api.Point{Time: 5, Value: 1 - math.MaxInt64}, 5, api.OK}, {api.Point{}, 5000, api.ErrOld},
	} {
		if x.want != api.OK {
			refuses(t, l, x.p, x.now, x.want)
		} else {
			has(t, take(t, l, x.now, [2]int{x.p.Time, int(x.p.Value)}), [3]int{0, 0, int(x.p.Value)}, [3]int{0, 30, 3}, [3]int{1, 0, 7})
		}
	}
}

// TestWrongSpans: times that may not be, and a span that ends where it begins, or ahead of it.
func TestWrongSpans(t *testing.T) {
	l := laid(t, way(api.Sum, 500000, 10, 6, 60, 5), [3]int{0, 30, 3}, [3]int{1, 0, 7})
	for _, from := range edges() {
		for _, now := range edges() {
			picks(t, l, from, now)
			for _, until := range edges() {
				_, e := fetches(t, l, from, until, now)
				if may := 0 <= from && from < until && until <= latest && 0 <= now && now <= latest; may == (e == api.ErrArg) {
					t.Fatalf("Fetch(%d, %d, %d): %d", from, until, now, e)
				}
			}
		}
	}
	for _, x := range [][3]int{{5, 5, 75}, {0, 0, 75}, {6, 5, 75}, {60, 0, 75}, {-1, 5, 75}, {-10, -5, 75}, {0, latest + 1, 75}, {latest, latest, 75}, {latest, latest + 1, latest}, {0, 5, -1}, {0, 5, latest + 1}, {math.MinInt, math.MaxInt, 75}} {
		unfetched(t, l, x[0], x[1], x[2])
	}
	for _, x := range [][2]int{{-1, 1000}, {0, -1}, {0, latest + 1}, {latest + 1, latest}, {math.MinInt, 1000}, {-1, latest}, {0, math.MaxInt}} {
		asks(t, l, x[0], x[1], 0)
	}
}

// TestWrongRecords: each way in which a record isn't a slot of one of the rings, first, between, and last of good ones.
func TestWrongRecords(t *testing.T) {
	s := way(api.Sum, 500000, 10, 6, 60, 5)
	good := slotsOf([3]int{0, 30, 3}, [3]int{1, 60, 7})
	for _, x := range []api.Record{
		{}, {Kind: 1}, {Kind: 2}, {Kind: 4}, {Kind: -3}, {Kind: 3 + 1<<32},
		{Kind: 1, Path: "a", Method: 2, Factor: 500000, Rungs: s.Rungs}, {Kind: 2, Time: 10, Now: 10, Value: 5},
		{Kind: 3, Rung: -1}, {Kind: 3, Rung: 2}, {Kind: 3, Rung: 3}, {Kind: 3, Rung: 4}, {Kind: 3, Rung: math.MinInt}, {Kind: 3, Rung: math.MaxInt},
		{Kind: 3, Time: 5}, {Kind: 3, Time: -1}, {Kind: 3, Time: -10}, {Kind: 3, Time: 1}, {Kind: 3, Rung: 1, Time: 10}, {Kind: 3, Rung: 1, Time: 61}, {Kind: 3, Rung: 1, Time: -60},
		{Kind: 3, Time: latest}, {Kind: 3, Time: latest + 4}, {Kind: 3, Time: latest + 24}, {Kind: 3, Time: math.MinInt}, {Kind: 3, Time: math.MaxInt - 7}, {Kind: 3, Rung: 1, Time: latest + 44},
		{Kind: 3, Value: math.MinInt64}, {Kind: 3, Rung: 1, Value: math.MinInt64},
		{Kind: 3, Path: "a"}, {Kind: 3, Path: "\x00"}, {Kind: 3, Method: 1}, {Kind: 3, Method: -1}, {Kind: 3, Factor: 1}, {Kind: 3, Factor: -1}, {Kind: 3, Rungs: []api.Rung{{}}}, {Kind: 3, Rungs: s.Rungs}, {Kind: 3, Now: 1}, {Kind: 3, Now: -1}, {Kind: 3, Time: 10, Now: 10},
	} {
		for at := range len(good) + 1 {
			list := slices.Insert(slices.Clone(good), at, x)
			if l, e := ladder.Build(s, list); e != api.ErrArg || !same(l, api.Ladder{}) {
				t.Errorf("Build(%v) = %s, %d", list, brief(l), e)
			}
			builds(t, s, list)
		}
	}
	// A rung of one ladder is none of another one.
	if _, e := builds(t, way(api.Sum, 500000, 10, 6), good); e != api.ErrArg {
		t.Errorf("a slot of no ring: %d", e)
	}
	if _, e := builds(t, way(api.Sum, 500000, 20, 6, 60, 5), good); e != api.ErrArg {
		t.Errorf("a slot of another step: %d", e)
	}
}
