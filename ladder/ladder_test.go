package ladder_test

import (
	"math"
	"slices"
	"testing"

	"isobar/api"
	"isobar/ladder"
)

// no stands for nothing where values are told by hand: no slot has it.
const no = math.MinInt64

// fresh is a ladder without values.
func fresh(t *testing.T, s api.Schema) api.Ladder {
	t.Helper()
	news(t, s)
	l, e := ladder.New(s)
	if e != api.OK {
		t.Fatalf("New(%v): %d", s, e)
	}
	return l
}

// laid is a ladder of some slots: of each its ring's number, its time and its value.
func laid(t *testing.T, s api.Schema, slots ...[3]int) api.Ladder {
	t.Helper()
	l, e := builds(t, s, slotsOf(slots...))
	if e != api.OK {
		t.Fatalf("Build(%v, %v): %d", s, slots, e)
	}
	return l
}

// slotsOf are records of slots: of each its ring's number, its time and its value.
func slotsOf(slots ...[3]int) []api.Record {
	var list []api.Record
	for _, x := range slots {
		list = append(list, api.Record{Kind: 3, Rung: x[0], Time: x[1], Value: int64(x[2])})
	}
	return list
}

// take is a ladder behind some points, one after the other, of a time and a value each.
func take(t *testing.T, l api.Ladder, now int, points ...[2]int) api.Ladder {
	t.Helper()
	for _, x := range points {
		m, e := accepts(t, l, api.Point{Time: x[0], Value: int64(x[1])}, now)
		if e != api.OK {
			t.Fatalf("Accept(%s, %v, %d): %d", brief(l), x, now, e)
		}
		l = m
	}
	return l
}

// has holds a ladder's slots to those that are told by hand, and what Slots and Build say of them.
func has(t *testing.T, l api.Ladder, slots ...[3]int) {
	t.Helper()
	want := slotsOf(slots...)
	if list := ladder.Slots(l); !sameRecords(list, want) {
		t.Errorf("Slots(%s) = %v, want %v", brief(l), list, want)
	}
	holds(t, l)
	for i, r := range l.Rings {
		for _, s := range r.Slots {
			there := [3]int{i, s.Time, int(s.Value)}
			if s != (api.Slot{Time: -1}) && !slices.Contains(slots, there) {
				t.Errorf("%s has %v", brief(l), there)
			}
		}
	}
}

// refuses holds Accept to an error that is told by hand, beside the ladder itself.
func refuses(t *testing.T, l api.Ladder, p api.Point, now int, want api.Errno) {
	t.Helper()
	m, e := ladder.Accept(l, p, now)
	if e != want || !same(m, l) {
		t.Errorf("Accept(%s, %v, %d) = %s, %d, want %d", brief(l), p, now, brief(m), e, want)
	}
	accepts(t, l, p, now)
}

// tells holds Fetch to a series that is told by hand.
func tells(t *testing.T, l api.Ladder, from, until, now, start, step int, values ...int64) {
	t.Helper()
	want := api.Series{Start: start, Step: step}
	for _, v := range values {
		n := api.Num{V: v}
		if v == no {
			n = api.Num{Null: true}
		}
		want.Values = append(want.Values, n)
	}
	if s, e := ladder.Fetch(l, from, until, now); !sameSeries(s, want) || e != api.OK {
		t.Errorf("Fetch(%s, %d, %d, %d) = %v, %d, want %v", brief(l), from, until, now, s, e, want)
	}
	fetches(t, l, from, until, now)
}

// asks holds Pick to a ring that is told by hand.
func asks(t *testing.T, l api.Ladder, from, now, want int) {
	t.Helper()
	if i := ladder.Pick(l, from, now); i != want {
		t.Errorf("Pick(%s, %d, %d) = %d, want %d", brief(l), from, now, i, want)
	}
	picks(t, l, from, now)
}

func TestExample(t *testing.T) {
	l := fresh(t, way(api.Average, 500000, 10, 6, 60, 5))
	l = take(t, l, 30, [2]int{0, 1000000}, [2]int{10, 2000000})
	has(t, l, [3]int{0, 0, 1000000}, [3]int{0, 10, 2000000})
	l = take(t, l, 30, [2]int{20, 3000000})
	has(t, l, [3]int{0, 0, 1000000}, [3]int{0, 10, 2000000}, [3]int{0, 20, 3000000}, [3]int{1, 0, 2000000})
}

// TestNew: a ladder has the rungs, the method and the factor of its schema, and no values.
func TestNew(t *testing.T) {
	for _, s := range []api.Schema{
		way(api.Average, 0, 1, 1), way(api.Last, 1000000, 86400, 400), way(api.Sum, 500000, 10, 6, 60, 5), way(api.Least, 1, 1, 400, 216, 400, 86400, 400),
		way(api.Most, 999999, 1, 2, 2, 2, 4, 2, 8, 2), way(api.Average, 333333, 60, 10, 120, 6, 600, 2),
	} {
		l := fresh(t, s)
		if l.Method != s.Method || l.Factor != s.Factor || !slices.Equal(rungsOf(l), s.Rungs) || !ladder.Right(l) {
			t.Errorf("New(%v) = %s", s, brief(l))
		}
		for _, r := range l.Rings {
			if !slices.Equal(r.Slots, none(len(r.Slots))) {
				t.Errorf("New(%v) has %v", s, r)
			}
		}
		has(t, l)
	}
}

// TestFactor: how many of six parts are enough, by the factor; one at least, though the factor be 0.
func TestFactor(t *testing.T) {
	for factor, enough := range map[int64]int{0: 1, 1: 1, 166666: 1, 166667: 2, 333333: 2, 333334: 3, 500000: 3, 500001: 4, 666666: 4, 666667: 5, 833333: 5, 833334: 6, 999999: 6, 1000000: 6} {
		l := fresh(t, way(api.Last, factor, 10, 6, 60, 5))
		for i := range 6 {
			l = take(t, l, 59, [2]int{i*10 + i, i + 100})
			want := []api.Slot{}
			if i+1 >= enough {
				want = append(want, api.Slot{Time: 0, Value: int64(i + 100)})
			}
			if got := within(l.Rings[1], 0, 600); !slices.Equal(got, want) {
				t.Errorf("by %d, of %d parts: %v, want %v", factor, i+1, got, want)
			}
		}
	}
	// Counted are slots that were set, not points.
	l := take(t, fresh(t, way(api.Sum, 500000, 10, 6, 60, 5)), 59, [2]int{0, 1}, [2]int{3, 2}, [2]int{9, 3}, [2]int{10, 4})
	has(t, l, [3]int{0, 0, 3}, [3]int{0, 10, 4})
	// The share is that of the ring ahead: of two rings, each of two slots of the one ahead.
	l = take(t, fresh(t, way(api.Sum, 1000000, 1, 4, 2, 4, 4, 4)), 3, [2]int{0, 1}, [2]int{1, 2}, [2]int{2, 3})
	has(t, l, [3]int{0, 0, 1}, [3]int{0, 1, 2}, [3]int{0, 2, 3}, [3]int{1, 0, 3})
	has(t, take(t, l, 3, [2]int{3, 4}), [3]int{0, 0, 1}, [3]int{0, 1, 2}, [3]int{0, 2, 3}, [3]int{0, 3, 4}, [3]int{1, 0, 3}, [3]int{1, 2, 7}, [3]int{2, 0, 10})
}

// TestMethods: what four of six parts make; in the order of their slots, not of their coming.
func TestMethods(t *testing.T) {
	for method, want := range map[int]int{api.Average: 4, api.Sum: 14, api.Least: -2, api.Most: 7, api.Last: 5} {
		for _, come := range [][][2]int{{{0, 4}, {10, -2}, {20, 7}, {59, 5}}, {{50, 5}, {29, 7}, {10, -2}, {9, 4}}, {{25, 7}, {55, 5}, {1, 4}, {19, -2}}} {
			l := take(t, fresh(t, way(method, 500000, 10, 6, 60, 5)), 59, come...)
			has(t, l, [3]int{0, 0, 4}, [3]int{0, 10, -2}, [3]int{0, 20, 7}, [3]int{0, 50, 5}, [3]int{1, 0, want})
		}
	}
}

// TestRounding: an average is rounded to millionths, a half away from zero, and each coarser one is one of rounded ones.
func TestRounding(t *testing.T) {
	for _, x := range [][3]int{{1, 2, 2}, {-1, -2, -2}, {1, 0, 1}, {-1, 0, -1}, {-1, 1, 0}, {2, 4, 3}, {2, 5, 4}, {-2, -5, -4}, {math.MaxInt64, -math.MaxInt64, 0}, {math.MaxInt64, 0, 1 << 62}, {math.MaxInt64, -1, math.MaxInt64 / 2}} {
		l := take(t, fresh(t, way(api.Average, 1000000, 1, 2, 2, 2)), 1, [2]int{0, x[0]}, [2]int{1, x[1]})
		has(t, l, [3]int{0, 0, x[0]}, [3]int{0, 1, x[1]}, [3]int{1, 0, x[2]})
	}
	for _, x := range [][4]int{{1, 0, 0, 0}, {1, 1, 0, 1}, {-1, -1, 0, -1}, {-1, 0, 0, 0}, {5, 5, 7, 6}} {
		l := take(t, fresh(t, way(api.Average, 1000000, 1, 3, 3, 2)), 2, [2]int{0, x[0]}, [2]int{1, x[1]}, [2]int{2, x[2]})
		has(t, l, [3]int{0, 0, x[0]}, [3]int{0, 1, x[1]}, [3]int{0, 2, x[2]}, [3]int{1, 0, x[3]})
	}
	// 1 and 2 make 2, 2 and 2 make 2; all four at once were 1.75.
	l := take(t, fresh(t, way(api.Average, 1000000, 1, 4, 2, 4, 4, 4)), 3, [2]int{0, 1}, [2]int{1, 2}, [2]int{2, 0}, [2]int{3, 1})
	has(t, l, [3]int{0, 0, 1}, [3]int{0, 1, 2}, [3]int{0, 2, 0}, [3]int{0, 3, 1}, [3]int{1, 0, 2}, [3]int{1, 2, 1}, [3]int{2, 0, 2})
}

// TestReach: the first ring that reaches a point's slot has it; where none does, the point is old.
func TestReach(t *testing.T) {
	l := fresh(t, way(api.Sum, 1000000, 10, 6, 60, 5))
	for _, x := range []struct{ at, now, ring int }{
		{0, 0, 0}, {0, 59, 0}, {9, 59, 0}, {0, 60, 1}, {9, 60, 1}, {9, 69, 1}, {10, 69, 0}, {19, 69, 0}, {19, 70, 1}, {20, 70, 0},
		{49, 100, 1}, {50, 100, 0}, {100, 100, 0}, {59, 299, 1}, {0, 299, 1}, {60, 300, 1}, {60, 359, 1}, {119, 359, 1}, {120, 400, 1}, {120, 419, 1},
		{340, 400, 1}, {349, 400, 1}, {350, 400, 0}, {latest, latest, 0}, {latest - 56, latest, 0}, {latest - 57, latest, 1}, {latest - 256, latest, 1},
	} {
		has(t, take(t, l, x.now, [2]int{x.at, 7}), [3]int{x.ring, x.at - x.at%rungsOf(l)[x.ring].Step, 7})
	}
	for _, x := range [][2]int{{0, 300}, {59, 300}, {59, 10000}, {60, 360}, {119, 360}, {119, 400}, {119, 419}, {0, latest}, {latest - 257, latest}} {
		refuses(t, l, api.Point{Time: x[0], Value: 7}, x[1], api.ErrOld)
	}
	for _, x := range [][2]int{{1, 0}, {101, 100}, {latest, 0}, {latest, latest - 1}, {300, 299}} {
		refuses(t, l, api.Point{Time: x[0], Value: 7}, x[1], api.ErrRange)
	}
}

// TestFirstThatReaches: rings ahead of the first one that reaches a time stay as they are; those behind it are made of it, one by one.
func TestFirstThatReaches(t *testing.T) {
	s := way(api.Sum, 500000, 10, 6, 60, 5, 120, 10)
	l := laid(t, s, [3]int{0, 0, 1}, [3]int{0, 10, 2}, [3]int{1, 0, 9}, [3]int{1, 60, 5}, [3]int{2, 0, 4})
	has(t, take(t, l, 100, [2]int{30, 6}), [3]int{0, 0, 1}, [3]int{0, 10, 2}, [3]int{1, 0, 6}, [3]int{1, 60, 5}, [3]int{2, 0, 11})
	has(t, take(t, l, 400, [2]int{125, 6}), [3]int{0, 0, 1}, [3]int{0, 10, 2}, [3]int{1, 0, 9}, [3]int{1, 60, 5}, [3]int{1, 120, 6}, [3]int{2, 0, 4}, [3]int{2, 120, 6})
	has(t, take(t, l, 700, [2]int{125, 6}), [3]int{0, 0, 1}, [3]int{0, 10, 2}, [3]int{1, 0, 9}, [3]int{1, 60, 5}, [3]int{2, 0, 4}, [3]int{2, 120, 6})
	// It is set there, not added to what stood there.
	has(t, take(t, l, 700, [2]int{119, 6}), [3]int{0, 0, 1}, [3]int{0, 10, 2}, [3]int{1, 0, 9}, [3]int{1, 60, 5}, [3]int{2, 0, 6})
	// Two of a slot of the second ring: the last one stays, whether it came straight there, or was made.
	l = take(t, fresh(t, s), 100, [2]int{0, 8}, [2]int{20, 9})
	has(t, l, [3]int{1, 0, 9}, [3]int{2, 0, 9})
	l = take(t, l, 50, [2]int{0, 1}, [2]int{10, 2}, [2]int{20, 3})
	has(t, l, [3]int{0, 0, 1}, [3]int{0, 10, 2}, [3]int{0, 20, 3}, [3]int{1, 0, 6}, [3]int{2, 0, 6})
	has(t, take(t, l, 100, [2]int{20, 4}), [3]int{0, 0, 1}, [3]int{0, 10, 2}, [3]int{0, 20, 3}, [3]int{1, 0, 4}, [3]int{2, 0, 4})
}

// TestOneBetween: a ring between, whose longer slot of the time lies too far back, stays as it is; the next one is made of it.
func TestOneBetween(t *testing.T) {
	s := way(api.Sum, 500000, 10, 11, 60, 2, 120, 2)
	l := laid(t, s, [3]int{0, 60, 3}, [3]int{0, 70, 4}, [3]int{1, 0, 5}, [3]int{1, 60, 7}, [3]int{2, 0, 1})
	has(t, take(t, l, 219, [2]int{110, 9}), [3]int{0, 60, 3}, [3]int{0, 70, 4}, [3]int{0, 110, 9}, [3]int{1, 0, 5}, [3]int{1, 60, 7}, [3]int{2, 0, 12})
	has(t, take(t, l, 179, [2]int{110, 9}), [3]int{0, 60, 3}, [3]int{0, 70, 4}, [3]int{0, 110, 9}, [3]int{1, 0, 5}, [3]int{1, 60, 16}, [3]int{2, 0, 21})
	has(t, take(t, l, 180, [2]int{110, 9}), [3]int{0, 60, 3}, [3]int{0, 70, 4}, [3]int{0, 110, 9}, [3]int{1, 0, 5}, [3]int{1, 60, 7}, [3]int{2, 0, 12})
	// The last ring, too, may not reach it.
	l = laid(t, way(api.Sum, 0, 10, 11, 60, 2), [3]int{1, 60, 7})
	has(t, take(t, l, 219, [2]int{110, 9}), [3]int{0, 110, 9}, [3]int{1, 60, 7})
	has(t, take(t, l, 179, [2]int{110, 9}), [3]int{0, 110, 9}, [3]int{1, 60, 9})
}

// TestStays: a coarser slot stays as it is, if the parts are too few, or make nothing; the next ring is made of it even so.
func TestStays(t *testing.T) {
	s := way(api.Sum, 500000, 10, 6, 60, 5, 300, 4)
	l := laid(t, s, [3]int{1, 0, 8}, [3]int{1, 60, 9}, [3]int{1, 180, 10}, [3]int{2, 0, 1})
	has(t, take(t, l, 200, [2]int{190, 6}), [3]int{0, 190, 6}, [3]int{1, 0, 8}, [3]int{1, 60, 9}, [3]int{1, 180, 10}, [3]int{2, 0, 27})
	has(t, take(t, l, 200, [2]int{190, 6}, [2]int{180, 5}, [2]int{200, 4}), [3]int{0, 180, 5}, [3]int{0, 190, 6}, [3]int{0, 200, 4}, [3]int{1, 0, 8}, [3]int{1, 60, 9}, [3]int{1, 180, 15}, [3]int{2, 0, 32})
	l = laid(t, s, [3]int{1, 0, 8}, [3]int{1, 60, 9}, [3]int{2, 0, 1})
	has(t, take(t, l, 200, [2]int{190, 6}), [3]int{0, 190, 6}, [3]int{1, 0, 8}, [3]int{1, 60, 9}, [3]int{2, 0, 1})
	for _, method := range []int{api.Average, api.Sum} {
		l = laid(t, way(method, 0, 1, 3, 3, 3), [3]int{1, 0, 42})
		l = take(t, l, 2, [2]int{1, math.MaxInt64})
		has(t, l, [3]int{0, 1, math.MaxInt64}, [3]int{1, 0, math.MaxInt64})
		l = take(t, l, 2, [2]int{2, 1})
		has(t, l, [3]int{0, 1, math.MaxInt64}, [3]int{0, 2, 1}, [3]int{1, 0, math.MaxInt64})
		// From the first one on: it isn't known what the whole makes, though it could be told.
		l = laid(t, way(method, 0, 1, 3, 3, 3), [3]int{0, 0, math.MaxInt64}, [3]int{0, 1, 1}, [3]int{1, 0, 42})
		has(t, take(t, l, 2, [2]int{2, -5}), [3]int{0, 0, math.MaxInt64}, [3]int{0, 1, 1}, [3]int{0, 2, -5}, [3]int{1, 0, 42})
	}
	l = laid(t, way(api.Sum, 0, 1, 3, 3, 3), [3]int{0, 0, -5}, [3]int{0, 1, 1}, [3]int{1, 0, 42})
	has(t, take(t, l, 2, [2]int{2, math.MaxInt64}), [3]int{0, 0, -5}, [3]int{0, 1, 1}, [3]int{0, 2, math.MaxInt64}, [3]int{1, 0, math.MaxInt64 - 4})
}

// TestParts: slots of another round at a part's place aren't parts; those after now are.
func TestParts(t *testing.T) {
	s := way(api.Sum, 500000, 10, 6, 60, 5)
	l := laid(t, s, [3]int{0, 60, 100}, [3]int{0, 10, 2}, [3]int{0, 20, 3}, [3]int{0, 110, 200})
	has(t, take(t, l, 80, [2]int{30, 6}), [3]int{0, 10, 2}, [3]int{0, 20, 3}, [3]int{0, 30, 6}, [3]int{0, 60, 100}, [3]int{0, 110, 200}, [3]int{1, 0, 11})
	// A point that takes a part's place away leaves too few of them: what was made stays.
	l = take(t, fresh(t, s), 59, [2]int{0, 1}, [2]int{10, 2}, [2]int{20, 3})
	l = take(t, l, 69, [2]int{60, 4})
	has(t, l, [3]int{0, 10, 2}, [3]int{0, 20, 3}, [3]int{0, 60, 4}, [3]int{1, 0, 6})
	has(t, take(t, l, 69, [2]int{10, 9}), [3]int{0, 10, 9}, [3]int{0, 20, 3}, [3]int{0, 60, 4}, [3]int{1, 0, 6})
	has(t, take(t, l, 69, [2]int{30, 9}), [3]int{0, 10, 2}, [3]int{0, 20, 3}, [3]int{0, 30, 9}, [3]int{0, 60, 4}, [3]int{1, 0, 14})
	l = laid(t, s, [3]int{0, 40, 5}, [3]int{0, 50, 6})
	has(t, take(t, l, 5, [2]int{5, 7}), [3]int{0, 0, 7}, [3]int{0, 40, 5}, [3]int{0, 50, 6}, [3]int{1, 0, 18})
	// Of more finer slots than one coarser one has, those of the neighbours aren't parts.
	l = take(t, fresh(t, way(api.Sum, 0, 10, 12, 30, 5)), 119, [2]int{20, 1}, [2]int{30, 2}, [2]int{50, 4}, [2]int{60, 8}, [2]int{40, 16})
	has(t, l, [3]int{0, 20, 1}, [3]int{0, 30, 2}, [3]int{0, 40, 16}, [3]int{0, 50, 4}, [3]int{0, 60, 8}, [3]int{1, 0, 1}, [3]int{1, 30, 22}, [3]int{1, 60, 8})
}

// TestLatest: the latest time is a part, too; of its coarser slot there are none behind it.
func TestLatest(t *testing.T) {
	for factor, enough := range map[int64]bool{0: true, 250000: true, 250001: false} {
		l := take(t, fresh(t, way(api.Sum, factor, 1, 4, 4, 4)), latest, [2]int{latest, 5})
		if enough {
			has(t, l, [3]int{0, latest, 5}, [3]int{1, latest, 5})
		} else {
			has(t, l, [3]int{0, latest, 5})
		}
	}
	l := take(t, fresh(t, way(api.Sum, 500000, 10, 6, 40, 4)), latest, [2]int{latest, 5}, [2]int{latest - 9, 6})
	has(t, l, [3]int{0, 1099511627760, 6}, [3]int{0, 1099511627770, 5}, [3]int{1, 1099511627760, 11})
	l = take(t, fresh(t, way(api.Last, 500000, 1024, 6, 2048, 4)), latest, [2]int{latest, 5}, [2]int{latest - 2048, 6}, [2]int{latest - 1, 7})
	has(t, l, [3]int{0, latest - 2048, 6}, [3]int{0, latest - 1024, 7}, [3]int{0, latest, 5}, [3]int{1, latest - 2048, 7}, [3]int{1, latest, 5})
	// No span ends behind the latest time.
	tells(t, l, latest-2048, latest, latest, latest-2048, 1024, 6, 7)
	tells(t, l, latest-1, latest, latest, latest, 1024)
	tells(t, fresh(t, way(api.Last, 0, 86400, 2)), latest-1, latest, latest, 1099511712000, 86400)
}
