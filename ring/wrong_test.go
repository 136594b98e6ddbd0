package ring_test

import (
	"math"
	"slices"
	"testing"

	"isobar/api"
	"isobar/ring"
)

// refused holds all calls of a ring that isn't right to what they say of such a one.
func refused(t *testing.T, r api.Ring) {
	t.Helper()
	if right(r) || ring.Right(r) {
		t.Errorf("%s is right", brief(r))
	}
	lives(t, r)
	for _, at := range []int{0, 20, 25, 30, 60, latest, -1, latest + 1} {
		if slot, e := ring.Align(r, at); slot != 0 || e != api.ErrArg {
			t.Errorf("Align(%s, %d) = %d, %d", brief(r), at, slot, e)
		}
		lacks(t, r, at)
		for _, v := range []int64{0, 5, math.MinInt64} {
			if s, e := ring.Set(r, at, v); !same(s, r) || e != api.ErrArg {
				t.Errorf("Set(%s, %d, %d) = %s, %d", brief(r), at, v, brief(s), e)
			}
		}
		// Too many, or none, they would be: the ring comes first.
		for _, until := range []int{0, at, 60, latest} {
			if l, e := ring.Span(r, at, until); len(l) != 0 || e != api.ErrArg {
				t.Errorf("Span(%s, %d, %d) = %v, %d", brief(r), at, until, l, e)
			}
		}
	}
}

// TestWrongSizes: a step, or a count, that may not be.
func TestWrongSizes(t *testing.T) {
	for _, step := range edges() {
		if step < 1 || step > 86400 {
			refused(t, ringOf(step, none(3)...))
			refused(t, ringOf(step, api.Slot{}, api.Slot{Time: -1}, api.Slot{Time: -1}))
		}
	}
	for _, r := range []api.Ring{{}, {Step: 10}, {Step: 1, Slots: []api.Slot{}}, {Step: 10, Slots: none(401)}, {Step: 10, Slots: none(402)}, {Step: 1, Slots: none(100000)}, {Slots: none(3)}} {
		refused(t, r)
	}
	for _, step := range []int{1, 2, 10, 86399, 86400} {
		for _, count := range []int{1, 2, 399, 400} {
			if !holds(t, ringOf(step, none(count)...)) {
				t.Errorf("%d slots of %d aren't right", count, step)
			}
		}
	}
}

// TestWrongSlots: each way in which one slot isn't as it must be, at each place of a ring of three, beside others that are.
func TestWrongSlots(t *testing.T) {
	good := []api.Slot{{Time: 30, Value: 1}, {Time: 10, Value: 2}, {Time: 50, Value: 3}}
	wrong := []api.Slot{
		{Time: -1, Value: 1}, {Time: -1, Value: -1}, {Time: -1, Value: math.MinInt64}, {Time: -1, Value: math.MaxInt64},
		{Time: -2}, {Time: -10}, {Time: -30, Value: 1}, {Time: -20}, {Time: math.MinInt}, {Time: math.MinInt, Value: math.MinInt64},
		{Time: 1}, {Time: 5}, {Time: 15}, {Time: 29}, {Time: 31}, {Time: 59}, {Time: latest}, {Time: latest - 1},
		{Time: latest + 4}, {Time: latest + 14}, {Time: latest + 24}, {Time: latest + 1}, {Time: math.MaxInt}, {Time: math.MaxInt - 7},
		{Time: 0, Value: math.MinInt64}, {Time: 10, Value: math.MinInt64}, {Time: 20, Value: math.MinInt64}, {Time: 30, Value: math.MinInt64},
	}
	for at := range 3 {
		for _, s := range wrong {
			for _, rest := range [][]api.Slot{good, none(3)} {
				l := slices.Clone(rest)
				l[at] = s
				refused(t, ringOf(10, l...))
			}
		}
		// Right ones elsewhere: each place has one of three multiples alone.
		for n := range 12 {
			l := slices.Clone(good)
			l[at] = api.Slot{Time: n * 10, Value: -5}
			if r := ringOf(10, l...); n%3 == at {
				if !holds(t, r) {
					t.Errorf("%s isn't right", brief(r))
				}
				tells(t, r, n*10+9, -5)
			} else {
				refused(t, r)
			}
		}
	}
}

// TestLatestSlot: the latest time has a slot where it is a multiple of the step, and the next multiple has none.
func TestLatestSlot(t *testing.T) {
	for _, step := range []int{1, 2, 4, 1024, 65536} {
		for _, count := range []int{1, 3, 7, 400} {
			for _, at := range []int{latest, latest - step, latest + step} {
				l := none(count)
				l[at/step%count] = api.Slot{Time: at, Value: 4}
				if r := ringOf(step, l...); at > latest {
					refused(t, r)
				} else {
					holds(t, r)
					tells(t, r, at, 4)
					lives(t, r, api.Slot{Time: at, Value: 4})
				}
			}
		}
	}
}

// TestWrongTimes: times that may not be, of a ring that is right; of a span either of them, also where it would have too many slots, or none.
func TestWrongTimes(t *testing.T) {
	r := ringOf(10, api.Slot{Time: 30, Value: 1}, api.Slot{Time: -1}, api.Slot{Time: 20, Value: 2})
	for _, at := range edges() {
		gets(t, r, at)
		for _, v := range values() {
			sets(t, r, at, v)
		}
		for _, until := range edges() {
			spans(t, r, at, until)
		}
		if 0 <= at && at <= latest {
			continue
		}
		if slot, e := ring.Align(r, at); slot != 0 || e != api.ErrArg {
			t.Errorf("Align(%d) = %d, %d", at, slot, e)
		}
		lacks(t, r, at)
		if s, e := ring.Set(r, at, 5); !same(s, r) || e != api.ErrArg {
			t.Errorf("Set(%d) = %s, %d", at, brief(s), e)
		}
		for _, x := range [][2]int{{at, 50}, {0, at}, {at, at}, {at, 0}, {latest, at}, {at, latest}} {
			if l, e := ring.Span(r, x[0], x[1]); len(l) != 0 || e != api.ErrArg {
				t.Errorf("Span(%d, %d) = %v, %d", x[0], x[1], l, e)
			}
		}
	}
}
