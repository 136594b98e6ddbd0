package ring_test

import (
	"math"
	"slices"
	"testing"

	"isobar/api"
	"isobar/ring"
)

// fresh is a ring without values.
func fresh(t *testing.T, step, count int) api.Ring {
	t.Helper()
	r, e := ring.New(step, count)
	if e != api.OK {
		t.Fatalf("New(%d, %d): %d", step, count, e)
	}
	return r
}

// put is a ring behind some sets, one after the other, of a time and a value each.
func put(t *testing.T, r api.Ring, l ...[2]int) api.Ring {
	t.Helper()
	for _, x := range l {
		s, e := sets(t, r, x[0], int64(x[1]))
		if e != api.OK {
			t.Fatalf("Set(%s, %d, %d): %d", brief(r), x[0], x[1], e)
		}
		r = s
	}
	return r
}

// tells holds Get to a value that is told by hand; the tests' own reading too.
func tells(t *testing.T, r api.Ring, at int, v int64) {
	t.Helper()
	is(t, r, at, api.Num{V: v})
}

// lacks holds Get to nothing.
func lacks(t *testing.T, r api.Ring, at int) {
	t.Helper()
	is(t, r, at, api.Num{Null: true})
}

func is(t *testing.T, r api.Ring, at int, want api.Num) {
	t.Helper()
	if n := ring.Get(r, at); n != want {
		t.Errorf("Get(%s, %d) = %v, want %v", brief(r), at, n, want)
	}
	if n := got(r, at); n != want {
		t.Errorf("%d of %s is %v by the tests' own reading, want %v", at, brief(r), n, want)
	}
}

// lives holds Live to slots that are told by hand; the tests' own reading too.
func lives(t *testing.T, r api.Ring, want ...api.Slot) {
	t.Helper()
	if l := ring.Live(r); !slices.Equal(l, want) {
		t.Errorf("Live(%s) = %v, want %v", brief(r), l, want)
	}
	if l := living(r); !slices.Equal(l, want) {
		t.Errorf("of %s live %v by the tests' own reading, want %v", brief(r), l, want)
	}
}

// spells holds Span to values that are told by hand, where -1000 stands for nothing; the tests' own reading too.
func spells(t *testing.T, r api.Ring, from, until int, values ...int64) {
	t.Helper()
	var want []api.Num
	for _, v := range values {
		n := api.Num{V: v}
		if v == -1000 {
			n = api.Num{Null: true}
		}
		want = append(want, n)
	}
	if l, e := ring.Span(r, from, until); !slices.Equal(l, want) || e != api.OK {
		t.Errorf("Span(%s, %d, %d) = %v, %d, want %v", brief(r), from, until, l, e, want)
	}
	if l, e := spanned(r, from, until); !slices.Equal(l, want) || e != api.OK {
		t.Errorf("%s from %d to %d is %v, %d by the tests' own reading, want %v", brief(r), from, until, l, e, want)
	}
}

func TestExamples(t *testing.T) {
	r := put(t, fresh(t, 10, 3), [2]int{25, 5})
	tells(t, r, 20, 5)
	tells(t, r, 29, 5)
	lacks(t, r, 30)
	lacks(t, r, 19)
	r = put(t, r, [2]int{50, 6})
	lacks(t, r, 25)
	tells(t, r, 50, 6)
}

// TestNew: just such steps and counts as a ring may have; all slots without values.
func TestNew(t *testing.T) {
	for _, step := range edges() {
		for _, count := range edges() {
			news(t, step, count)
			r, e := ring.New(step, count)
			if good := 1 <= step && step <= 86400 && 1 <= count && count <= 400; good != (e == api.OK) {
				t.Fatalf("New(%d, %d): %d", step, count, e)
			} else if !good {
				if e != api.ErrArg || r.Step != 0 || len(r.Slots) != 0 {
					t.Fatalf("New(%d, %d) = %s, %d", step, count, brief(r), e)
				}
				continue
			}
			if !ring.Right(r) || r.Step != step || !slices.Equal(r.Slots, none(count)) {
				t.Fatalf("New(%d, %d) = %s", step, count, brief(r))
			}
			lives(t, r)
			lacks(t, r, 0)
			lacks(t, r, latest)
		}
	}
	for count := 1; count <= 400; count++ {
		news(t, 60, count)
	}
}

// TestAlign: a slot's first second, its last one, and the next slot's first one.
func TestAlign(t *testing.T) {
	for _, step := range []int{1, 2, 3, 10, 60, 86399, 86400} {
		for _, count := range []int{1, 3, 400} {
			r := fresh(t, step, count)
			for _, n := range []int{0, 1, 2, count - 1, count, count + 1, latest/step - 1} {
				for _, at := range []int{n * step, n*step + step/2, n*step + step - 1} {
					if slot, e := ring.Align(r, at); slot != n*step || e != api.OK {
						t.Errorf("Align(%s, %d) = %d, %d, want %d", brief(r), at, slot, e, n*step)
					}
				}
			}
		}
	}
	for step, want := range map[int]int{1: 1099511627776, 10: 1099511627770, 60: 1099511627760, 7: 1099511627774, 86400: 1099511625600, 65536: 1099511627776} {
		if slot, e := ring.Align(fresh(t, step, 5), latest); slot != want || e != api.OK {
			t.Errorf("the slot of 2^40 by %d is %d, %d, want %d", step, slot, e, want)
		}
	}
}

// TestPlaces: where slots stand, by hand.
func TestPlaces(t *testing.T) {
	r := put(t, fresh(t, 10, 3), [2]int{25, 5}, [2]int{47, -6}, [2]int{1, 7})
	if want := []api.Slot{{Time: 0, Value: 7}, {Time: 40, Value: -6}, {Time: 20, Value: 5}}; !slices.Equal(r.Slots, want) {
		t.Errorf("%v, want %v", r.Slots, want)
	}
	lives(t, r, api.Slot{Time: 0, Value: 7}, api.Slot{Time: 20, Value: 5}, api.Slot{Time: 40, Value: -6})
	r = put(t, fresh(t, 1, 400), [2]int{latest, 3}, [2]int{399, 4}, [2]int{400, 5}, [2]int{401, 6})
	for at, want := range map[int]api.Slot{176: {Time: latest, Value: 3}, 399: {Time: 399, Value: 4}, 0: {Time: 400, Value: 5}, 1: {Time: 401, Value: 6}, 2: {Time: -1}} {
		if r.Slots[at] != want {
			t.Errorf("at %d stands %v, want %v", at, r.Slots[at], want)
		}
	}
	r = put(t, fresh(t, 86400, 7), [2]int{latest, 1})
	if want := (api.Slot{Time: 1099511625600, Value: 1}); r.Slots[12725829%7] != want {
		t.Errorf("%v", r.Slots)
	}
}

// TestWhateverStoodThere: a slot takes its place from an older one, a newer one, and itself, however far away.
func TestWhateverStoodThere(t *testing.T) {
	empty := fresh(t, 10, 3)
	for _, ahead := range []int{0, 30, 60, 90, 300, 30000, 1099511627760} {
		for _, behind := range []int{0, 9, 30, 39, 60, 90, 300, 30000, 1099511627760} {
			r := put(t, empty, [2]int{ahead, 1}, [2]int{10, 8}, [2]int{29, 9}, [2]int{behind, 2})
			tells(t, r, behind, 2)
			tells(t, r, 15, 8)
			tells(t, r, 20, 9)
			if ahead/10 != behind/10 {
				lacks(t, r, ahead)
			}
			if l := ring.Live(r); len(l) != 3 {
				t.Errorf("%v live", l)
			}
		}
	}
	r := put(t, empty, [2]int{20, 5}, [2]int{29, 5}, [2]int{25, 0})
	tells(t, r, 20, 0)
	lives(t, r, api.Slot{Time: 20})
}

// TestOneSlot: a ring of one slot has the one that was set last.
func TestOneSlot(t *testing.T) {
	r := put(t, fresh(t, 60, 1), [2]int{61, 1}, [2]int{0, 2})
	lives(t, r, api.Slot{Time: 0, Value: 2})
	r = put(t, r, [2]int{latest, 3})
	lives(t, r, api.Slot{Time: 1099511627760, Value: 3})
	r = put(t, r, [2]int{1099511627759, 4})
	lives(t, r, api.Slot{Time: 1099511627700, Value: 4})
	spells(t, r, latest-100, latest, 4, -1000)
}

// TestValues: each value but -2^63 is told as it was set; 0 isn't nothing.
func TestValues(t *testing.T) {
	r := put(t, fresh(t, 10, 3), [2]int{25, 5}, [2]int{30, 6})
	for _, v := range values() {
		for _, at := range []int{0, 29, 40, latest} {
			s, e := sets(t, r, at, v)
			if v == math.MinInt64 {
				if e != api.ErrArg || !same(s, r) {
					t.Errorf("%d at %d: %s, %d", v, at, brief(s), e)
				}
				continue
			}
			tells(t, s, at, v)
			if v == 0 && ring.Get(s, at).Null {
				t.Errorf("0 at %d is nothing", at)
			}
		}
	}
}

// TestFull: a ring of 400 slots, all with a value, comes round one by one.
func TestFull(t *testing.T) {
	r := fresh(t, 60, 400)
	for i := range 1000 {
		r = put(t, r, [2]int{i*60 + i%60, i})
		tells(t, r, i*60, int64(i))
		if old := i - 400; old >= 0 {
			lacks(t, r, old*60)
			tells(t, r, (old+1)*60, int64(old+1))
		}
		l := ring.Live(r)
		if n := min(i+1, 400); len(l) != n || l[0].Value != int64(i+1-n) || l[n-1].Value != int64(i) {
			t.Fatalf("behind %d there live %v", i, l)
		}
	}
}

// TestSpan: multiples of the step alone, from the first time on, below the second one.
func TestSpan(t *testing.T) {
	r := put(t, fresh(t, 10, 3), [2]int{25, 5}, [2]int{47, -6}, [2]int{50, 7})
	lives(t, r, api.Slot{Time: 40, Value: -6}, api.Slot{Time: 50, Value: 7})
	spells(t, r, 31, 61, -6, 7, -1000)
	spells(t, r, 40, 60, -6, 7)
	spells(t, r, 41, 60, 7)
	spells(t, r, 40, 59, -6, 7)
	spells(t, r, 40, 51, -6, 7)
	spells(t, r, 40, 50, -6)
	spells(t, r, 39, 50, -6)
	spells(t, r, 31, 41, -6)
	spells(t, r, 30, 41, -1000, -6)
	spells(t, r, 0, 100, -1000, -1000, -1000, -1000, -6, 7, -1000, -1000, -1000, -1000)
	spells(t, r, 0, 1, -1000)
	for _, x := range [][2]int{{0, 0}, {50, 50}, {55, 55}, {51, 60}, {59, 60}, {41, 42}, {60, 50}, {50, 40}, {51, 49}, {latest, 0}, {latest, latest}, {latest - 5, latest}, {latest, 50}} {
		spells(t, r, x[0], x[1])
	}
	spells(t, r, latest-6, latest, -1000)
	spells(t, put(t, r, [2]int{latest, 9}), latest-6, latest, 9)
	// The slot of the latest time has no time behind it that a span might end at.
	r = put(t, fresh(t, 1, 2), [2]int{latest, 1}, [2]int{latest - 1, 2})
	tells(t, r, latest, 1)
	spells(t, r, latest-2, latest, -1000, 2)
	spells(t, r, latest, latest)
	// No multiple of the step is left up to the latest time.
	spells(t, fresh(t, 86400, 2), 1099511625601, latest)
	spells(t, fresh(t, 86400, 2), 1099511625600, latest, -1000)
}

// TestSpanMany: 2000 slots are told, one more isn't, wherever they begin.
func TestSpanMany(t *testing.T) {
	for _, step := range []int{1, 2, 10, 60, 86400} {
		for _, count := range []int{1, 3, 400} {
			for _, first := range []int{0, 1, 7, 12345, latest/step - 2001} {
				r := put(t, fresh(t, step, count), [2]int{first * step, 1}, [2]int{(first + 1999) * step, 2})
				for from := max(0, (first-1)*step+1); from <= first*step; from += max(1, step/2) {
					for until, want := range map[int]api.Errno{(first + 1999) * step: api.OK, (first+1999)*step + 1: api.OK, (first + 2000) * step: api.OK, (first+2000)*step + 1: api.ErrMany, latest: api.ErrMany} {
						l, e := ring.Span(r, from, until)
						n := min(2000, (until-first*step+step-1)/step)
						if want != api.OK {
							n = 0
						}
						if e != want || len(l) != n {
							t.Fatalf("Span(%d:%d, %d, %d): %d values, %d, want %d, %d", step, count, from, until, len(l), e, n, want)
						}
						spans(t, r, from, until)
					}
				}
			}
		}
	}
	for _, step := range []int{1, 86400} {
		if l, e := ring.Span(fresh(t, step, 400), 0, latest); e != api.ErrMany || len(l) != 0 {
			t.Errorf("all by %d: %v, %d", step, l, e)
		}
	}
}
