package ring_test

import (
	"math/rand/v2"
	"slices"
	"testing"

	"isobar/api"
	"isobar/ring"
)

// sample is a value that was set, and the slot of its time.
type sample struct {
	slot  int
	value int64
}

// last is what P13.2 says of a slot behind some sets: what was set last there, unless one a multiple of the ring's length away was set behind it.
func last(l []sample, length, slot int) api.Num {
	for _, s := range slices.Backward(l) {
		if s.slot == slot {
			return api.Num{V: s.value}
		}
		if (s.slot-slot)%length == 0 {
			break
		}
	}
	return api.Num{Null: true}
}

// follows holds a ring behind some sets to P13.2 at some slots.
func follows(t *testing.T, r api.Ring, l []sample, slots []int) {
	t.Helper()
	length := r.Step * len(r.Slots)
	for _, slot := range slots {
		if n := ring.Get(r, slot); n != last(l, length, slot) {
			t.Fatalf("Get(%s, %d) = %v behind %v, want %v", brief(r), slot, n, l, last(l, length, slot))
		}
	}
	if live := ring.Live(r); len(live) > len(r.Slots) || len(live) > len(l) {
		t.Fatalf("of %s live %v behind %v", brief(r), live, l)
	}
}

// TestTheLastOfAll: P13.2, behind each row of three sets of a small ring, in whatever order they come.
func TestTheLastOfAll(t *testing.T) {
	for _, step := range []int{1, 2, 3} {
		for count := 1; count <= 4; count++ {
			var slots []int
			for n := range 3*count + 1 {
				slots = append(slots, n*step)
			}
			empty := fresh(t, step, count)
			for _, a := range slots {
				one, _ := ring.Set(empty, a, 1)
				for _, b := range slots {
					two, _ := ring.Set(one, b+step-1, 2)
					for _, c := range slots {
						three, _ := ring.Set(two, c+step/2, 3)
						follows(t, three, []sample{{a, 1}, {b, 2}, {c, 3}}, slots)
					}
				}
			}
		}
	}
}

// TestTheLast: P13.2, behind many sets by a fixed seed.
func TestTheLast(t *testing.T) {
	r := rand.New(rand.NewPCG(151, 152))
	for range 300 {
		step := oneOf(r, 1, 2, 7, 10, 60, 86400, 1+r.IntN(86400))
		count := oneOf(r, 1, 2, 3, 5, 12, 1+r.IntN(400))
		held := fresh(t, step, count)
		var l []sample
		var slots []int
		for range 60 {
			at, v := someTime(r, step, count), someValue(r)
			held, _ = ring.Set(held, at, v)
			slot := at / step * step
			l = append(l, sample{slot, v})
			for _, other := range []int{slot, slot + step, slot - step, slot + step*count, slot - step*count, slot + 2*step*count} {
				if isTime(other) {
					slots = append(slots, other)
				}
			}
		}
		follows(t, held, l, slots)
	}
}

// TestLiveAreThose: the slots that live are just those that are told, each with the value that is told.
func TestLiveAreThose(t *testing.T) {
	r := rand.New(rand.NewPCG(153, 154))
	for range 1000 {
		held := someRing(r)
		live := ring.Live(held)
		for i, s := range live {
			if i > 0 && live[i-1].Time >= s.Time {
				t.Fatalf("Live(%s) = %v", brief(held), live)
			}
			tells(t, held, s.Time, s.Value)
		}
		again := fresh(t, held.Step, len(held.Slots))
		for _, i := range r.Perm(len(live)) {
			again, _ = ring.Set(again, live[i].Time, live[i].Value)
		}
		if !same(again, held) {
			t.Fatalf("%s becomes %s of what lives", brief(held), brief(again))
		}
	}
}

// TestParts: P13.3, a span is its parts, one behind the other, wherever it is cut.
func TestParts(t *testing.T) {
	r := rand.New(rand.NewPCG(155, 156))
	for range 2000 {
		held := someRing(r)
		length := held.Step * len(held.Slots)
		from := someTime(r, held.Step, len(held.Slots))
		until := min(latest, from+r.IntN(min(3*length, 2000*held.Step)))
		whole, e := ring.Span(held, from, until)
		if e != api.OK {
			t.Fatalf("Span(%s, %d, %d): %d", brief(held), from, until, e)
		}
		cuts := []int{from, until}
		for range r.IntN(6) {
			cuts = append(cuts, from+r.IntN(until-from+1))
		}
		slices.Sort(cuts)
		var parts []api.Num
		for i := range len(cuts) - 1 {
			l, e := ring.Span(held, cuts[i], cuts[i+1])
			if e != api.OK {
				t.Fatalf("Span(%s, %d, %d): %d", brief(held), cuts[i], cuts[i+1], e)
			}
			parts = append(parts, l...)
		}
		if !slices.Equal(parts, whole) {
			t.Fatalf("%s from %d to %d is %v, its parts at %v are %v", brief(held), from, until, whole, cuts, parts)
		}
	}
}

// TestEachCut: P13.3, of small spans at each second, and of what is told of each second.
func TestEachCut(t *testing.T) {
	for _, step := range []int{1, 2, 3, 5} {
		r := put(t, fresh(t, step, 4), [2]int{0, 1}, [2]int{step, 2}, [2]int{6 * step, 3}, [2]int{7*step + 1, 4})
		for from := range 10 * step {
			for until := range 10 * step {
				whole, _ := ring.Span(r, from, until)
				spans(t, r, from, until)
				for cut := from; cut <= until; cut++ {
					ahead, _ := ring.Span(r, from, cut)
					behind, _ := ring.Span(r, cut, until)
					if !slices.Equal(slices.Concat(ahead, behind), whole) {
						t.Fatalf("%s from %d to %d is %v, cut at %d %v and %v", brief(r), from, until, whole, cut, ahead, behind)
					}
				}
			}
			var want []api.Num
			if from%step == 0 {
				want = append(want, ring.Get(r, from))
			}
			if l, _ := ring.Span(r, from, from+1); !slices.Equal(l, want) {
				t.Fatalf("%s at %d is %v, want %v", brief(r), from, l, want)
			}
		}
	}
}

// TestSeeded: all calls of rings by a fixed seed, right and spoilt.
func TestSeeded(t *testing.T) {
	r := rand.New(rand.NewPCG(157, 158))
	rights, wrongs := 0, 0
	for range 6000 {
		held := someRing(r)
		if r.IntN(2) == 0 {
			held = spoiltRing(r, held)
		}
		if holds(t, held) {
			rights++
		} else {
			wrongs++
		}
		step, count := max(1, min(held.Step, 86400)), max(1, len(held.Slots))
		for range 4 {
			at := oneOf(r, someTime(r, step, count), oneOf(r, edges()...))
			gets(t, held, at)
			sets(t, held, at, oneOf(r, someValue(r), oneOf(r, values()...)))
			spans(t, held, at, oneOf(r, at+r.IntN(3*step), someTime(r, step, count), oneOf(r, edges()...)))
		}
	}
	if rights < 2000 || wrongs < 1000 {
		t.Errorf("only %d right, %d wrong", rights, wrongs)
	}
}
