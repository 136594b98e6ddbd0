package ring_test

import (
	"math"
	"math/rand/v2"
	"slices"
	"testing"

	"isobar/api"
	"isobar/ring"
)

// full is a list, and what stands in the spare room behind it.
func full[T any](l []T) []T { return l[:cap(l)] }

// roomy is a ring with spare room behind its slots, in which some more stand.
func roomy(r api.Ring) api.Ring {
	r.Slots = slices.Concat(r.Slots, []api.Slot{{Time: 7, Value: 7}, {Time: -1, Value: 8}, {}})[:len(r.Slots)]
	return r
}

// spoil changes all slots of a list, and what stands in its spare room.
func spoil(l []api.Slot) {
	for i := range full(l) {
		full(l)[i] = api.Slot{Time: -77, Value: 77}
	}
}

// someRings are rings, by a seed, right ones and spoilt ones.
func someRings(r *rand.Rand, n int) []api.Ring {
	l := []api.Ring{{}, {Step: 10}, {Step: 10, Slots: []api.Slot{}}, {Step: 10, Slots: none(401)}}
	for range n {
		held := someRing(r)
		l = append(l, held, spoiltRing(r, held))
	}
	return l
}

// asks asks each call of a ring, with arguments that may be and that may not.
func asks(r api.Ring) {
	ring.Right(r)
	ring.Live(r)
	for _, at := range []int{-1, 0, 5, 60, 1000, latest, latest + 1} {
		ring.Align(r, at)
		ring.Get(r, at)
		ring.Set(r, at, 5)
		ring.Set(r, at, math.MinInt64)
		ring.Span(r, 0, at)
		ring.Span(r, at, latest)
	}
}

// TestHandedIn: no call changes a ring, nor its slots' spare room.
func TestHandedIn(t *testing.T) {
	for _, r := range someRings(rand.New(rand.NewPCG(161, 162)), 500) {
		held := roomy(r)
		before := slices.Clone(full(held.Slots))
		asks(held)
		if !slices.Equal(full(held.Slots), before) {
			t.Fatalf("%v became %v", before, full(held.Slots))
		}
	}
}

// TestSetApart: what Set answers, beside an error too, shares nothing with the ring that was handed in.
func TestSetApart(t *testing.T) {
	r := rand.New(rand.NewPCG(163, 164))
	for _, old := range someRings(r, 300) {
		for _, at := range []int{0, 5, 1000, latest, -1, latest + 1} {
			for _, v := range []int64{3, math.MinInt64} {
				held := roomy(old)
				before := slices.Clone(full(held.Slots))
				want, wanted := set(held, at, v)
				want.Slots = slices.Clone(want.Slots)
				first, e := ring.Set(held, at, v)
				second, _ := ring.Set(held, at, v)
				spoil(first.Slots)
				if !slices.Equal(full(held.Slots), before) || !same(second, want) || e != wanted {
					t.Fatalf("a change of the answer changes %s, or %s", brief(held), brief(second))
				}
				spoil(held.Slots)
				if !same(second, want) {
					t.Fatalf("a change of the ring changes the answer %s, want %s", brief(second), brief(want))
				}
			}
		}
	}
}

// TestLiveApart: so what Live answers.
func TestLiveApart(t *testing.T) {
	for _, old := range someRings(rand.New(rand.NewPCG(165, 166)), 500) {
		held, want := roomy(old), living(old)
		before := slices.Clone(full(held.Slots))
		first, second := ring.Live(held), ring.Live(held)
		spoil(first)
		if !slices.Equal(full(held.Slots), before) || !slices.Equal(second, want) {
			t.Fatalf("a change of what lives changes %s, or %v", brief(held), second)
		}
		spoil(held.Slots)
		if !slices.Equal(second, want) {
			t.Fatalf("a change of the ring changes what lives: %v, want %v", second, want)
		}
	}
}

// TestNewApart: rings that are made share nothing with each other, nor do spans.
func TestNewApart(t *testing.T) {
	for _, count := range []int{1, 2, 3, 60, 400} {
		first, second := fresh(t, 10, count), fresh(t, 10, count)
		spoil(first.Slots)
		if third := fresh(t, 10, count); !slices.Equal(second.Slots, none(count)) || !slices.Equal(third.Slots, none(count)) {
			t.Errorf("a change of one ring changes another: %s, %s", brief(second), brief(third))
		}
		r := put(t, second, [2]int{0, 5}, [2]int{10 * count, 6})
		want, _ := spanned(r, 0, 1000)
		ahead, _ := ring.Span(r, 0, 1000)
		behind, _ := ring.Span(r, 0, 1000)
		for i := range full(ahead) {
			full(ahead)[i] = api.Num{V: 77}
		}
		if !slices.Equal(behind, want) {
			t.Errorf("a change of one span changes another: %v, want %v", behind, want)
		}
	}
}

// Nothing is kept from call to call: asked once more, in another order, and behind errors, all answer as before.
func TestAnswersHangOnArgumentsAlone(t *testing.T) {
	list := someRings(rand.New(rand.NewPCG(167, 168)), 60)
	for range 3 {
		slices.Reverse(list)
		for _, r := range list {
			holds(t, r)
			news(t, r.Step, len(r.Slots))
			for _, at := range []int{-1, 0, 5, 60, 1000, latest, latest + 1} {
				gets(t, r, at)
				sets(t, r, at, 5)
				spans(t, r, 0, at)
			}
		}
	}
}
