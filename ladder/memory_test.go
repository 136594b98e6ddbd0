package ladder_test

import (
	"math"
	"math/rand/v2"
	"reflect"
	"slices"
	"testing"

	"isobar/api"
	"isobar/ladder"
)

// full is a list, and what stands in the spare room behind it.
func full[T any](l []T) []T { return l[:cap(l)] }

// roomy is a list with spare room behind it, in which one more stands.
func roomy[T any](l []T, more T) []T { return append(slices.Clone(l), more)[:len(l)] }

// roomyLadder is a ladder with spare room behind each list.
func roomyLadder(l api.Ladder) api.Ladder {
	l.Rings = roomy(l.Rings, api.Ring{Step: 7, Slots: none(2)})
	for i := range full(l.Rings) {
		held := &full(l.Rings)[i]
		held.Slots = roomy(held.Slots, api.Slot{Time: 7, Value: 7})
	}
	return l
}

// photo is a ladder with all that stands in its spare room, that shares nothing with it.
func photo(l api.Ladder) [][]api.Slot {
	var slots [][]api.Slot
	for _, held := range full(l.Rings) {
		slots = append(slots, slices.Clone(full(held.Slots)), []api.Slot{{Time: held.Step, Value: int64(len(held.Slots))}})
	}
	return slots
}

// spoil changes all of a ladder, and of what stands in its spare room.
func spoil(l api.Ladder) {
	for i := range full(l.Rings) {
		held := &full(l.Rings)[i]
		for at := range full(held.Slots) {
			full(held.Slots)[at] = api.Slot{Time: -77, Value: 77}
		}
		*held = api.Ring{Step: -77}
	}
}

// someLadders are ladders, by a seed, right ones and spoilt ones.
func someLadders(r *rand.Rand, n int) []api.Ladder {
	l := []api.Ladder{{}, {Method: 1}, {Rings: []api.Ring{}}, {Method: 1, Rings: []api.Ring{{}}}, {Method: 1, Rings: []api.Ring{{Step: 10, Slots: none(401)}}}}
	for range n {
		s := someWay(r)
		held := someLadder(r, s, someNow(r, s))
		l = append(l, held, spoiltLadder(r, held))
	}
	return l
}

// times are times, of which some may be, and some may not.
func times() []int { return []int{-1, 0, 5, 60, 1000, latest, latest + 1} }

// TestHandedIn: no call changes a ladder, nor what stands in its spare room.
func TestHandedIn(t *testing.T) {
	for _, l := range someLadders(rand.New(rand.NewPCG(161, 162)), 200) {
		held := roomyLadder(l)
		before := photo(held)
		ladder.Right(held)
		ladder.Slots(held)
		for _, at := range times() {
			for _, now := range times() {
				ladder.Accept(held, api.Point{Time: at, Value: 5}, now)
				ladder.Accept(held, api.Point{Time: at, Value: math.MinInt64}, now)
				ladder.Fetch(held, at, now, now)
				ladder.Fetch(held, at, latest, now)
				ladder.Pick(held, at, now)
			}
		}
		if !reflect.DeepEqual(photo(held), before) || held.Method != l.Method || held.Factor != l.Factor {
			t.Fatalf("%s became %s", brief(l), brief(held))
		}
	}
}

// TestSchemasHandedIn: nor do New, Build and Blend change what they are handed, and no answer hangs on it later.
func TestSchemasHandedIn(t *testing.T) {
	r := rand.New(rand.NewPCG(163, 164))
	for range 500 {
		s := someWay(r)
		s.Rungs = roomy(s.Rungs, api.Rung{Step: 7, Count: 7})
		list := roomy(someRecords(r, s, someNow(r, s)), api.Record{Kind: 7})
		if len(list) > 0 && r.IntN(3) == 0 {
			list[0] = spoiltRecord(r, list[0])
		}
		rungs, records := slices.Clone(full(s.Rungs)), slices.Clone(full(list))
		parts := roomy(someParts(r), 7)
		values := slices.Clone(full(parts))
		first, _ := ladder.New(s)
		second, _ := ladder.Build(s, list)
		for method := range 7 {
			ladder.Blend(method, parts)
		}
		if !slices.Equal(full(s.Rungs), rungs) || !reflect.DeepEqual(full(list), records) || !slices.Equal(full(parts), values) {
			t.Fatalf("%v, %v, %v became %v, %v, %v", rungs, records, values, s.Rungs, list, parts)
		}
		empty, _ := made(s)
		want, _ := built(s, list)
		for i := range full(s.Rungs) {
			full(s.Rungs)[i] = api.Rung{Step: -77}
		}
		for i := range full(list) {
			full(list)[i] = api.Record{Kind: -77}
		}
		if !same(first, empty) || !same(second, want) {
			t.Fatalf("a change of what was handed in changes %s, or %s", brief(first), brief(second))
		}
	}
}

// TestAcceptApart: what Accept answers, beside an error too, shares nothing with the ladder that was handed in, nor with another answer.
func TestAcceptApart(t *testing.T) {
	for _, old := range someLadders(rand.New(rand.NewPCG(165, 166)), 150) {
		for _, now := range []int{0, 5, 1000, latest, -1} {
			for _, p := range []api.Point{{Time: now, Value: 3}, {Time: now / 2, Value: 4}, {Time: 0, Value: 5}, {Time: now + 1}, {Time: now, Value: math.MinInt64}} {
				held := roomyLadder(old)
				before := photo(held)
				want, wanted := accepted(held, p, now)
				want = copied(want)
				first, e := ladder.Accept(held, p, now)
				second, _ := ladder.Accept(held, p, now)
				spoil(first)
				if !reflect.DeepEqual(photo(held), before) || !same(second, want) || e != wanted {
					t.Fatalf("a change of the answer changes %s, or %s", brief(held), brief(second))
				}
				spoil(held)
				if !same(second, want) {
					t.Fatalf("a change of the ladder changes the answer %s, want %s", brief(second), brief(want))
				}
			}
		}
	}
}

// TestListsApart: of one answer no two rings share slots.
func TestListsApart(t *testing.T) {
	r := rand.New(rand.NewPCG(167, 168))
	for range 200 {
		s := someWay(r)
		now := someNow(r, s)
		fresh, _ := ladder.New(s)
		built, _ := ladder.Build(s, someRecords(r, s, now))
		come, _ := ladder.Accept(someLadder(r, s, now), api.Point{Time: now, Value: 1}, now)
		for _, l := range []api.Ladder{fresh, built, come} {
			before := copied(l)
			for i := range l.Rings {
				for at := range full(l.Rings[i].Slots) {
					full(l.Rings[i].Slots)[at] = api.Slot{Time: -77, Value: 77}
				}
				for next := i + 1; next < len(l.Rings); next++ {
					if !slices.Equal(l.Rings[next].Slots, before.Rings[next].Slots) {
						t.Fatalf("a change of ring %d changes ring %d of %s", i, next, brief(l))
					}
				}
			}
		}
	}
}

// TestAnswersApart: so what New, Build, Fetch and Slots answer.
func TestAnswersApart(t *testing.T) {
	r := rand.New(rand.NewPCG(169, 170))
	for range 300 {
		s := someWay(r)
		now := someNow(r, s)
		list := someRecords(r, s, now)
		empty, _ := made(s)
		want, _ := built(s, list)
		one, _ := ladder.New(s)
		two, _ := ladder.New(s)
		first, _ := ladder.Build(s, list)
		second, _ := ladder.Build(s, list)
		spoil(one)
		spoil(first)
		if third, _ := ladder.New(s); !same(two, empty) || !same(third, empty) || !same(second, want) {
			t.Fatalf("a change of one ladder changes another: %s, %s", brief(two), brief(second))
		}
		held := someLadder(r, s, now)
		whole := copied(held)
		until := min(latest, now+1)
		asked, _ := fetched(held, 0, until, now)
		slots := listed(held)
		ahead, _ := ladder.Fetch(held, 0, until, now)
		behind, _ := ladder.Fetch(held, 0, until, now)
		records, again := ladder.Slots(held), ladder.Slots(held)
		for i := range full(ahead.Values) {
			full(ahead.Values)[i] = api.Num{V: 77}
		}
		for i := range full(records) {
			full(records)[i] = api.Record{Kind: -77}
		}
		if !same(held, whole) || !sameSeries(behind, asked) || !sameRecords(again, slots) {
			t.Fatalf("a change of an answer changes %s, %v, or %v", brief(held), behind, again)
		}
		spoil(held)
		if !sameSeries(behind, asked) || !sameRecords(again, slots) {
			t.Fatalf("a change of the ladder changes %v, or %v", behind, again)
		}
	}
}

// Nothing is kept from call to call: asked once more, in another order, and behind errors, all answer as before.
func TestAnswersHangOnArgumentsAlone(t *testing.T) {
	list := someLadders(rand.New(rand.NewPCG(171, 172)), 40)
	for range 3 {
		slices.Reverse(list)
		for _, l := range list {
			holds(t, l)
			news(t, wayOf(l))
			builds(t, wayOf(l), ladder.Slots(l))
			for _, at := range times() {
				for _, now := range times() {
					accepts(t, l, api.Point{Time: at, Value: 5}, now)
					fetches(t, l, at, latest, now)
					picks(t, l, at, now)
				}
			}
		}
	}
}
