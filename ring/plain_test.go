package ring_test

import (
	"fmt"
	"math"
	"slices"
	"sort"
	"testing"

	"isobar/api"
	"isobar/ring"
)

// latest is the last second that a time may be.
const latest = 1 << 40

// upTo is how many steps there are up to a time: the greatest number of them that isn't above it.
func upTo(step, t int) int {
	return sort.Search(latest+2, func(n int) bool { return step*n > t }) - 1
}

// isTime is whether a whole number is a time.
func isTime(t int) bool { return t >= 0 && t <= latest }

// right is whether a ring is right, as the chapter's words say it.
func right(r api.Ring) bool {
	if r.Step < 1 || r.Step > 86400 || len(r.Slots) < 1 || len(r.Slots) > 400 {
		return false
	}
	for i, s := range r.Slots {
		without := s.Time == -1 && s.Value == 0
		within := isTime(s.Time) && s.Time%r.Step == 0 && s.Value > math.MinInt64
		if !without && !(within && upTo(r.Step, s.Time)%len(r.Slots) == i) {
			return false
		}
	}
	return true
}

// made is what New says, as the chapter's words have it.
func made(step, count int) (api.Ring, api.Errno) {
	if count < 0 || count > 401 {
		return api.Ring{}, api.ErrArg
	}
	r := api.Ring{Step: step}
	for range count {
		r.Slots = append(r.Slots, api.Slot{Time: -1})
	}
	if !right(r) {
		return api.Ring{}, api.ErrArg
	}
	return r, api.OK
}

// aligned is what Align says, as the chapter's words have it.
func aligned(r api.Ring, t int) (int, api.Errno) {
	if !right(r) || !isTime(t) {
		return 0, api.ErrArg
	}
	return r.Step * upTo(r.Step, t), api.OK
}

// set is what Set says, as the chapter's words have it.
func set(r api.Ring, t int, v int64) (api.Ring, api.Errno) {
	if !right(r) || !isTime(t) || v == math.MinInt64 {
		return r, api.ErrArg
	}
	n := upTo(r.Step, t)
	l := slices.Clone(r.Slots)
	l[n%len(l)] = api.Slot{Time: r.Step * n, Value: v}
	return api.Ring{Step: r.Step, Slots: l}, api.OK
}

// got is what Get says, as the chapter's words have it: a ring that is right has a slot nowhere but at its place.
func got(r api.Ring, t int) api.Num {
	slot, e := aligned(r, t)
	for _, s := range r.Slots {
		if e == api.OK && s.Time == slot {
			return api.Num{V: s.Value}
		}
	}
	return api.Num{Null: true}
}

// spanned is what Span says, as the chapter's words have it.
func spanned(r api.Ring, from, until int) ([]api.Num, api.Errno) {
	if !right(r) || !isTime(from) || !isTime(until) {
		return nil, api.ErrArg
	}
	n := sort.Search(latest+1, func(n int) bool { return r.Step*n >= from })
	if r.Step*(n+2000) < until {
		return nil, api.ErrMany
	}
	var l []api.Num
	for ; r.Step*n < until; n++ {
		l = append(l, got(r, r.Step*n))
	}
	return l, api.OK
}

// living is what Live says, as the chapter's words have it.
func living(r api.Ring) []api.Slot {
	if !right(r) {
		return nil
	}
	values := map[int]int64{}
	var times []int
	for _, s := range r.Slots {
		if s.Time >= 0 {
			values[s.Time] = s.Value
			times = append(times, s.Time)
		}
	}
	slices.Sort(times)
	var l []api.Slot
	for _, t := range times {
		l = append(l, api.Slot{Time: t, Value: values[t]})
	}
	return l
}

// same is whether two rings are the same; a list that holds nothing may be nil or empty.
func same(a, b api.Ring) bool { return a.Step == b.Step && slices.Equal(a.Slots, b.Slots) }

// brief is what a test tells of a ring: what is long would bury the rest.
func brief(r api.Ring) string {
	if len(r.Slots) > 20 {
		return fmt.Sprintf("%d %v... (%d slots)", r.Step, r.Slots[:20], len(r.Slots))
	}
	return fmt.Sprint(r)
}

// news holds New to the chapter's words.
func news(t *testing.T, step, count int) {
	t.Helper()
	want, wanted := made(step, count)
	if r, e := ring.New(step, count); !same(r, want) || e != wanted {
		t.Fatalf("New(%d, %d) = %s, %d, want %s, %d", step, count, brief(r), e, brief(want), wanted)
	}
}

// holds holds what is asked of a ring alone to the chapter's words, and answers whether it is right.
func holds(t *testing.T, r api.Ring) bool {
	t.Helper()
	is := right(r)
	if got := ring.Right(r); got != is {
		t.Fatalf("Right(%s) = %t, want %t", brief(r), got, is)
	}
	want := living(r)
	if l := ring.Live(r); !slices.Equal(l, want) {
		t.Fatalf("Live(%s) = %v, want %v", brief(r), l, want)
	}
	return is
}

// gets holds what is asked of a ring and a time to the chapter's words.
func gets(t *testing.T, r api.Ring, at int) {
	t.Helper()
	want, wanted := aligned(r, at)
	if slot, e := ring.Align(r, at); slot != want || e != wanted {
		t.Fatalf("Align(%s, %d) = %d, %d, want %d, %d", brief(r), at, slot, e, want, wanted)
	}
	if n := ring.Get(r, at); n != got(r, at) {
		t.Fatalf("Get(%s, %d) = %v, want %v", brief(r), at, n, got(r, at))
	}
}

// sets holds Set to the chapter's words, and answers what it answers.
func sets(t *testing.T, r api.Ring, at int, v int64) (api.Ring, api.Errno) {
	t.Helper()
	want, wanted := set(r, at, v)
	s, e := ring.Set(r, at, v)
	if !same(s, want) || e != wanted {
		t.Fatalf("Set(%s, %d, %d) = %s, %d, want %s, %d", brief(r), at, v, brief(s), e, brief(want), wanted)
	}
	if e == api.OK && !ring.Right(s) {
		t.Fatalf("Set(%s, %d, %d) = %s isn't right", brief(r), at, v, brief(s))
	}
	return s, e
}

// spans holds Span to the chapter's words, and answers its error.
func spans(t *testing.T, r api.Ring, from, until int) api.Errno {
	t.Helper()
	want, wanted := spanned(r, from, until)
	l, e := ring.Span(r, from, until)
	if !slices.Equal(l, want) || e != wanted {
		t.Fatalf("Span(%s, %d, %d) = %v, %d, want %v, %d", brief(r), from, until, l, e, want, wanted)
	}
	return e
}
