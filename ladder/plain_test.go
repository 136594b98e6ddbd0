package ladder_test

import (
	"fmt"
	"math"
	"math/big"
	"reflect"
	"slices"
	"sort"
	"strings"
	"testing"

	"isobar/api"
	"isobar/ladder"
)

// latest is the last second that a time may be.
const latest = 1 << 40

// upTo is how many steps there are up to a time: the greatest number of them that isn't above it.
func upTo(step, t int) int {
	return sort.Search(latest+2, func(n int) bool { return step*n > t }) - 1
}

// isTime is whether a whole number is a time.
func isTime(t int) bool { return t >= 0 && t <= latest }

// fits is whether a rung may stand behind another one.
func fits(ahead, next api.Rung) bool {
	k := 1
	for k < 401 && k*ahead.Step < next.Step {
		k++
	}
	return k > 1 && k*ahead.Step == next.Step && next.Step*next.Count > ahead.Step*ahead.Count && ahead.Count >= k
}

// rightWay is whether rungs, a method and a factor may be, as the chapters' words say it.
func rightWay(l []api.Rung, method int, factor int64) bool {
	if len(l) < 1 || len(l) > 4 || method < 1 || method > 5 || factor < 0 || factor > 1000000 {
		return false
	}
	for i, r := range l {
		if r.Step < 1 || r.Step > 86400 || r.Count < 1 || r.Count > 400 || i > 0 && !fits(l[i-1], r) {
			return false
		}
	}
	return true
}

// rungsOf are a ladder's rings as rungs.
func rungsOf(l api.Ladder) []api.Rung {
	var rungs []api.Rung
	for _, r := range l.Rings {
		rungs = append(rungs, api.Rung{Step: r.Step, Count: len(r.Slots)})
	}
	return rungs
}

// right is whether a ladder is right, as the chapters' words say it.
func right(l api.Ladder) bool {
	if !rightWay(rungsOf(l), l.Method, l.Factor) {
		return false
	}
	for _, r := range l.Rings {
		for at, s := range r.Slots {
			without := s.Time == -1 && s.Value == 0
			within := isTime(s.Time) && s.Time%r.Step == 0 && s.Value > math.MinInt64
			if !without && !(within && upTo(r.Step, s.Time)%len(r.Slots) == at) {
				return false
			}
		}
	}
	return true
}

// made is what New says, as the chapter's words have it.
func made(s api.Schema) (api.Ladder, api.Errno) {
	if !rightWay(s.Rungs, s.Method, s.Factor) {
		return api.Ladder{}, api.ErrArg
	}
	l := api.Ladder{Method: s.Method, Factor: s.Factor}
	for _, g := range s.Rungs {
		l.Rings = append(l.Rings, api.Ring{Step: g.Step, Slots: none(g.Count)})
	}
	return l, api.OK
}

// copied is a ladder as it is, that shares nothing with it.
func copied(l api.Ladder) api.Ladder {
	l.Rings = slices.Clone(l.Rings)
	for i := range l.Rings {
		l.Rings[i].Slots = slices.Clone(l.Rings[i].Slots)
	}
	return l
}

// put lets a slot of a ring have a value, in the ring itself.
func put(r api.Ring, slot int, v int64) {
	r.Slots[upTo(r.Step, slot)%len(r.Slots)] = api.Slot{Time: slot, Value: v}
}

// within are the slots of a ring that have a value, from a time on, and below another one, by rising time.
func within(r api.Ring, from, until int) []api.Slot {
	var l []api.Slot
	for _, s := range r.Slots {
		if s.Time >= 0 && s.Time >= from && s.Time < until {
			l = append(l, s)
		}
	}
	sort.Slice(l, func(a, b int) bool { return l[a].Time < l[b].Time })
	return l
}

// blended is what Blend says, as the chapter's words, and those of layer 2, have it.
func blended(method int, parts []int64) api.Num {
	null := api.Num{Null: true}
	var known []int64
	sum, told := new(big.Int), true
	most := big.NewInt(math.MaxInt64)
	for _, v := range parts {
		sum.Add(sum, big.NewInt(v))
		told = told && v != math.MinInt64 && new(big.Int).Abs(sum).Cmp(most) <= 0
		if v != math.MinInt64 {
			known = append(known, v)
		}
	}
	if len(known) == 0 || method < 3 && !told {
		return null
	}
	switch method {
	case 1:
		// A half away from zero: twice the sum, and the number with the sum's sign, by twice the number.
		n := int64(len(parts))
		twice := new(big.Int).Lsh(sum, 1)
		twice.Add(twice, big.NewInt(n*int64(sum.Sign())))
		return api.Num{V: twice.Quo(twice, big.NewInt(2*n)).Int64()}
	case 2:
		return api.Num{V: sum.Int64()}
	case 3:
		return api.Num{V: slices.Min(known)}
	case 4:
		return api.Num{V: slices.Max(known)}
	case 5:
		if v := parts[len(parts)-1]; v != math.MinInt64 {
			return api.Num{V: v}
		}
	}
	return null
}

// accepted is what Accept says, as the chapter's words have it.
func accepted(l api.Ladder, p api.Point, now int) (api.Ladder, api.Errno) {
	if !right(l) || !isTime(p.Time) || !isTime(now) || p.Value == math.MinInt64 {
		return l, api.ErrArg
	}
	if p.Time > now {
		return l, api.ErrRange
	}
	m, came := copied(l), false
	for i, r := range m.Rings {
		slot := r.Step * upTo(r.Step, p.Time)
		if slot+r.Step*len(r.Slots) <= now {
			continue
		}
		if !came {
			put(r, slot, p.Value)
			came = true
			continue
		}
		var parts []int64
		for _, s := range within(m.Rings[i-1], slot, slot+r.Step) {
			parts = append(parts, s.Value)
		}
		most := int64(r.Step / m.Rings[i-1].Step)
		if n := blended(l.Method, parts); !n.Null && int64(len(parts))*1000000 >= l.Factor*most {
			put(r, slot, n.V)
		}
	}
	if !came {
		return l, api.ErrOld
	}
	return m, api.OK
}

// picked is what Pick says, as the chapter's words have it.
func picked(l api.Ladder, from, now int) int {
	if !right(l) || !isTime(from) || !isTime(now) {
		return 0
	}
	for i, r := range l.Rings {
		if r.Step*len(r.Slots) >= now-from {
			return i
		}
	}
	return len(l.Rings) - 1
}

// fetched is what Fetch says, as the chapter's words have it.
func fetched(l api.Ladder, from, until, now int) (api.Series, api.Errno) {
	if !right(l) || !isTime(from) || !isTime(until) || !isTime(now) || from >= until {
		return api.Series{}, api.ErrArg
	}
	r := l.Rings[picked(l, from, now)]
	s := api.Series{Start: r.Step * upTo(r.Step, from+r.Step-1), Step: r.Step}
	last := upTo(r.Step, now)
	for n := max(0, last-len(r.Slots)-1); n <= last; n++ {
		slot := n * r.Step
		if slot < from || slot >= until || slot <= now-r.Step*len(r.Slots) {
			continue
		}
		if len(s.Values) == 0 {
			s.Start = slot
		}
		v := api.Num{Null: true}
		if there := within(r, slot, slot+1); len(there) == 1 {
			v = api.Num{V: there[0].Value}
		}
		s.Values = append(s.Values, v)
	}
	return s, api.OK
}

// listed is what Slots says, as the chapter's words have it.
func listed(l api.Ladder) []api.Record {
	var list []api.Record
	for i, r := range l.Rings {
		for _, s := range within(r, 0, latest+1) {
			list = append(list, api.Record{Kind: 3, Rung: i, Time: s.Time, Value: s.Value})
		}
	}
	if !right(l) {
		return nil
	}
	return list
}

// built is what Build says, as the chapter's words have it.
func built(s api.Schema, list []api.Record) (api.Ladder, api.Errno) {
	l, e := made(s)
	for _, r := range list {
		if e != api.OK || r.Rung < 0 || r.Rung >= len(l.Rings) {
			return api.Ladder{}, api.ErrArg
		}
		bare := api.Record{Kind: 3, Rung: r.Rung, Time: r.Time, Value: r.Value}
		if len(r.Rungs) == 0 {
			r.Rungs = nil
		}
		if !reflect.DeepEqual(r, bare) || !isTime(r.Time) || r.Time%l.Rings[r.Rung].Step != 0 || r.Value == math.MinInt64 {
			return api.Ladder{}, api.ErrArg
		}
		put(l.Rings[r.Rung], r.Time, r.Value)
	}
	return l, e
}

// same is whether two ladders are the same; a list that holds nothing may be nil or empty.
func same(a, b api.Ladder) bool {
	return a.Method == b.Method && a.Factor == b.Factor && slices.EqualFunc(a.Rings, b.Rings, func(a, b api.Ring) bool {
		return a.Step == b.Step && slices.Equal(a.Slots, b.Slots)
	})
}

// sameSeries is whether two series are the same; a list that holds nothing may be nil or empty.
func sameSeries(a, b api.Series) bool {
	return a.Name == b.Name && a.Start == b.Start && a.Step == b.Step && slices.Equal(a.Values, b.Values)
}

// sameRecords is whether two lists of records are the same; a list that holds nothing may be nil or empty.
func sameRecords(a, b []api.Record) bool {
	return len(a) == 0 && len(b) == 0 || reflect.DeepEqual(a, b)
}

// brief is what a test tells of a ladder: of each ring the slots that have a value alone, and of these not too many.
func brief(l api.Ladder) string {
	words := []string{fmt.Sprint("way ", l.Method, ", ", l.Factor)}
	for _, r := range l.Rings {
		var there []api.Slot
		for _, s := range r.Slots {
			if s != (api.Slot{Time: -1}) && len(there) < 20 {
				there = append(there, s)
			}
		}
		words = append(words, fmt.Sprintf("(%d, %d) %v", r.Step, len(r.Slots), there))
	}
	return strings.Join(words, "; ")
}

// news holds New to the chapter's words.
func news(t *testing.T, s api.Schema) api.Errno {
	t.Helper()
	want, wanted := made(s)
	l, e := ladder.New(s)
	if !same(l, want) || e != wanted {
		t.Fatalf("New(%v) = %s, %d, want %s, %d", s, brief(l), e, brief(want), wanted)
	}
	return e
}

// holds holds what is asked of a ladder alone to the chapter's words, and answers whether it is right.
func holds(t *testing.T, l api.Ladder) bool {
	t.Helper()
	is := right(l)
	if got := ladder.Right(l); got != is {
		t.Fatalf("Right(%s) = %t, want %t", brief(l), got, is)
	}
	want := listed(l)
	if list := ladder.Slots(l); !sameRecords(list, want) {
		t.Fatalf("Slots(%s) = %v, want %v", brief(l), list, want)
	}
	return is
}

// accepts holds Accept to the chapter's words, and answers what it answers.
func accepts(t *testing.T, l api.Ladder, p api.Point, now int) (api.Ladder, api.Errno) {
	t.Helper()
	want, wanted := accepted(l, p, now)
	m, e := ladder.Accept(l, p, now)
	if !same(m, want) || e != wanted {
		t.Fatalf("Accept(%s, %v, %d) = %s, %d, want %s, %d", brief(l), p, now, brief(m), e, brief(want), wanted)
	}
	if e == api.OK && !ladder.Right(m) {
		t.Fatalf("Accept(%s, %v, %d) = %s isn't right", brief(l), p, now, brief(m))
	}
	return m, e
}

// picks holds Pick to the chapter's words.
func picks(t *testing.T, l api.Ladder, from, now int) {
	t.Helper()
	if i := ladder.Pick(l, from, now); i != picked(l, from, now) {
		t.Fatalf("Pick(%s, %d, %d) = %d, want %d", brief(l), from, now, i, picked(l, from, now))
	}
}

// fetches holds Fetch to the chapter's words, and answers what it answers.
func fetches(t *testing.T, l api.Ladder, from, until, now int) (api.Series, api.Errno) {
	t.Helper()
	want, wanted := fetched(l, from, until, now)
	s, e := ladder.Fetch(l, from, until, now)
	if !sameSeries(s, want) || e != wanted {
		t.Fatalf("Fetch(%s, %d, %d, %d) = %v, %d, want %v, %d", brief(l), from, until, now, s, e, want, wanted)
	}
	return s, e
}

// builds holds Build to the chapter's words, and answers what it answers.
func builds(t *testing.T, s api.Schema, list []api.Record) (api.Ladder, api.Errno) {
	t.Helper()
	want, wanted := built(s, list)
	l, e := ladder.Build(s, list)
	if !same(l, want) || e != wanted {
		t.Fatalf("Build(%v, %v) = %s, %d, want %s, %d", s, list, brief(l), e, brief(want), wanted)
	}
	return l, e
}

// blends holds Blend to the chapter's words.
func blends(t *testing.T, method int, parts []int64) {
	t.Helper()
	if n := ladder.Blend(method, parts); n != blended(method, parts) {
		t.Fatalf("Blend(%d, %v) = %v, want %v", method, parts, n, blended(method, parts))
	}
}
