package ladder_test

import (
	"math"
	"math/rand/v2"
	"slices"

	"isobar/api"
)

// oneOf is one of some things, by a seed.
func oneOf[T any](r *rand.Rand, list ...T) T { return list[r.IntN(len(list))] }

// edges are whole numbers at which something of a ladder changes, and those beside them.
func edges() []int {
	return []int{math.MinInt, math.MinInt + 1, -latest, -301, -60, -1, 0, 1, 9, 10, 59, 60, 61, 299, 300, 301, 1000, 86400, latest - 300, latest - 60, latest - 1, latest, latest + 1, latest + 60, math.MaxInt - 300, math.MaxInt}
}

// values are values of points: the last one may not be.
func values() []int64 {
	return []int64{0, 1, -1, 5, -6, 1000000, math.MaxInt64 / 2, math.MaxInt64, math.MaxInt64 - 1, math.MinInt64 + 1, math.MinInt64}
}

// none are so many slots without a value.
func none(count int) []api.Slot { return slices.Repeat([]api.Slot{{Time: -1}}, count) }

// rungs are rungs by steps and counts, one behind the other.
func rungs(l ...int) []api.Rung {
	var list []api.Rung
	for ; len(l) > 1; l = l[2:] {
		list = append(list, api.Rung{Step: l[0], Count: l[1]})
	}
	return list
}

// way is a schema.
func way(method int, factor int64, l ...int) api.Schema {
	return api.Schema{Rungs: rungs(l...), Method: method, Factor: factor}
}

// wayOf is the schema of a ladder.
func wayOf(l api.Ladder) api.Schema {
	return api.Schema{Rungs: rungsOf(l), Method: l.Method, Factor: l.Factor}
}

// someRungs are rungs that go together, by a seed: mostly small ones, of which a few points make much.
func someRungs(r *rand.Rand) []api.Rung {
	if r.IntN(20) == 0 {
		return oneOf(r, rungs(1, 400, 216, 400, 86400, 400), rungs(216, 400, 86400, 2), rungs(86400, 400), rungs(1, 2, 2, 2, 4, 2, 8, 2), rungs(10, 11, 60, 2, 120, 2), rungs(3, 5, 6, 3, 12, 3))
	}
	l := []api.Rung{{Step: oneOf(r, 1, 1, 2, 3, 5, 10, 60), Count: 1 + r.IntN(10)}}
	for len(l) < 4 && r.IntN(4) > 0 {
		last := &l[len(l)-1]
		times := 2 + r.IntN(4)
		last.Count = max(last.Count, times)
		l = append(l, api.Rung{Step: last.Step * times, Count: last.Count/times + 1 + r.IntN(1+r.IntN(6))})
	}
	return l
}

// deepRungs are two rungs or more, by a seed, of which the finest one has room for a whole slot of the coarsest one.
func deepRungs(r *rand.Rand) []api.Rung {
	l := []api.Rung{{Step: oneOf(r, 1, 2, 5, 10), Count: 64 + r.IntN(20)}}
	for range 1 + r.IntN(3) {
		last := l[len(l)-1]
		times := 2 + r.IntN(3)
		l = append(l, api.Rung{Step: last.Step * times, Count: last.Count/times + 1 + r.IntN(3)})
	}
	return l
}

// someWay is a schema that may be, by a seed.
func someWay(r *rand.Rand) api.Schema {
	return api.Schema{Rungs: someRungs(r), Method: 1 + r.IntN(5), Factor: oneOf[int64](r, 0, 1, 250000, 333333, 333334, 500000, 500001, 666667, 999999, 1000000, r.Int64N(1000001))}
}

// reachOf is how many seconds the last of some rungs has.
func reachOf(l []api.Rung) int { return l[len(l)-1].Step * l[len(l)-1].Count }

// someNow is a time by which a ladder of a schema was asked, by a seed.
func someNow(r *rand.Rand, s api.Schema) int {
	reach := reachOf(s.Rungs)
	switch r.IntN(6) {
	case 0:
		return latest - r.IntN(reach)
	case 1:
		return r.IntN(latest + 1)
	}
	return r.IntN(3 * reach)
}

// near is a time near another one, by a seed: mostly not after it, and seldom farther than a reach.
func near(r *rand.Rand, now, reach int) int {
	t := now - r.IntN(min(reach, 1+r.IntN(reach))) - r.IntN(2)*r.IntN(reach)/4
	if r.IntN(12) == 0 {
		t = now + r.IntN(reach)
	}
	return min(latest, max(0, t))
}

// someValue is a value that may be, by a seed.
func someValue(r *rand.Rand) int64 {
	l := values()
	if r.IntN(8) == 0 {
		return oneOf(r, l[:len(l)-1]...)
	}
	return r.Int64N(2000) - 1000
}

// someLadder is a ladder that is right, by a seed, whose rings have more or less slots near a time, each for itself; made of the chapter's words, not by a call.
func someLadder(r *rand.Rand, s api.Schema, now int) api.Ladder {
	l, _ := made(s)
	for _, held := range l.Rings {
		reach := held.Step * len(held.Slots)
		for range r.IntN(2*len(held.Slots) + 1) {
			t := near(r, now, reach)
			put(held, t-t%held.Step, someValue(r))
		}
	}
	return l
}

// spoiltLadder is a ladder of which one thing became another, by a seed; mostly it isn't right then.
func spoiltLadder(r *rand.Rand, old api.Ladder) api.Ladder {
	l := copied(old)
	at := r.IntN(len(l.Rings))
	held := &l.Rings[at]
	slot := &held.Slots[r.IntN(len(held.Slots))]
	switch r.IntN(10) {
	case 0:
		l.Method = oneOf(r, 0, 6, -1, math.MaxInt, l.Method+5)
	case 1:
		l.Factor = oneOf[int64](r, -1, 1000001, math.MinInt64, math.MaxInt64)
	case 2:
		l.Rings = slices.Delete(l.Rings, at, at+1)
	case 3:
		l.Rings = append(l.Rings, l.Rings[at])
	case 4:
		with := r.IntN(len(l.Rings))
		l.Rings[at], l.Rings[with] = l.Rings[with], l.Rings[at]
	case 5:
		held.Step = oneOf(r, 0, -held.Step, held.Step+1, 2*held.Step, 86401)
	case 6:
		held.Slots = oneOf(r, held.Slots[1:], append(held.Slots, api.Slot{Time: -1}), nil, none(401))
	case 7:
		slot.Time += oneOf(r, -1, 1, held.Step, held.Step*len(held.Slots), -held.Step*len(held.Slots))
	case 8:
		slot.Value = oneOf(r, values()...)
	default:
		*slot = oneOf(r, api.Slot{Time: -1, Value: 1}, api.Slot{Time: -2}, api.Slot{Time: latest + held.Step}, api.Slot{})
	}
	return l
}

// someRecords are slots' records of a schema, by a seed, each of which may be.
func someRecords(r *rand.Rand, s api.Schema, now int) []api.Record {
	var list []api.Record
	for range r.IntN(12) {
		at := r.IntN(len(s.Rungs))
		g := s.Rungs[at]
		t := near(r, now, g.Step*g.Count)
		list = append(list, api.Record{Kind: 3, Rung: at, Time: t - t%g.Step, Value: someValue(r)})
	}
	return list
}

// spoiltRecord is a record of which one thing became another, by a seed.
func spoiltRecord(r *rand.Rand, old api.Record) api.Record {
	switch r.IntN(10) {
	case 0:
		old.Kind = oneOf(r, 0, 1, 2, 4, -3)
	case 1:
		old.Path = "a"
	case 2:
		old.Method = 1
	case 3:
		old.Factor = 1
	case 4:
		old.Rungs = rungs(10, 6)
	case 5:
		old.Rung = oneOf(r, -1, 1, 2, 3, 4, math.MaxInt, math.MinInt)
	case 6:
		old.Time = oneOf(r, -1, old.Time+1, -old.Time, old.Time+(1<<40), math.MinInt)
	case 7:
		old.Now = oneOf(r, 1, -1)
	case 8:
		old.Value = math.MinInt64
	default:
		old.Rungs = []api.Rung{}
	}
	return old
}

// someParts are parts, by a seed: mostly small ones, now and then some whose sum can't be told, or -2^63.
func someParts(r *rand.Rand) []int64 {
	var parts []int64
	for range r.IntN(8) {
		parts = append(parts, someValue(r))
	}
	if len(parts) > 0 && r.IntN(8) == 0 {
		parts[r.IntN(len(parts))] = math.MinInt64
	}
	return parts
}
