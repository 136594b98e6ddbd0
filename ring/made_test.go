package ring_test

import (
	"math"
	"math/rand/v2"
	"slices"

	"isobar/api"
)

// oneOf is one of some things, by a seed.
func oneOf[T any](r *rand.Rand, list ...T) T { return list[r.IntN(len(list))] }

// edges are whole numbers at which something of a ring changes, and those beside them.
func edges() []int {
	list := []int{math.MinInt, math.MinInt + 1, math.MinInt32, -latest, -86400, -401, -60, -2, -1, 0, 1, 2, 3, 9, 10, 11, 59, 60, 61, 399, 400, 401, 402, 3600, 86399, 86400, 86401, math.MaxInt - 1, math.MaxInt}
	for _, bit := range []int{16, 17, 31, 32, 33, 39, 40, 41, 48, 56, 62} {
		list = append(list, 1<<bit-1, 1<<bit, 1<<bit+1, 1<<bit+60, 1<<bit+400)
	}
	return list
}

// values are values of slots: the last one may not be.
func values() []int64 {
	return []int64{0, 1, -1, 5, -6, 1000000, math.MaxInt32, math.MaxInt64, math.MaxInt64 - 1, math.MinInt64 + 1, math.MinInt64}
}

// none are so many slots without a value.
func none(count int) []api.Slot { return slices.Repeat([]api.Slot{{Time: -1}}, count) }

// ringOf is a ring of a step with just these slots.
func ringOf(step int, l ...api.Slot) api.Ring { return api.Ring{Step: step, Slots: l} }

// someTime is a time, by a seed: mostly one of the first few rounds of a ring.
func someTime(r *rand.Rand, step, count int) int {
	switch r.IntN(8) {
	case 0:
		return r.IntN(latest + 1)
	case 1:
		return latest - r.IntN(step*count)
	}
	return r.IntN(3 * step * count)
}

// someValue is a value that may be, by a seed.
func someValue(r *rand.Rand) int64 {
	l := values()
	if r.IntN(4) == 0 {
		return oneOf(r, l[:len(l)-1]...)
	}
	return r.Int64N(2000) - 1000
}

// someRing is a ring that is right, by a seed, with more or less slots that have a value; made of the chapter's words, not by a call.
func someRing(r *rand.Rand) api.Ring {
	step := oneOf(r, 1, 2, 3, 7, 10, 60, 3600, 86400, 1+r.IntN(86400))
	l := none(oneOf(r, 1, 2, 3, 5, 10, 1+r.IntN(400), 400))
	for range r.IntN(2*len(l) + 1) {
		n := upTo(step, someTime(r, step, len(l)))
		l[n%len(l)] = api.Slot{Time: step * n, Value: someValue(r)}
	}
	return ringOf(step, l...)
}

// spoiltRing is a ring of which one thing became another, by a seed; mostly it isn't right then.
func spoiltRing(r *rand.Rand, old api.Ring) api.Ring {
	l := slices.Clone(old.Slots)
	at := r.IntN(len(l))
	switch r.IntN(8) {
	case 0:
		return ringOf(oneOf(r, 0, -1, -old.Step, 86401, old.Step+1, 2*old.Step, oneOf(r, edges()...)), l...)
	case 1:
		return ringOf(old.Step, l[1:]...)
	case 2:
		return ringOf(old.Step, append(l, none(1+r.IntN(2))...)...)
	case 3:
		l[at].Time += oneOf(r, -1, 1, old.Step, -old.Step, old.Step*len(l), -old.Step*len(l))
	case 4:
		l[at].Time = oneOf(r, edges()...)
	case 5:
		l[at].Value = oneOf(r, values()...)
	case 6:
		l[at] = api.Slot{Time: -1, Value: oneOf(r, 0, 1, -1, r.Int64())}
	default:
		with := r.IntN(len(l))
		l[at], l[with] = l[with], l[at]
	}
	return ringOf(old.Step, l...)
}
