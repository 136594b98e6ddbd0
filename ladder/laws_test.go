package ladder_test

import (
	"math/rand/v2"
	"slices"
	"testing"

	"isobar/api"
	"isobar/ladder"
	"isobar/segment"
)

// livePoint is a point, and when it came.
type livePoint struct {
	api.Point
	now int
}

// someCome is a ladder behind some points, by a seed, that came as time went by.
func someCome(t *testing.T, r *rand.Rand, s api.Schema) (api.Ladder, []livePoint) {
	t.Helper()
	l, now := fresh(t, s), someNow(r, s)
	var come []livePoint
	for range r.IntN(60) {
		now = min(latest, now+r.IntN(1+r.IntN(1+s.Rungs[0].Step*3)))
		p := livePoint{api.Point{Time: near(r, now, reachOf(s.Rungs)), Value: someValue(r)}, now}
		m, e := accepts(t, l, p.Point, now)
		if e == api.OK {
			come = append(come, p)
		}
		l = m
	}
	return l, come
}

// TestBuiltAgain: P14.2, a ladder is built again from its slots, which are as many as all rings have, at most; each of them is a record that is right.
func TestBuiltAgain(t *testing.T) {
	r := rand.New(rand.NewPCG(141, 142))
	full := 0
	for i := range 2500 {
		s := someWay(r)
		l := someLadder(r, s, someNow(r, s))
		if i%3 == 0 {
			l, _ = someCome(t, r, s)
		}
		list, room := ladder.Slots(l), 0
		for _, g := range s.Rungs {
			room += g.Count
		}
		if len(list) > room {
			t.Fatalf("%d slots of %s", len(list), brief(l))
		}
		if len(list) == room {
			full++
		}
		for _, x := range list {
			if !segment.Right(x) {
				t.Fatalf("%v isn't right", x)
			}
		}
		if again, e := ladder.Build(wayOf(l), list); !same(again, l) || e != api.OK {
			t.Fatalf("%s is built again as %s, %d", brief(l), brief(again), e)
		}
		// Whatever the order: each slot has a place of its own.
		r.Shuffle(len(list), func(a, b int) { list[a], list[b] = list[b], list[a] })
		if again, e := ladder.Build(s, list); !same(again, l) || e != api.OK {
			t.Fatalf("%s is built again as %s, %d", brief(l), brief(again), e)
		}
	}
	if full < 20 {
		t.Errorf("only %d were full", full)
	}
}

// TestGoesOn: P14.2, what is built again goes on as the ladder itself.
func TestGoesOn(t *testing.T) {
	r := rand.New(rand.NewPCG(143, 144))
	for range 600 {
		l, come := someCome(t, r, someWay(r))
		if len(come) == 0 {
			continue
		}
		now := come[len(come)-1].now
		again, _ := builds(t, wayOf(l), ladder.Slots(l))
		for range 10 {
			p := api.Point{Time: near(r, now, reachOf(rungsOf(l))), Value: someValue(r)}
			l, _ = ladder.Accept(l, p, now)
			if again, _ = ladder.Accept(again, p, now); !same(again, l) {
				t.Fatalf("%s goes on as %s", brief(l), brief(again))
			}
		}
	}
}

// TestTheLast: P14.3, as time goes by, what is fetched from the finest ring is, slot by slot, what was accepted last there.
func TestTheLast(t *testing.T) {
	r := rand.New(rand.NewPCG(145, 146))
	found := 0
	for range 2500 {
		s := someWay(r)
		finest := s.Rungs[0]
		l, come := someCome(t, r, s)
		if len(come) == 0 {
			continue
		}
		now := min(latest, come[len(come)-1].now+r.IntN(2*finest.Step))
		from := min(latest-1, max(0, now-r.IntN(finest.Step*finest.Count+1)))
		until := min(latest, now+1)
		got, e := fetches(t, l, from, until, now)
		if e != api.OK || got.Step != finest.Step {
			t.Fatalf("Fetch(%s, %d, %d, %d) = %v, %d", brief(l), from, until, now, got, e)
		}
		for i, n := range got.Values {
			slot := got.Start + i*got.Step
			want := api.Num{Null: true}
			for _, p := range come {
				if p.Time/finest.Step == slot/finest.Step && slot > p.now-finest.Step*finest.Count {
					want = api.Num{V: p.Value}
					found++
				}
			}
			if n != want {
				t.Fatalf("at %d of %s stands %v behind %v, want %v", slot, brief(l), n, come, want)
			}
		}
		// No slot of the time that is asked for is left out, but one that the ring doesn't reach any more.
		slots := 0
		for at := from; at < until; at++ {
			if at%finest.Step == 0 && at > now-finest.Step*finest.Count {
				slots++
			}
		}
		if len(got.Values) != slots {
			t.Fatalf("Fetch(%s, %d, %d, %d) has %d values, want %d", brief(l), from, until, now, len(got.Values), slots)
		}
	}
	if found < 5000 {
		t.Errorf("only %d values were found", found)
	}
}

// makes is what values of slots, all of them known, make of a whole count of them each.
func makes(method int, values []int64, count int) []int64 {
	var made []int64
	for part := range slices.Chunk(values, count) {
		made = append(made, blended(method, part).V)
	}
	return made
}

// TestCoarser: P14.4, all parts of a slot of the coarsest ring come, in whatever order, some of them twice: each coarser slot is what its parts make.
func TestCoarser(t *testing.T) {
	r := rand.New(rand.NewPCG(147, 148))
	for range 1000 {
		s := someWay(r)
		s.Rungs = deepRungs(r)
		first, last := s.Rungs[0], s.Rungs[len(s.Rungs)-1]
		count := last.Step / first.Step
		start := last.Step * r.IntN(1000)
		now := start + last.Step - 1
		values := make([]int64, count)
		order := append(r.Perm(count), r.Perm(count)[:r.IntN(count)]...)
		l := fresh(t, s)
		for _, i := range order {
			values[i] = r.Int64N(2000000) - 1000000
			l = take(t, l, now, [2]int{start + i*first.Step + r.IntN(first.Step), int(values[i])})
		}
		for at, g := range s.Rungs {
			if at > 0 {
				values = makes(s.Method, values, g.Step/s.Rungs[at-1].Step)
			}
			for i, v := range values {
				want := api.Slot{Time: start + i*g.Step, Value: v}
				if there := within(l.Rings[at], want.Time, want.Time+1); len(there) != 1 || there[0] != want {
					t.Fatalf("%s has %v, want %v", brief(l), there, want)
				}
			}
		}
	}
}

// TestAsTimeGoesBy: P14.4, points that come as time goes by, one a slot: each coarser slot behind which time has gone is what its parts make.
func TestAsTimeGoesBy(t *testing.T) {
	r := rand.New(rand.NewPCG(149, 150))
	for range 200 {
		s := someWay(r)
		first := s.Rungs[0]
		start := s.Rungs[len(s.Rungs)-1].Step * r.IntN(100)
		l := fresh(t, s)
		var values []int64
		for i := range 150 {
			v := r.Int64N(2000) - 1000
			at := start + i*first.Step + r.IntN(first.Step)
			l = take(t, l, at, [2]int{at, int(v)})
			values = append(values, v)
		}
		for at, g := range s.Rungs {
			if at > 0 {
				count := g.Step / s.Rungs[at-1].Step
				values = makes(s.Method, values[:len(values)/count*count], count)
			}
			for i := max(0, len(values)-g.Count+1); i < len(values); i++ {
				want := api.Slot{Time: start + i*g.Step, Value: values[i]}
				if there := within(l.Rings[at], want.Time, want.Time+1); len(there) != 1 || there[0] != want {
					t.Fatalf("%s has %v, want %v", brief(l), there, want)
				}
			}
		}
	}
}

// TestEachRow: each row of three points of small ladders, at each of some times, made coarser by each method.
func TestEachRow(t *testing.T) {
	for _, l := range [][]int{{1, 2, 2, 2}, {2, 2, 4, 2, 8, 2}, {1, 3, 2, 2, 4, 2}, {1, 1}} {
		for method := api.Average; method <= api.Last; method++ {
			s := way(method, 500000, l...)
			var points []livePoint
			for now := range 12 {
				if now%3 == 1 || now == 11 {
					for at := range now + 1 {
						points = append(points, livePoint{api.Point{Time: at, Value: int64(at*at + 1)}, now})
					}
				}
			}
			empty := fresh(t, s)
			for i, a := range points {
				one, _ := accepts(t, empty, a.Point, a.now)
				for j, b := range points {
					b.Value += 100
					two, _ := accepts(t, one, b.Point, b.now)
					for k, c := range points {
						if (i+j+k)%5 == 0 {
							c.Value -= 300
							accepts(t, two, c.Point, c.now)
						}
					}
				}
			}
		}
	}
}

// TestSeeded: all calls of ladders by a fixed seed, right and spoilt.
func TestSeeded(t *testing.T) {
	r := rand.New(rand.NewPCG(151, 152))
	counts := map[api.Errno]int{}
	rights := 0
	for range 5000 {
		s := someWay(r)
		now := someNow(r, s)
		l := someLadder(r, s, now)
		if r.IntN(3) == 0 {
			l = spoiltLadder(r, l)
		}
		if holds(t, l) {
			rights++
		}
		reach := reachOf(s.Rungs)
		for range 4 {
			at := oneOf(r, near(r, now, reach), near(r, now, s.Rungs[0].Step*s.Rungs[0].Count), oneOf(r, edges()...))
			then := oneOf(r, now, now, min(latest, now+r.IntN(reach)), max(0, now-r.IntN(reach)), oneOf(r, edges()...))
			_, e := accepts(t, l, api.Point{Time: at, Value: oneOf(r, someValue(r), oneOf(r, values()...))}, then)
			counts[e]++
			picks(t, l, at, then)
			fetches(t, l, at, oneOf(r, at+1+r.IntN(reach), near(r, now, reach), oneOf(r, edges()...)), then)
		}
	}
	if rights < 3000 || counts[api.OK] < 4000 || counts[api.ErrArg] < 2000 || counts[api.ErrRange] < 500 || counts[api.ErrOld] < 500 {
		t.Errorf("only %d right, %v", rights, counts)
	}
}

// TestSeededBuild: ladders of records, and what parts make, by a fixed seed, right and spoilt.
func TestSeededBuild(t *testing.T) {
	r := rand.New(rand.NewPCG(153, 154))
	counts := map[api.Errno]int{}
	for range 10000 {
		s := someWay(r)
		list := someRecords(r, s, someNow(r, s))
		if len(list) > 0 && r.IntN(2) == 0 {
			at := r.IntN(len(list))
			list[at] = spoiltRecord(r, list[at])
		}
		_, e := builds(t, s, list)
		counts[e]++
		for method := range 7 {
			blends(t, method, someParts(r))
		}
	}
	if counts[api.OK] < 4000 || counts[api.ErrArg] < 2000 {
		t.Error(counts)
	}
}
