package retention_test

import (
	"math/rand/v2"
	"slices"
	"testing"

	"isobar/api"
	"isobar/retention"
)

// full are rungs, and what stands in the spare room behind them.
func full(l []api.Rung) []api.Rung { return l[:cap(l)] }

// TestHandedIn: no call changes rungs, nor their spare room.
func TestHandedIn(t *testing.T) {
	r := rand.New(rand.NewPCG(115, 116))
	for range 2000 {
		made := someRungs(r)
		l := slices.Concat(made, []api.Rung{{Step: 7, Count: 8}, {Step: -1, Count: 9}})[:len(made)]
		before := slices.Clone(full(l))
		lists(t, l)
		if !slices.Equal(full(l), before) {
			t.Fatalf("%v became %v", before, full(l))
		}
	}
}

// TestNewMemory: rungs that were parsed, their spare room too, share nothing with those that were parsed ahead, or are later.
func TestNewMemory(t *testing.T) {
	for _, s := range []string{"60:10", "60s:5m, 5m:30m", "1:60,60:60,3600:24,86400:400", "1:2,2:4,4:8"} {
		want, _ := parsed(s)
		first, _ := retention.Parse(s)
		second, _ := retention.Parse(s)
		for i := range full(first) {
			full(first)[i] = api.Rung{Step: 7, Count: 7}
		}
		third, e := retention.Parse(s)
		if e != api.OK || !slices.Equal(second, want) || !slices.Equal(third, want) {
			t.Errorf("%q: a change of one answer changes another: %v, %v, want %v", s, second, third, want)
		}
	}
}

// Nothing is kept from call to call: asked once more, in another order, and behind errors, all answer as before.
func TestAnswersHangOnArgumentsAlone(t *testing.T) {
	texts := slices.Concat(wrongSpans(), wrongRungs(), []string{"60s:5m, 5m:30m", "60:10", "1m", "5y", "0s:1m", "1m:1h,90s:1d", "1:1,1:1,1:1,1:1,1:1", "1:2,2:4,4:8,8:16"})
	rows := [][]api.Rung{nil, {{Step: 60, Count: 10}}, {{Step: 60, Count: 10}, {Step: 120, Count: 20}}, {{Step: 60, Count: 10}, {Step: 120, Count: 5}}, {{}}}
	for range 3 {
		slices.Reverse(texts)
		slices.Reverse(rows)
		for _, s := range texts {
			spans(t, s)
			parses(t, s)
		}
		for _, l := range rows {
			lists(t, l)
		}
	}
}
