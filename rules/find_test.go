package rules_test

import (
	"math"
	"slices"
	"strings"
	"testing"

	"isobar/api"
	"isobar/rules"
)

// store is a store of a pattern, and a rung of a minute with that many slots.
func store(pattern string, count int) api.Store {
	return api.Store{Name: "s", Pattern: pattern, Rungs: []api.Rung{{Step: 60, Count: count}}}
}

// fold is a fold.
func fold(pattern string, method int, factor int64) api.Fold {
	return api.Fold{Name: "f", Pattern: pattern, Method: method, Factor: factor}
}

// how is a schema of a rung of a minute with that many slots.
func how(count, method int, factor int64) api.Schema {
	return api.Schema{Rungs: []api.Rung{{Step: 60, Count: count}}, Method: method, Factor: factor}
}

// TestMayBe: what rules may be, and the least that they may not, in each thing that is asked of them.
func TestMayBe(t *testing.T) {
	right(t, api.Rules{}, true)
	right(t, api.Rules{Stores: stores(), Folds: folds()}, true)
	right(t, api.Rules{Stores: stores(store("a", 10))}, true)
	right(t, api.Rules{Folds: folds(fold("a", 1, 0))}, true)
	right(t, api.Rules{Stores: stores(store("a", 10)), Folds: folds(fold("a", 1, 0))}, true)
	// Names may be any, none too, and the same twice.
	for _, name := range []string{"", "a", "]", "\n", strings.Repeat("n", 1000)} {
		s, f := store("a", 10), fold("a", 1, 0)
		s.Name, f.Name = name, name
		right(t, api.Rules{Stores: stores(s, s), Folds: folds(f, f)}, true)
	}
	for pattern, want := range map[string]bool{
		"": true, "^": true, "$": true, "^$": true, ".*": true, "a b": true, " a ": true, "\n": true, "\r": true, "\xff": true, strings.Repeat("a", 64): true, "[c-a]": false, "\\": false, " *": true, strings.Repeat("a", 65): false, strings.Repeat("a", 100000): false,
	} {
		right(t, api.Rules{Stores: stores(store(pattern, 10))}, want)
		right(t, api.Rules{Folds: folds(fold(pattern, 1, 0))}, want)
	}
	for pattern := range wrongPatterns() {
		right(t, api.Rules{Stores: stores(store(pattern, 10))}, false)
		right(t, api.Rules{Folds: folds(fold(pattern, 1, 0))}, false)
	}
	for factor, want := range map[int64]bool{0: true, 1: true, 500000: true, 999999: true, 1000000: true, -1: false, 1000001: false, -500000: false, -1000000: false, math.MaxInt64: false, math.MinInt64: false, math.MinInt64 + 1: false, 1 << 32: false} {
		right(t, api.Rules{Folds: folds(fold("a", 1, factor))}, want)
	}
	for method, want := range map[int]bool{1: true, 2: true, 3: true, 4: true, 5: true, 0: false, 6: false, 7: false, -1: false, -5: false, math.MaxInt: false, math.MinInt: false, 1<<32 + 1: false, 256 + 1: false} {
		right(t, api.Rules{Folds: folds(fold("a", method, 0))}, want)
	}
}

// wrongRungs are rungs that don't go together.
func wrongRungs() [][]api.Rung {
	return [][]api.Rung{
		nil, {}, {{}},
		{{Step: 60}}, {{Count: 10}}, {{Step: -60, Count: 10}}, {{Step: 60, Count: -10}}, {{Step: -60, Count: -10}}, {{Step: 0, Count: 10}}, {{Step: 60, Count: 0}},
		{{Step: 60, Count: 401}}, {{Step: 86401, Count: 1}}, {{Step: math.MaxInt, Count: math.MaxInt}}, {{Step: math.MinInt, Count: math.MinInt}},
		{{Step: 60, Count: 10}, {Step: 60, Count: 10}}, {{Step: 60, Count: 10}, {Step: 90, Count: 100}}, {{Step: 60, Count: 10}, {Step: 120, Count: 5}}, {{Step: 60, Count: 1}, {Step: 120, Count: 10}}, {{Step: 120, Count: 20}, {Step: 60, Count: 100}}, {{Step: 60, Count: 10}, {}},
		{{Step: 1, Count: 2}, {Step: 2, Count: 4}, {Step: 4, Count: 8}, {Step: 8, Count: 16}, {Step: 16, Count: 32}},
		make([]api.Rung, 100000),
	}
}

func TestRungsMayBe(t *testing.T) {
	for _, l := range [][]api.Rung{{{Step: 1, Count: 1}}, {{Step: 86400, Count: 400}}, {{Step: 60, Count: 5}, {Step: 300, Count: 6}}, {{Step: 1, Count: 2}, {Step: 2, Count: 4}, {Step: 4, Count: 8}, {Step: 8, Count: 16}}} {
		r := api.Rules{Stores: stores(api.Store{Pattern: "a", Rungs: l})}
		right(t, r, true)
		finds(t, r, "a", api.Schema{Rungs: l, Method: api.Average, Factor: 500000}, api.OK)
	}
	for _, l := range wrongRungs() {
		right(t, api.Rules{Stores: stores(api.Store{Pattern: "a", Rungs: l})}, false)
	}
}

// wrongStores are stores that may not be; wrongFolds are such folds.
func wrongStores() []api.Store {
	l := stores(api.Store{}, store("*", 10), store(strings.Repeat("a", 65), 10), store("a", 0), store("a", 401), store("", -1))
	for _, rungs := range wrongRungs() {
		l = append(l, api.Store{Name: "w", Pattern: "a", Rungs: rungs})
	}
	return l
}

func wrongFolds() []api.Fold {
	return folds(api.Fold{}, fold("*", 1, 0), fold(strings.Repeat("a", 65), 1, 0), fold("a", 0, 0), fold("a", 6, 0), fold("a", -1, 0), fold("a", 1, -1), fold("a", 1, 1000001), fold("[c-a]", 5, 1000000))
}

// TestOneThatMayNot: one rule that may not be spoils all, wherever it stands, also behind the one that would hold.
func TestOneThatMayNot(t *testing.T) {
	all := api.Rules{Stores: stores(store(".*", 1), store("a", 2), store("b", 3)), Folds: folds(fold(".*", 2, 0), fold("a", 3, 1), fold("b", 4, 2))}
	right(t, all, true)
	for at := range 4 {
		for _, s := range wrongStores() {
			right(t, api.Rules{Stores: slices.Insert(slices.Clone(all.Stores), at, s), Folds: all.Folds}, false)
			right(t, api.Rules{Stores: slices.Insert(slices.Clone(all.Stores), at, s)}, false)
		}
		for _, f := range wrongFolds() {
			right(t, api.Rules{Stores: all.Stores, Folds: slices.Insert(slices.Clone(all.Folds), at, f)}, false)
			right(t, api.Rules{Folds: slices.Insert(slices.Clone(all.Folds), at, f)}, false)
		}
	}
}

// TestHowManyMayBe: at most 16 stores, and at most 16 folds, however many the others are.
func TestHowManyMayBe(t *testing.T) {
	for _, n := range []int{0, 1, 15, 16, 17, 18, 100, 10000} {
		for _, m := range []int{0, 1, 15, 16, 17, 18, 100, 10000} {
			r := api.Rules{Stores: slices.Repeat(stores(store("a", 10)), n), Folds: slices.Repeat(folds(fold("a", 5, 7)), m)}
			is := n <= 16 && m <= 16
			right(t, r, is)
			switch {
			case !is:
				finds(t, r, "a", api.Schema{}, api.ErrArg)
			case n == 0:
				finds(t, r, "a", api.Schema{}, api.ErrNone)
			case m == 0:
				finds(t, r, "a", how(10, api.Average, 500000), api.OK)
			default:
				finds(t, r, "a", how(10, api.Last, 7), api.OK)
			}
		}
	}
	// The last one of 16 is asked, too.
	for at := range 16 {
		r := api.Rules{Stores: slices.Repeat(stores(store("x", 10)), 16), Folds: slices.Repeat(folds(fold("x", 2, 3)), 16)}
		r.Stores[at], r.Folds[15-at] = store("a", 20), fold("a", 3, 4)
		finds(t, r, "a", how(20, api.Least, 4), api.OK)
		finds(t, r, "x", how(10, api.Sum, 3), api.OK)
		finds(t, r, "b", api.Schema{}, api.ErrNone)
	}
}

// TestFindStores: the first store whose pattern is found; if none is, there is no such rule, whatever the folds say.
func TestFindStores(t *testing.T) {
	r := api.Rules{Stores: stores(store("^a", 1), store("b", 2), store("^a.*c$", 3))}
	for path, want := range map[string]int{"a": 1, "ab": 1, "abc": 1, "ac": 1, "b": 2, "ba": 2, "bac": 2, "xb": 2, "": 0, "x": 0, "c": 0, "xa": 0, "A": 0, "\xff": 0} {
		if want == 0 {
			finds(t, r, path, api.Schema{}, api.ErrNone)
		} else {
			finds(t, r, path, how(want, api.Average, 500000), api.OK)
		}
	}
	for _, l := range [][]api.Fold{nil, folds(fold("", 2, 0)), folds(fold("x", 2, 0), fold(".*", 5, 1000000))} {
		finds(t, api.Rules{Folds: l}, "x", api.Schema{}, api.ErrNone)
		finds(t, api.Rules{Folds: l}, "", api.Schema{}, api.ErrNone)
		finds(t, api.Rules{Stores: stores(store("a", 10)), Folds: l}, "x", api.Schema{}, api.ErrNone)
		finds(t, api.Rules{Stores: stores(store("a", 10), store("xx", 20)), Folds: l}, "x", api.Schema{}, api.ErrNone)
	}
	// Rungs of the store alone, all of them.
	rungs := []api.Rung{{Step: 1, Count: 60}, {Step: 60, Count: 60}, {Step: 3600, Count: 400}}
	finds(t, api.Rules{Stores: stores(store("b", 10), api.Store{Pattern: "a", Rungs: rungs}, store("a", 20))}, "a", api.Schema{Rungs: rungs, Method: api.Average, Factor: 500000}, api.OK)
}

// TestFindFolds: Factor and Method of the first fold whose pattern is found, both of the same one; the usual ones, if none is.
func TestFindFolds(t *testing.T) {
	r := api.Rules{Stores: stores(store("", 10)), Folds: folds(fold(`\.count$`, api.Sum, 0), fold(`\.min$`, api.Least, 100000), fold("count", api.Most, 1000000), fold("^", api.Last, 1))}
	for path, want := range map[string]api.Schema{
		"a.count": how(10, api.Sum, 0), "count.count": how(10, api.Sum, 0), "a.min": how(10, api.Least, 100000), "count.min": how(10, api.Least, 100000), "counts": how(10, api.Most, 1000000), "count.max": how(10, api.Most, 1000000), "": how(10, api.Last, 1), "min": how(10, api.Last, 1), "a": how(10, api.Last, 1),
	} {
		finds(t, r, path, want, api.OK)
	}
	r.Folds = r.Folds[:3]
	for _, path := range []string{"", "min", "a", "a.min.b", "Count"} {
		finds(t, r, path, how(10, api.Average, 500000), api.OK)
	}
	for method := 1; method <= 5; method++ {
		for _, factor := range []int64{0, 1, 499999, 500000, 1000000} {
			finds(t, api.Rules{Stores: r.Stores, Folds: folds(fold("x", 1, 7), fold("a", method, factor), fold("a", 2, 9))}, "a", how(10, method, factor), api.OK)
		}
	}
	// Which store holds, and which fold, are two questions: the second store and the first fold, and the other way round.
	r = api.Rules{Stores: stores(store("a", 1), store("b", 2)), Folds: folds(fold("b", 3, 3), fold("a", 4, 4))}
	finds(t, r, "a", how(1, 4, 4), api.OK)
	finds(t, r, "b", how(2, 3, 3), api.OK)
	finds(t, r, "ab", how(1, 3, 3), api.OK)
	finds(t, r, "c", api.Schema{}, api.ErrNone)
}

// TestPaths: a path may be any text, also one that no metric has.
func TestPaths(t *testing.T) {
	for pattern, paths := range map[string]map[string]bool{
		"":         {"": true, "a": true, "\x00": true},
		"^":        {"": true, "a": true},
		"$":        {"": true, "a": true},
		"^$":       {"": true, "a": false, " ": false, "\n": false},
		".":        {"": false, "a": true, "\n": true, "\xff": true},
		".*":       {"": true, "a": true, "..": true},
		"a*":       {"": true, "b": true},
		"a":        {"": false, "a": true, "A": false, "ba": true, strings.Repeat("b", 100000) + "a": true, strings.Repeat("b", 100000): false},
		"a$":       {"a\n": false, "a": true, "ab": false},
		"^a":       {"\na": false, "a\nb": true},
		"[^a]":     {"a": false, "": false, "aa": false, "ab": true},
		`\.`:       {"a.b": true, "a": false, "...": true},
		"a..b":     {"a..b": true, "a.b": false, "axxb": true},
		"\xff":     {"\xff": true, "é": false, "ÿ": false},
		"^a b=c#$": {"a b=c#": true},
	} {
		for path, found := range paths {
			rule := api.Rules{Stores: stores(store(pattern, 10))}
			fall := api.Rules{Stores: stores(store("", 10)), Folds: folds(fold(pattern, api.Sum, 3))}
			if found {
				finds(t, rule, path, how(10, api.Average, 500000), api.OK)
				finds(t, fall, path, how(10, api.Sum, 3), api.OK)
			} else {
				finds(t, rule, path, api.Schema{}, api.ErrNone)
				finds(t, fall, path, how(10, api.Average, 500000), api.OK)
			}
		}
	}
}

// TestMore: P12.2 by hand: one more behind the one that is found, and one that isn't found ahead of it, between and behind.
func TestMore(t *testing.T) {
	r := api.Rules{Stores: stores(store("x", 1), store("a", 2), store("y", 3)), Folds: folds(fold("x", 2, 1), fold("a", 3, 2), fold("y", 4, 3))}
	want := how(2, api.Least, 2)
	finds(t, r, "a", want, api.OK)
	for at := range 4 {
		idle := api.Rules{Stores: slices.Insert(slices.Clone(r.Stores), at, store("z", 9)), Folds: slices.Insert(slices.Clone(r.Folds), at, fold("z", 5, 9))}
		finds(t, idle, "a", want, api.OK)
		finds(t, api.Rules{Stores: idle.Stores, Folds: r.Folds}, "a", want, api.OK)
		finds(t, api.Rules{Stores: r.Stores, Folds: idle.Folds}, "a", want, api.OK)
		for _, pattern := range []string{"a", "", ".*", "^a$"} {
			more := api.Rules{Stores: slices.Insert(slices.Clone(r.Stores), at, store(pattern, 9)), Folds: slices.Insert(slices.Clone(r.Folds), at, fold(pattern, 5, 9))}
			if at >= 2 {
				finds(t, more, "a", want, api.OK)
				finds(t, api.Rules{Stores: more.Stores, Folds: r.Folds}, "a", want, api.OK)
				finds(t, api.Rules{Stores: r.Stores, Folds: more.Folds}, "a", want, api.OK)
			} else {
				finds(t, more, "a", how(9, api.Last, 9), api.OK)
				finds(t, api.Rules{Stores: more.Stores, Folds: r.Folds}, "a", how(9, api.Least, 2), api.OK)
				finds(t, api.Rules{Stores: r.Stores, Folds: more.Folds}, "a", how(2, api.Last, 9), api.OK)
			}
		}
	}
}

// TestOutOfTexts: rules as a configuration says them, found by paths.
func TestOutOfTexts(t *testing.T) {
	s, e := rules.Stores(section("servers", `pattern = ^servers\.`, "retentions = 10s:1m,1m:1h") + section("all", "pattern = .*", "retentions = 60:5"))
	f, e2 := rules.Folds(section("sum", `pattern = \.count$`, "xFilesFactor = 0", "aggregationMethod = sum") + section("low", `pattern = \.min$`, "aggregationMethod = min") + section("few", "pattern = ^few", "xFilesFactor = .1"))
	if e != api.OK || e2 != api.OK {
		t.Fatal(e, e2)
	}
	fine, coarse := []api.Rung{{Step: 10, Count: 6}, {Step: 60, Count: 60}}, []api.Rung{{Step: 60, Count: 5}}
	for path, want := range map[string]api.Schema{
		"servers.a.load":  {Rungs: fine, Method: api.Average, Factor: 500000},
		"servers.a.count": {Rungs: fine, Method: api.Sum, Factor: 0},
		"servers.a.min":   {Rungs: fine, Method: api.Least, Factor: 500000},
		"servers":         {Rungs: coarse, Method: api.Average, Factor: 500000},
		"few.min":         {Rungs: coarse, Method: api.Least, Factor: 500000},
		"few.a":           {Rungs: coarse, Method: api.Average, Factor: 100000},
		"":                {Rungs: coarse, Method: api.Average, Factor: 500000},
	} {
		finds(t, api.Rules{Stores: s, Folds: f}, path, want, api.OK)
	}
}
