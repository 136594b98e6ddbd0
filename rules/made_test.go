package rules_test

import (
	"math/rand/v2"
	"slices"
	"strconv"
	"strings"

	"isobar/api"
)

// oneOf is one of some things, by a seed.
func oneOf[T any](r *rand.Rand, list ...T) T { return list[r.IntN(len(list))] }

// somePattern is a small pattern, by a seed: one that is found in about half of the short paths.
func somePattern(r *rand.Rand) string {
	s := oneOf(r, "", "", "^")
	for range 1 + r.IntN(3) {
		s += oneOf(r, "a", "b", "c", ".", `\.`, "[ab]", "[^a]", "a*", ".*", "[b-c]*")
	}
	return s + oneOf(r, "", "", "$")
}

// somePath is a short path, by a seed.
func somePath(r *rand.Rand) string {
	s := ""
	for range r.IntN(6) {
		s += oneOf(r, "a", "b", "c", ".", "d")
	}
	return s
}

// someRungs are archives that go together, by a seed.
func someRungs(r *rand.Rand) []api.Rung {
	l := []api.Rung{{Step: oneOf(r, 1, 10, 60), Count: 60 + r.IntN(300)}}
	for range r.IntN(4) {
		last := l[len(l)-1]
		next := api.Rung{Step: last.Step * (2 + r.IntN(5)), Count: last.Count + r.IntN(40)}
		if next.Count <= 400 {
			l = append(l, next)
		}
	}
	return l
}

// someRules are rules that may be, by a seed, with at most that many stores, and as many folds.
func someRules(r *rand.Rand, most int) api.Rules {
	var l api.Rules
	for range r.IntN(most + 1) {
		l.Stores = append(l.Stores, api.Store{Name: oneOf(r, "", "a", "b"), Pattern: somePattern(r), Rungs: someRungs(r)})
	}
	for range r.IntN(most + 1) {
		l.Folds = append(l.Folds, api.Fold{Name: oneOf(r, "", "a", "b"), Pattern: somePattern(r), Factor: someFactor(r), Method: 1 + r.IntN(5)})
	}
	return l
}

// someFactor is a factor that may be, by a seed.
func someFactor(r *rand.Rand) int64 {
	return oneOf(r, 0, 1, 499999, 500000, 999999, 1000000, r.Int64N(1000001))
}

// spoiltRules are rules of which one thing became another, by a seed; mostly they may not be then.
func spoiltRules(r *rand.Rand, l api.Rules) api.Rules {
	l.Stores, l.Folds = slices.Clone(l.Stores), slices.Clone(l.Folds)
	pattern := oneOf(r, "*", "[", "[b-a]", "a^", strings.Repeat("a", 64), strings.Repeat("a", 65), "")
	if at := r.IntN(len(l.Stores) + 1); at < len(l.Stores) && r.IntN(2) == 0 {
		s := &l.Stores[at]
		switch r.IntN(3) {
		case 0:
			s.Pattern = pattern
		case 1:
			s.Rungs = oneOf(r, wrongRungs()...)
		default:
			s.Rungs = append(slices.Clone(s.Rungs), oneOf(r, s.Rungs...))
		}
	}
	if at := r.IntN(len(l.Folds) + 1); at < len(l.Folds) {
		f := &l.Folds[at]
		switch r.IntN(3) {
		case 0:
			f.Pattern = pattern
		case 1:
			f.Factor = oneOf(r, -1, 1000001, 1000000, 0, r.Int64()-r.Int64())
		default:
			f.Method = oneOf(r, 0, 6, -1, 5, r.Int()-r.Int())
		}
	}
	return l
}

// someLines are a section's lines, by a seed: mostly right ones of a store, or of a fold.
func someLines(r *rand.Rand, ofFold bool) []string {
	pattern := "pattern = " + somePattern(r)
	kept := "retentions = " + oneOf(r, "60:10", "60s:5m, 5m:30m", "1:60,60:60", "86400:400")
	factor := "xFilesFactor = " + oneOf(r, "0", "1", ".5", "0."+strconv.Itoa(r.IntN(10000000)))
	method := "aggregationMethod = " + oneOf(r, "average", "sum", "min", "max", "last")
	if r.IntN(8) == 0 {
		pattern = "pattern = " + oneOf(r, "*", "[", "b]", strings.Repeat("a", 65), strings.Repeat("a", 64), "")
	}
	if r.IntN(8) == 0 {
		kept = "retentions = " + oneOf(r, "", "60", "0:1", "1:1,1:1,1:1,1:1,1:1", "60:401", "60:400", "60:5,90:90")
	}
	if r.IntN(8) == 0 {
		factor = "xFilesFactor = " + oneOf(r, "", "x", "-0.000001", "1.000001", "-0.0000001", "1.0000001", strings.Repeat("1", 65), strings.Repeat("1", 64))
	}
	if r.IntN(8) == 0 {
		method = "aggregationMethod = " + oneOf(r, "", "avg", "Sum", "1", "last ", "lasts")
	}
	l := []string{pattern, kept}
	if ofFold {
		l = []string{pattern, factor, method}[:1+r.IntN(3)]
		if r.IntN(3) == 0 {
			l = []string{pattern, method}
		}
	}
	switch r.IntN(20) {
	case 0:
		l = append(l, oneOf(r, "x = 1", "Pattern = a", "XFilesFactor = 1", "retention = 60:10", kept+"0", "pattern =", "no line"))
	case 1:
		l = slices.Delete(l, 0, 1)
	}
	r.Shuffle(len(l), func(i, j int) { l[i], l[j] = l[j], l[i] })
	return l
}

// someText is a configuration, by a seed: mostly a right one, of stores or of folds.
func someText(r *rand.Rand, ofFold bool) string {
	text := ""
	for i := range oneOf(r, 0, 1, 1, 2, 2, 3, 5, 16, 17) {
		name := strconv.Itoa(i)
		if r.IntN(60) == 0 {
			name = "0"
		}
		text += section(name, someLines(r, ofFold)...)
	}
	return text
}
