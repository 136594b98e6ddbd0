package rules_test

import (
	"math/rand/v2"
	"slices"
	"testing"

	"isobar/api"
	"isobar/needle"
	"isobar/rules"
)

// TestSeeded: texts by a fixed seed, of stores and of folds, right and wrong.
func TestSeeded(t *testing.T) {
	r := rand.New(rand.NewPCG(131, 132))
	ofStores, ofFolds := map[api.Errno]int{}, map[api.Errno]int{}
	for range 10000 {
		e, _ := reads(t, someText(r, false))
		ofStores[e]++
		_, e = reads(t, someText(r, true))
		ofFolds[e]++
	}
	for _, e := range []api.Errno{api.OK, api.ErrForm, api.ErrPattern, api.ErrLong, api.ErrRange, api.ErrMany, api.ErrArg, api.ErrExist} {
		if ofStores[e] < 20 {
			t.Errorf("of stores error %d only %d times", e, ofStores[e])
		}
	}
	for _, e := range []api.Errno{api.OK, api.ErrForm, api.ErrPattern, api.ErrLong, api.ErrRange, api.ErrNumber, api.ErrMany, api.ErrExist} {
		if ofFolds[e] < 20 {
			t.Errorf("of folds error %d only %d times", e, ofFolds[e])
		}
	}
}

// TestSeededRules: rules by a fixed seed, that may be and that mostly may not, and paths.
func TestSeededRules(t *testing.T) {
	r := rand.New(rand.NewPCG(133, 134))
	met := map[api.Errno]int{}
	for range 10000 {
		l := someRules(r, oneOf(r, 3, 3, 3, 17))
		met[keeps(t, l, somePath(r))]++
		met[keeps(t, spoiltRules(r, l), somePath(r))]++
	}
	for _, e := range []api.Errno{api.OK, api.ErrArg, api.ErrNone} {
		if met[e] < 1000 {
			t.Errorf("error %d only %d times", e, met[e])
		}
	}
}

// TestReadMayBe: what is read of texts may be, and each metric is kept as the first section says whose pattern is found.
func TestReadMayBe(t *testing.T) {
	r := rand.New(rand.NewPCG(135, 136))
	some := 0
	for range 10000 {
		s, e := rules.Stores(someText(r, false))
		f, e2 := rules.Folds(someText(r, true))
		if e != api.OK || e2 != api.OK {
			continue
		}
		l := api.Rules{Stores: s, Folds: f}
		if !rules.Right(l) {
			t.Fatalf("%s may not be", brief(l))
		}
		keeps(t, l, somePath(r))
		some++
	}
	if some < 1000 {
		t.Errorf("only %d are read", some)
	}
}

// place is which of some patterns is the first that is found in a path, or how many they are.
func place(path string, patterns []string) int {
	for i, p := range patterns {
		if found, _ := needle.Match(p, path); found {
			return i
		}
	}
	return len(patterns)
}

// patterns are the patterns of stores, and of folds.
func patterns(l api.Rules) (ofStores, ofFolds []string) {
	for _, s := range l.Stores {
		ofStores = append(ofStores, s.Pattern)
	}
	for _, f := range l.Folds {
		ofFolds = append(ofFolds, f.Pattern)
	}
	return ofStores, ofFolds
}

// TestTheFirst: P12.2, one more rule behind the one that is found, or one that isn't found wherever it stands, changes nothing.
func TestTheFirst(t *testing.T) {
	r := rand.New(rand.NewPCG(137, 138))
	met := map[string]int{}
	for range 10000 {
		l, path := someRules(r, 5), somePath(r)
		want, wanted := rules.Find(l, path)
		ofStores, ofFolds := patterns(l)
		firstStore, firstFold := place(path, ofStores), place(path, ofFolds)
		more := someRules(r, 1)
		for _, s := range more.Stores {
			at := r.IntN(len(l.Stores) + 1)
			found, _ := needle.Match(s.Pattern, path)
			if found && at <= firstStore {
				continue
			}
			got := api.Rules{Stores: slices.Insert(slices.Clone(l.Stores), at, s), Folds: l.Folds}
			if how, e := rules.Find(got, path); !same(how, want) || e != wanted {
				t.Fatalf("%s at %d of %s: %s becomes %s, %d, from %s, %d", brief(s), at, brief(l), path, brief(how), e, brief(want), wanted)
			}
			met["store"]++
		}
		for _, f := range more.Folds {
			at := r.IntN(len(l.Folds) + 1)
			found, _ := needle.Match(f.Pattern, path)
			if found && at <= firstFold {
				continue
			}
			got := api.Rules{Stores: l.Stores, Folds: slices.Insert(slices.Clone(l.Folds), at, f)}
			if how, e := rules.Find(got, path); !same(how, want) || e != wanted {
				t.Fatalf("%s at %d of %s: %s becomes %s, %d, from %s, %d", brief(f), at, brief(l), path, brief(how), e, brief(want), wanted)
			}
			met["fold"]++
		}
	}
	if met["store"] < 1000 || met["fold"] < 1000 {
		t.Errorf("too few: %v", met)
	}
}

// TestTheFirstAlone: those that are found first, alone, say the same as all.
func TestTheFirstAlone(t *testing.T) {
	r := rand.New(rand.NewPCG(139, 140))
	some := 0
	for range 10000 {
		l, path := someRules(r, 8), somePath(r)
		want, e := rules.Find(l, path)
		if e != api.OK {
			continue
		}
		ofStores, ofFolds := patterns(l)
		kept, made := place(path, ofStores), place(path, ofFolds)
		alone := api.Rules{Stores: l.Stores[kept : kept+1], Folds: l.Folds[made:min(made+1, len(l.Folds))]}
		if how, e := rules.Find(alone, path); !same(how, want) || e != api.OK {
			t.Fatalf("%s of %s alone, %s of all of %s: %s", brief(how), brief(alone), brief(want), brief(l), path)
		}
		some++
	}
	if some < 1000 {
		t.Errorf("only %d are found", some)
	}
}
