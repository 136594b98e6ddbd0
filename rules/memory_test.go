package rules_test

import (
	"math/rand/v2"
	"reflect"
	"slices"
	"strings"
	"testing"

	"isobar/api"
	"isobar/rules"
)

// full is a list, and what stands in the spare room behind it.
func full[T any](l []T) []T { return l[:cap(l)] }

// roomy is a list with spare room behind it, in which one more stands.
func roomy[T any](l []T, more T) []T { return append(slices.Clone(l), more)[:len(l)] }

// roomyRules are rules with spare room behind each list.
func roomyRules(l api.Rules) api.Rules {
	l.Stores, l.Folds = roomy(l.Stores, store("spare", 7)), roomy(l.Folds, fold("spare", 5, 7))
	for i, s := range full(l.Stores) {
		full(l.Stores)[i].Rungs = roomy(s.Rungs, api.Rung{Step: 7, Count: 7})
	}
	return l
}

// copied are rules, with all that stands in spare room told too, in memory of its own.
func copied(l api.Rules) api.Rules {
	l.Stores, l.Folds = slices.Clone(full(l.Stores)), slices.Clone(full(l.Folds))
	for i, s := range l.Stores {
		l.Stores[i].Rungs = slices.Clone(full(s.Rungs))
	}
	return l
}

// TestHandedIn: no call changes rules, nor any list's spare room.
func TestHandedIn(t *testing.T) {
	r := rand.New(rand.NewPCG(141, 142))
	for range 3000 {
		made := someRules(r, oneOf(r, 3, 17))
		if r.IntN(2) == 0 {
			made = spoiltRules(r, made)
		}
		l := roomyRules(made)
		before := copied(l)
		rules.Right(l)
		for range 3 {
			rules.Find(l, somePath(r))
		}
		if after := copied(l); !reflect.DeepEqual(after, before) {
			t.Fatalf("%s became %s", brief(before), brief(after))
		}
		keeps(t, l, somePath(r))
	}
}

// goodTexts are texts of stores, and of folds, with more than one rule.
func goodTexts() (ofStores, ofFolds []string) {
	for _, n := range []int{1, 2, 3, 16} {
		ofStores = append(ofStores, manyTexts(n, "pattern = a", "retentions = 60s:5m, 5m:30m"), manyTexts(n, "pattern = .*", "retentions = 1:60,60:60,3600:24,86400:30"))
		ofFolds = append(ofFolds, manyTexts(n, "pattern = a"), manyTexts(n, "pattern = a", "xFilesFactor = 0", "aggregationMethod = sum"))
	}
	return ofStores, ofFolds
}

// TestNewMemory: a change of rules that were read changes none that were read ahead, or are later.
func TestNewMemory(t *testing.T) {
	ofStores, ofFolds := goodTexts()
	for _, text := range ofStores {
		want, _ := stored(text)
		first, _ := rules.Stores(text)
		second, _ := rules.Stores(text)
		for i, s := range full(first) {
			for k := range full(s.Rungs) {
				full(s.Rungs)[k] = api.Rung{Step: 7, Count: 7}
			}
			full(first)[i] = store("spoilt", 7)
		}
		third, e := rules.Stores(text)
		if e != api.OK || !sameStores(second, want) || !sameStores(third, want) {
			t.Errorf("%s: a change of one answer changes another: %s, %s, want %s", brief(text), brief(second), brief(third), brief(want))
		}
	}
	for _, text := range ofFolds {
		want, _ := folded(text)
		first, _ := rules.Folds(text)
		second, _ := rules.Folds(text)
		for i := range full(first) {
			full(first)[i] = fold("spoilt", 5, 7)
		}
		third, e := rules.Folds(text)
		if e != api.OK || !slices.Equal(second, want) || !slices.Equal(third, want) {
			t.Errorf("%s: a change of one answer changes another: %s, %s, want %s", brief(text), brief(second), brief(third), brief(want))
		}
	}
}

// TestRungsApart: of one answer no two stores' rungs share memory, their spare room neither.
func TestRungsApart(t *testing.T) {
	ofStores, _ := goodTexts()
	for _, text := range ofStores {
		want, _ := stored(text)
		for i := range want {
			l, _ := rules.Stores(text)
			for k := range full(l[i].Rungs) {
				full(l[i].Rungs)[k] = api.Rung{Step: 7, Count: 7}
			}
			for other := range l {
				if other != i && !slices.Equal(l[other].Rungs, want[other].Rungs) {
					t.Errorf("%s: a change of store %d changes store %d: %s", brief(text), i, other, brief(l[other]))
				}
			}
		}
	}
}

// TestFoundStays: what was found is never changed by later calls.
func TestFoundStays(t *testing.T) {
	r := rand.New(rand.NewPCG(143, 144))
	for range 300 {
		l, path := someRules(r, 5), somePath(r)
		found, e := rules.Find(l, path)
		want, wanted := kept(l, path)
		for range 20 {
			keeps(t, l, somePath(r))
			keeps(t, someRules(r, 5), path)
		}
		if !same(found, want) || e != wanted {
			t.Fatalf("%s became %s", brief(want), brief(found))
		}
	}
}

// Nothing is kept from call to call: asked once more, in another order, and behind errors, all answer as before.
func TestAnswersHangOnArgumentsAlone(t *testing.T) {
	r := rand.New(rand.NewPCG(145, 146))
	var texts []string
	var list []api.Rules
	for range 100 {
		texts = append(texts, someText(r, false), someText(r, true))
		made := someRules(r, 4)
		list = append(list, made, spoiltRules(r, made))
	}
	texts = append(texts, "", "no", strings.Repeat("\n", 4097))
	for range 3 {
		slices.Reverse(texts)
		slices.Reverse(list)
		for _, text := range texts {
			reads(t, text)
		}
		for _, l := range list {
			for _, path := range []string{"", "a", "b", "abc", "a.b"} {
				keeps(t, l, path)
			}
		}
	}
}
