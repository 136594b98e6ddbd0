package config_test

import (
	"math/rand/v2"
	"slices"
	"strings"
	"testing"

	"isobar/api"
	"isobar/config"
)

// full are sections, and what stands in the spare room behind them.
func full(l []api.Section) []api.Section { return l[:cap(l)] }

// fullKeys are a section's keys, and what stands in the spare room behind them.
func fullKeys(s api.Section) []api.Pair { return s.Keys[:cap(s.Keys)] }

// roomy are sections with spare room behind them, and behind each one's keys.
func roomy(l []api.Section) []api.Section {
	l = slices.Concat(l, list(one("spare", "x", "1"), one("more")))[:len(l)]
	for i, s := range full(l) {
		full(l)[i].Keys = slices.Concat(s.Keys, []api.Pair{{Key: "spare", Value: "1"}, {Key: "x", Value: "2"}})[:len(s.Keys)]
	}
	return l
}

// copied are sections of memory of its own, with all that stands in spare room told too.
func copied(l []api.Section) []api.Section {
	list := slices.Clone(full(l))
	for i, s := range list {
		list[i].Keys = slices.Clone(fullKeys(s))
	}
	return list
}

// spoil changes all that stands in sections, their spare room and their keys' spare room too.
func spoil(l []api.Section) {
	for i, s := range full(l) {
		for k := range fullKeys(s) {
			fullKeys(s)[k] = api.Pair{Key: "spoilt", Value: "spoilt"}
		}
		full(l)[i] = one("spoilt", "spoilt", "")
	}
}

// TestHandedIn: no call changes sections, nor their keys, nor the spare room of either.
func TestHandedIn(t *testing.T) {
	r := rand.New(rand.NewPCG(129, 130))
	for range 3000 {
		made := someSections(r)
		if r.IntN(2) == 0 {
			made = spoiltSections(r, made)
		}
		l := roomy(made)
		before := copied(l)
		config.Right(l)
		config.Print(l)
		for _, s := range l {
			for _, p := range append(slices.Clone(s.Keys), api.Pair{}, api.Pair{Key: "none"}) {
				config.Get(s, p.Key)
			}
		}
		if !same(copied(l), before) {
			t.Fatalf("%s became %s", brief(before), brief(copied(l)))
		}
		lists(t, l)
	}
}

// texts are texts that are parsed, and not.
func texts() []string {
	return []string{"", "[a]", "[a]\nx = 1", "[a]\nx = 1\ny = 2\n[b]\nz =\n", "[a]\n[b]\n[c]\n[d]\n[e]", "[a]\nx=\n[b]\nx=\n[c]\nx=\ny=\nz=\n", "x = 1", "[a]\n[a]", "[a]\nx=\nx=", "[a", strings.Repeat("\n", 4097)}
}

// TestNewMemory: what is parsed, its spare room too, shares nothing with what was parsed ahead, or is later; so are lines.
func TestNewMemory(t *testing.T) {
	for _, s := range texts() {
		want, wanted := parsed(s)
		first, _ := config.Parse(s)
		second, _ := config.Parse(s)
		spoil(first)
		third, e := config.Parse(s)
		if e != wanted || !same(second, want) || !same(third, want) {
			t.Errorf("%s: a change of one answer changes another: %s, %s, want %s", brief(s), brief(second), brief(third), brief(want))
		}
		lines, others := config.Lines(s), config.Lines(s)
		for i := range lines[:cap(lines)] {
			lines[:cap(lines)][i] = "spoilt"
		}
		if !slices.Equal(others, lined(s)) || !slices.Equal(config.Lines(s), lined(s)) {
			t.Errorf("%s: a change of one answer changes another: %s, want %s", brief(s), brief(others), brief(lined(s)))
		}
	}
}

// TestKeysApart: of one answer no two sections' keys share memory, their spare room neither.
func TestKeysApart(t *testing.T) {
	for _, s := range texts() {
		want, _ := parsed(s)
		for i := range want {
			l, _ := config.Parse(s)
			for k := range fullKeys(l[i]) {
				fullKeys(l[i])[k] = api.Pair{Key: "spoilt"}
			}
			for other := range l {
				if other != i && !slices.Equal(l[other].Keys, want[other].Keys) {
					t.Errorf("%s: a change of section %d's keys changes those of %d: %s", brief(s), i, other, brief(l[other]))
				}
			}
		}
	}
}

// Nothing is kept from call to call: asked once more, in another order, and behind errors, all answer as before.
func TestAnswersHangOnArgumentsAlone(t *testing.T) {
	all := append(texts(), wrongLines()...)
	rows := [][]api.Section{nil, list(one("a", "x", "1")), list(one("a"), one("b", "x", "", "y", "2")), list(one("a"), one("a")), sections(17, 1), {{}}}
	for range 3 {
		slices.Reverse(all)
		slices.Reverse(rows)
		for _, s := range all {
			reads(t, s)
		}
		for _, l := range rows {
			lists(t, l)
		}
	}
}
