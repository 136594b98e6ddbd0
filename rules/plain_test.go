package rules_test

import (
	"cmp"
	"fmt"
	"slices"
	"strings"
	"testing"

	"isobar/api"
	"isobar/config"
	"isobar/decimal"
	"isobar/needle"
	"isobar/retention"
	"isobar/rules"
)

// numbers are the methods' names with their numbers.
var numbers = map[string]int{"average": 1, "sum": 2, "min": 3, "max": 4, "last": 5}

// said is what a section's keys say, and these keys, rising, with a blank behind each.
func said(s api.Section) (keys string, values map[string]string) {
	values = map[string]string{}
	var l []string
	for _, p := range s.Keys {
		values[p.Key] = p.Value
		l = append(l, p.Key+" ")
	}
	slices.Sort(l)
	return strings.Join(l, ""), values
}

// unless is an error, unless something is so.
func unless(is bool, e api.Errno) api.Errno {
	if is {
		return api.OK
	}
	return e
}

// stored is what Stores says, as the chapter's words have it.
func stored(text string) ([]api.Store, api.Errno) {
	sections, e := config.Parse(text)
	if e != api.OK {
		return nil, e
	}
	var l []api.Store
	for _, s := range sections {
		keys, values := said(s)
		form := unless(keys == "pattern retentions ", api.ErrForm)
		_, pattern := needle.Compile(values["pattern"])
		rungs, kept := retention.Parse(values["retentions"])
		if e := cmp.Or(form, pattern, kept); e != api.OK {
			return nil, e
		}
		l = append(l, api.Store{Name: s.Name, Pattern: values["pattern"], Rungs: rungs})
	}
	return l, api.OK
}

// folded is what Folds says, as the chapter's words have it.
func folded(text string) ([]api.Fold, api.Errno) {
	sections, e := config.Parse(text)
	if e != api.OK {
		return nil, e
	}
	var l []api.Fold
	for _, s := range sections {
		keys, values := said(s)
		for key, usual := range map[string]string{"xFilesFactor": "0.5", "aggregationMethod": "average"} {
			if _, ok := values[key]; !ok {
				values[key] = usual
			}
		}
		form := unless(slices.Contains([]string{"pattern ", "pattern xFilesFactor ", "aggregationMethod pattern ", "aggregationMethod pattern xFilesFactor "}, keys), api.ErrForm)
		_, pattern := needle.Compile(values["pattern"])
		factor, number := decimal.Parse(values["xFilesFactor"])
		ranged := unless(factor.V >= 0 && factor.V <= 1000000, api.ErrRange)
		method := unless(numbers[values["aggregationMethod"]] > 0, api.ErrForm)
		if e := cmp.Or(form, pattern, number, ranged, method); e != api.OK {
			return nil, e
		}
		l = append(l, api.Fold{Name: s.Name, Pattern: values["pattern"], Factor: factor.V, Method: numbers[values["aggregationMethod"]]})
	}
	return l, api.OK
}

// compiles is whether a text is a small pattern.
func compiles(pattern string) bool {
	_, e := needle.Compile(pattern)
	return e == api.OK
}

// may is what Right says, as the chapter's words have it.
func may(r api.Rules) bool {
	wrong := max(0, len(r.Stores)-16) + max(0, len(r.Folds)-16)
	for _, s := range r.Stores {
		if !compiles(s.Pattern) || !retention.Together(s.Rungs) {
			wrong++
		}
	}
	for _, f := range r.Folds {
		if !compiles(f.Pattern) || f.Factor < 0 || f.Factor > 1000000 || f.Method < 1 || f.Method > 5 {
			wrong++
		}
	}
	return wrong == 0
}

// kept is what Find says, as the chapter's words have it: gone through from the last rule on, the first one that is found has the last word.
func kept(r api.Rules, path string) (api.Schema, api.Errno) {
	if !may(r) {
		return api.Schema{}, api.ErrArg
	}
	how, is := api.Schema{Method: 1, Factor: 500000}, false
	for _, s := range slices.Backward(r.Stores) {
		if found, _ := needle.Match(s.Pattern, path); found {
			how.Rungs, is = s.Rungs, true
		}
	}
	for _, f := range slices.Backward(r.Folds) {
		if found, _ := needle.Match(f.Pattern, path); found {
			how.Method, how.Factor = f.Method, f.Factor
		}
	}
	if !is {
		return api.Schema{}, api.ErrNone
	}
	return how, api.OK
}

// sameStores is whether two lists of stores hold the same.
func sameStores(a, b []api.Store) bool {
	return slices.EqualFunc(a, b, func(s, t api.Store) bool {
		return s.Name == t.Name && s.Pattern == t.Pattern && slices.Equal(s.Rungs, t.Rungs)
	})
}

// same is whether two schemas hold the same.
func same(a, b api.Schema) bool {
	return slices.Equal(a.Rungs, b.Rungs) && a.Method == b.Method && a.Factor == b.Factor
}

// brief is what a test tells of something: what is long would bury the rest.
func brief(v any) string {
	s := fmt.Sprintf("%#v", v)
	if len(s) > 400 {
		return fmt.Sprintf("%s... (%d)", s[:400], len(s))
	}
	return s
}

// reads holds Stores and Folds of a text to the chapter's words, and answers their errors.
func reads(t *testing.T, text string) (ofStores, ofFolds api.Errno) {
	t.Helper()
	stores, ofStores := stored(text)
	if l, e := rules.Stores(text); !sameStores(l, stores) || e != ofStores {
		t.Fatalf("Stores(%s) = %s, %d, want %s, %d", brief(text), brief(l), e, brief(stores), ofStores)
	}
	folds, ofFolds := folded(text)
	if l, e := rules.Folds(text); !slices.Equal(l, folds) || e != ofFolds {
		t.Fatalf("Folds(%s) = %s, %d, want %s, %d", brief(text), brief(l), e, brief(folds), ofFolds)
	}
	return ofStores, ofFolds
}

// keeps holds Right of rules, and Find of them and a path, to the chapter's words, and answers the error.
func keeps(t *testing.T, r api.Rules, path string) api.Errno {
	t.Helper()
	if is := rules.Right(r); is != may(r) {
		t.Fatalf("Right(%s) = %t, want %t", brief(r), is, may(r))
	}
	want, wanted := kept(r, path)
	if how, e := rules.Find(r, path); !same(how, want) || e != wanted {
		t.Fatalf("Find(%s, %s) = %s, %d, want %s, %d", brief(r), brief(path), brief(how), e, brief(want), wanted)
	}
	return wanted
}

// storesAre holds Stores of a text to stores, or to an error, that are told by hand; the tests' own reading too.
func storesAre(t *testing.T, text string, want []api.Store, wanted api.Errno) {
	t.Helper()
	if l, e := rules.Stores(text); !sameStores(l, want) || e != wanted {
		t.Errorf("Stores(%s) = %s, %d, want %s, %d", brief(text), brief(l), e, brief(want), wanted)
	}
	if l, e := stored(text); !sameStores(l, want) || e != wanted {
		t.Errorf("the stores of %s are %s, %d by the tests' own reading, want %s, %d", brief(text), brief(l), e, brief(want), wanted)
	}
}

// foldsAre holds Folds of a text to folds, or to an error, that are told by hand; the tests' own reading too.
func foldsAre(t *testing.T, text string, want []api.Fold, wanted api.Errno) {
	t.Helper()
	if l, e := rules.Folds(text); !slices.Equal(l, want) || e != wanted {
		t.Errorf("Folds(%s) = %s, %d, want %s, %d", brief(text), brief(l), e, brief(want), wanted)
	}
	if l, e := folded(text); !slices.Equal(l, want) || e != wanted {
		t.Errorf("the folds of %s are %s, %d by the tests' own reading, want %s, %d", brief(text), brief(l), e, brief(want), wanted)
	}
}

// noStores holds Stores of a text to an error that is told by hand.
func noStores(t *testing.T, text string, want api.Errno) {
	t.Helper()
	storesAre(t, text, nil, want)
}

// noFolds holds Folds of a text to an error that is told by hand.
func noFolds(t *testing.T, text string, want api.Errno) {
	t.Helper()
	foldsAre(t, text, nil, want)
}

// finds holds Find to a schema, or to an error, that is told by hand; the tests' own reading too.
func finds(t *testing.T, r api.Rules, path string, want api.Schema, wanted api.Errno) {
	t.Helper()
	if how, e := rules.Find(r, path); !same(how, want) || e != wanted {
		t.Errorf("Find(%s, %s) = %s, %d, want %s, %d", brief(r), brief(path), brief(how), e, brief(want), wanted)
	}
	if how, e := kept(r, path); !same(how, want) || e != wanted {
		t.Errorf("of %s %s is kept as %s, %d by the tests' own reading, want %s, %d", brief(r), brief(path), brief(how), e, brief(want), wanted)
	}
}

// right holds rules to whether they may be, told by hand; those that may not are refused whatever the path.
func right(t *testing.T, r api.Rules, want bool) {
	t.Helper()
	if is := rules.Right(r); is != want {
		t.Errorf("Right(%s) = %t, want %t", brief(r), is, want)
	}
	if is := may(r); is != want {
		t.Errorf("Right of %s is %t by the tests' own reading, want %t", brief(r), is, want)
	}
	for _, path := range []string{"", "a", "b", "x.y", "\xff"} {
		if !want {
			finds(t, r, path, api.Schema{}, api.ErrArg)
		} else if _, e := rules.Find(r, path); e == api.ErrArg {
			t.Errorf("Find(%s, %q): %d", brief(r), path, e)
		}
	}
}
