package rules_test

import (
	"cmp"
	"slices"
	"strings"
	"testing"

	"isobar/api"
	"isobar/rules"
)

// A line of a section that is told by hand, and its error, if it is wrong.
type line struct {
	text string
	e    api.Errno
}

// The lines that sections are made of: right ones first.
func patternLines() []line {
	l := []line{{"pattern = .*", api.OK}, {"pattern =", api.OK}}
	return append(l, line{"pattern = [c-a]", api.ErrPattern}, line{"pattern = " + strings.Repeat("*", 65), api.ErrLong})
}

func rungLines() []line {
	return []line{{"retentions = 60:10", api.OK}, {"retentions = 60", api.ErrForm}, {"retentions = 0:1", api.ErrRange}, {"retentions = 1:2,2:4,4:8,8:16,16:32", api.ErrMany}, {"retentions = 60:401", api.ErrArg}}
}

func factorLines() []line {
	return []line{{"xFilesFactor = 1", api.OK}, {"#", api.OK}, {"xFilesFactor =", api.ErrNumber}, {"xFilesFactor = " + strings.Repeat("0", 65), api.ErrLong}, {"xFilesFactor = 1.000001", api.ErrRange}, {"xFilesFactor = -0.000001", api.ErrRange}, {"xFilesFactor = 99999999999999999999", api.ErrRange}}
}

func methodLines() []line {
	return []line{{"aggregationMethod = last", api.OK}, {"#", api.OK}, {"aggregationMethod = avg", api.ErrForm}, {"aggregationMethod =", api.ErrForm}}
}

// moreLines are lines that no section may have, and one that says nothing.
func moreLines() []line { return []line{{"#", api.OK}, {"Pattern = a", api.ErrForm}} }

// orders are all orders of some lines' texts.
func orders(l ...string) [][]string {
	if len(l) <= 1 {
		return [][]string{l}
	}
	var all [][]string
	for i := range l {
		for _, rest := range orders(slices.Delete(slices.Clone(l), i, i+1)...) {
			all = append(all, append([]string{l[i]}, rest...))
		}
	}
	return all
}

// TestWhichFirstOfAStore: in one section the error that the chapter names first, in whatever order the lines stand.
func TestWhichFirstOfAStore(t *testing.T) {
	for _, p := range patternLines() {
		for _, k := range rungLines() {
			for _, m := range moreLines() {
				want := cmp.Or(m.e, p.e, k.e)
				for _, l := range orders(p.text, k.text, m.text) {
					text := section("s", l...)
					if _, e := rules.Stores(text); e != want {
						t.Errorf("Stores(%q): %d, want %d", text, e, want)
					}
					reads(t, text)
				}
				// Lacking a key comes ahead of what is wrong with the other one.
				noStores(t, section("s", p.text, m.text), api.ErrForm)
				noStores(t, section("s", m.text, k.text), api.ErrForm)
			}
		}
	}
}

// TestWhichFirstOfAFold: so of a fold's section.
func TestWhichFirstOfAFold(t *testing.T) {
	for _, p := range patternLines() {
		for _, f := range factorLines() {
			for _, m := range methodLines() {
				for _, more := range append(moreLines(), line{"retentions = 60", api.ErrForm}) {
					want := cmp.Or(more.e, p.e, f.e, m.e)
					for _, l := range orders(p.text, f.text, m.text, more.text) {
						text := section("f", l...)
						if _, e := rules.Folds(text); e != want {
							t.Errorf("Folds(%q): %d, want %d", text, e, want)
						}
						reads(t, text)
					}
					noFolds(t, section("f", f.text, m.text, more.text), api.ErrForm)
				}
			}
		}
	}
}

// storeSections are stores' sections of a name, each with its error: a right one first, then those with keys too few or too many, and each line wrong alone; foldSections are such ones of folds.
func storeSections(name string) []line {
	l := []line{{section(name, "pattern = a", "retentions = 60:10"), api.OK}, {section(name, "pattern = a"), api.ErrForm}, {section(name), api.ErrForm}, {section(name, "pattern = a", "retentions = 60:10", "x ="), api.ErrForm}}
	for _, p := range patternLines()[2:] {
		l = append(l, line{section(name, p.text, "retentions = 60:10"), p.e})
	}
	for _, k := range rungLines()[1:] {
		l = append(l, line{section(name, k.text, "pattern = a"), k.e})
	}
	return l
}

func foldSections(name string) []line {
	l := []line{{section(name, "pattern = a"), api.OK}, {section(name, "xFilesFactor = 1"), api.ErrForm}, {section(name), api.ErrForm}, {section(name, "pattern = a", "retentions = 60:10"), api.ErrForm}}
	for _, p := range patternLines()[2:] {
		l = append(l, line{section(name, "xFilesFactor = 1", p.text), p.e})
	}
	for _, f := range factorLines()[2:] {
		l = append(l, line{section(name, "pattern = a", f.text), f.e})
	}
	for _, m := range methodLines()[2:] {
		l = append(l, line{section(name, "pattern = a", m.text), m.e})
	}
	return l
}

// TestWhichFirstOfTwo: of two sections the error of the first one, whatever the second one's is; behind right ones too.
func TestWhichFirstOfTwo(t *testing.T) {
	for _, c := range []struct {
		sections func(string) []line
		read     func(string) (int, api.Errno)
	}{
		{storeSections, func(text string) (int, api.Errno) { l, e := rules.Stores(text); return len(l), e }},
		{foldSections, func(text string) (int, api.Errno) { l, e := rules.Folds(text); return len(l), e }},
	} {
		ahead, behind, right := c.sections("a"), c.sections("b"), c.sections("r")[0].text
		for _, a := range ahead {
			for _, b := range behind {
				for n, text := range map[int]string{2: a.text + b.text, 3: right + a.text + b.text} {
					want := cmp.Or(a.e, b.e)
					if want != api.OK {
						n = 0
					}
					if size, e := c.read(text); size != n || e != want {
						t.Errorf("%s: %d rules, %d, want %d, %d", brief(text), size, e, n, want)
					}
					reads(t, text)
				}
			}
		}
	}
}

// TestWhichFirstOfTheText: layer 11's errors come ahead of all others, wherever they stand.
func TestWhichFirstOfTheText(t *testing.T) {
	for _, sections := range [][]line{storeSections("a"), foldSections("a")} {
		for _, s := range sections {
			for text, want := range map[string]api.Errno{
				s.text + "no":                             api.ErrForm,
				s.text + "[b\n":                           api.ErrForm,
				s.text + "= 1":                            api.ErrForm,
				"x = 1\n" + s.text:                        api.ErrForm,
				"no\n" + s.text:                           api.ErrForm,
				s.text + s.text:                           api.ErrExist,
				s.text + "[b]\nx=\nx=":                    api.ErrExist,
				s.text + "[b]\n[b]":                       api.ErrExist,
				"[b]\n" + s.text + "[b]":                  api.ErrExist,
				s.text + manyTexts(16):                    api.ErrMany,
				manyTexts(16) + s.text:                    api.ErrMany,
				s.text + strings.Repeat("\n", 4096):       api.ErrLong,
				strings.Repeat("#", 4096) + s.text:        api.ErrLong,
				s.text + "no" + strings.Repeat(" ", 4096): api.ErrLong,
			} {
				noStores(t, text, want)
				noFolds(t, text, want)
			}
		}
	}
	// As long as a text may be, and a byte longer.
	text := section("s", "pattern = a", "retentions = 60:10")
	text += strings.Repeat("\n", 4096-len(text))
	storesAre(t, text, stores(api.Store{Name: "s", Pattern: "a", Rungs: ten()}), api.OK)
	noStores(t, text+"\n", api.ErrLong)
	text = section("f", "pattern = a")
	text += strings.Repeat("#", 4096-len(text))
	foldsAre(t, text, folds(api.Fold{Name: "f", Pattern: "a", Factor: 500000, Method: api.Average}), api.OK)
	noFolds(t, text+"#", api.ErrLong)
	// Sixteen right sections, and a wrong one as the last, or as the seventeenth.
	for _, s := range storeSections("w")[1:] {
		noStores(t, manyTexts(15, "pattern = a", "retentions = 60:10")+s.text, s.e)
		noStores(t, manyTexts(16, "pattern = a", "retentions = 60:10")+s.text, api.ErrMany)
	}
	for _, f := range foldSections("w")[1:] {
		noFolds(t, manyTexts(15, "pattern = a")+f.text, f.e)
		noFolds(t, manyTexts(16, "pattern = a")+f.text, api.ErrMany)
	}
}

// TestOthersText: a text of stores is none of folds, and the other way round, but where a section has what both may have.
func TestOthersText(t *testing.T) {
	noFolds(t, section("s", "pattern = a", "retentions = 60:10"), api.ErrForm)
	noStores(t, section("f", "pattern = a", "xFilesFactor = 0", "aggregationMethod = sum"), api.ErrForm)
	noStores(t, section("f", "pattern = a", "xFilesFactor = 0"), api.ErrForm)
	noStores(t, section("f", "pattern = a", "aggregationMethod = sum"), api.ErrForm)
	noStores(t, section("f", "pattern = a"), api.ErrForm)
}
