package rules_test

import (
	"math"
	"strconv"
	"strings"
	"testing"

	"isobar/api"
	"isobar/rules"
)

// section is a section's text: a line with its name, and some lines more.
func section(name string, lines ...string) string {
	return "[" + name + "]\n" + strings.Join(append(lines, ""), "\n")
}

// ten are the archives of 60:10.
func ten() []api.Rung { return []api.Rung{{Step: 60, Count: 10}} }

// stores is a list of stores.
func stores(l ...api.Store) []api.Store { return l }

// folds is a list of folds.
func folds(l ...api.Fold) []api.Fold { return l }

func TestExamples(t *testing.T) {
	l, e := rules.Stores("[all]\npattern = .*\nretentions = 60s:1h")
	hour := []api.Rung{{Step: 60, Count: 60}}
	storesAre(t, "[all]\npattern = .*\nretentions = 60s:1h", stores(api.Store{Name: "all", Pattern: ".*", Rungs: hour}), api.OK)
	for _, path := range []string{"", "a", "a.b", "servers.a.load", "\xff\n", strings.Repeat("a.", 5000)} {
		finds(t, api.Rules{Stores: l}, path, api.Schema{Rungs: hour, Method: api.Average, Factor: 500000}, e)
	}
	noStores(t, "[x]\npattern = a", api.ErrForm)
}

// TestWithoutSections: a text without a section has no rules.
func TestWithoutSections(t *testing.T) {
	for _, text := range []string{"", "\n", "\r\n\r\n", " \t ", "#", "; x\n", "# [a]\n#pattern = a\n\n", strings.Repeat("\n", 4096)} {
		storesAre(t, text, nil, api.OK)
		foldsAre(t, text, nil, api.OK)
	}
}

// TestStoreKeys: just both keys, in either order.
func TestStoreKeys(t *testing.T) {
	pattern, kept := "pattern = ^a", "retentions = 60:10"
	want := stores(api.Store{Name: "s", Pattern: "^a", Rungs: ten()})
	storesAre(t, section("s", pattern, kept), want, api.OK)
	storesAre(t, section("s", kept, pattern), want, api.OK)
	storesAre(t, "\n#\n [s]\r\n\tretentions=60:10\r\n;\n  pattern\t=\t^a \r\n#x = 1", want, api.OK)
	noStores(t, section("s"), api.ErrForm)
	noStores(t, section("s", pattern), api.ErrForm)
	noStores(t, section("s", kept), api.ErrForm)
	for _, third := range []string{"x = 1", "x =", "xFilesFactor = 0.5", "aggregationMethod = sum", "Pattern = ^a", "PATTERN = ^a", "patterN = ^a", "Retentions = 60:10", "retentionS = 60:10", "patterns = ^a", "retention = 60:10", "name = s", "priority = 1"} {
		noStores(t, section("s", pattern, kept, third), api.ErrForm)
		noStores(t, section("s", third, kept, pattern), api.ErrForm)
		noStores(t, section("s", kept, third, pattern), api.ErrForm)
		noStores(t, section("s", pattern, third), api.ErrForm)
		noStores(t, section("s", third, kept), api.ErrForm)
		noStores(t, section("s", third), api.ErrForm)
		noStores(t, section("r", pattern, kept)+section("s", pattern, kept, third), api.ErrForm)
		noStores(t, section("s", pattern, kept, third)+section("r", pattern, kept), api.ErrForm)
	}
	many := []string{pattern, kept}
	for _, c := range "abcdefghijklmn" {
		many = append(many, string(c)+" = 1")
		noStores(t, section("s", many...), api.ErrForm)
	}
	noStores(t, section("s", append(many, "z = 1")...), api.ErrMany)
	noStores(t, section("s", pattern, kept, pattern), api.ErrExist)
	noStores(t, section("s", pattern, pattern), api.ErrExist)
	// The two keys of one section aren't another one's.
	noStores(t, section("r", pattern)+section("s", kept), api.ErrForm)
	noStores(t, section("r", pattern, kept)+section("s", kept), api.ErrForm)
	noStores(t, section("r", pattern, kept)+section("s", pattern), api.ErrForm)
	noStores(t, section("r", pattern, kept)+section("s"), api.ErrForm)
}

// TestFoldKeys: pattern alone, with each of the other two, with both, in all orders.
func TestFoldKeys(t *testing.T) {
	pattern, factor, method := "pattern = ^a", "xFilesFactor = 0.25", "aggregationMethod = max"
	usual := api.Fold{Name: "f", Pattern: "^a", Factor: 500000, Method: api.Average}
	foldsAre(t, section("f", pattern), folds(usual), api.OK)
	loose := usual
	loose.Factor = 250000
	foldsAre(t, section("f", pattern, factor), folds(loose), api.OK)
	foldsAre(t, section("f", factor, pattern), folds(loose), api.OK)
	most := usual
	most.Method = api.Most
	foldsAre(t, section("f", pattern, method), folds(most), api.OK)
	foldsAre(t, section("f", method, pattern), folds(most), api.OK)
	both := loose
	both.Method = api.Most
	for _, l := range [][]string{{pattern, factor, method}, {pattern, method, factor}, {factor, pattern, method}, {factor, method, pattern}, {method, pattern, factor}, {method, factor, pattern}} {
		foldsAre(t, section("f", l...), folds(both), api.OK)
	}
	noFolds(t, section("f"), api.ErrForm)
	noFolds(t, section("f", factor), api.ErrForm)
	noFolds(t, section("f", method), api.ErrForm)
	noFolds(t, section("f", factor, method), api.ErrForm)
	for _, more := range []string{"retentions = 60:10", "retentions =", "x = 1", "x =", "Pattern = ^a", "PATTERN = ^a", "xfilesfactor = 0.25", "XFilesFactor = 0.25", "xFilesfactor = 0.25", "xFilesFactoR = 0.25", "AggregationMethod = max", "aggregationmethod = max", "aggregationMethods = max", "method = max", "factor = 0.25"} {
		noFolds(t, section("f", more), api.ErrForm)
		noFolds(t, section("f", pattern, more), api.ErrForm)
		noFolds(t, section("f", more, pattern), api.ErrForm)
		noFolds(t, section("f", pattern, factor, more), api.ErrForm)
		noFolds(t, section("f", more, pattern, method), api.ErrForm)
		noFolds(t, section("f", pattern, factor, method, more), api.ErrForm)
		noFolds(t, section("f", factor, method, more), api.ErrForm)
		noFolds(t, section("e", pattern)+section("f", pattern, factor, more, method), api.ErrForm)
		noFolds(t, section("f", pattern, factor, more, method)+section("e", pattern), api.ErrForm)
	}
	noFolds(t, section("f", pattern, factor, factor), api.ErrExist)
	noFolds(t, section("f", method, method), api.ErrExist)
	// What one section says, or leaves, holds of that one alone.
	foldsAre(t, section("f", pattern, factor, method)+section("e", "pattern ="), folds(both, api.Fold{Name: "e", Factor: 500000, Method: api.Average}), api.OK)
	foldsAre(t, section("f", pattern, factor)+section("e", "pattern = b", method), folds(loose, api.Fold{Name: "e", Pattern: "b", Factor: 500000, Method: api.Most}), api.OK)
	noFolds(t, section("f", pattern)+section("e", factor), api.ErrForm)
}

// TestFactors: from 0 to 1, as a number's text says it, rounded to millionths.
func TestFactors(t *testing.T) {
	for text, want := range map[string]int64{
		"0": 0, "1": 1000000, "0.000001": 1, "0.999999": 999999, "0.5": 500000, ".5": 500000, "1.": 1000000, "0.": 0, ".0": 0, "+1": 1000000, "+0": 0, "-0": 0, "-.0": 0, "-0.000000": 0,
		"00001.000": 1000000, "0.1": 100000, "0.3": 300000, "0.0000005": 1, "0.9999995": 1000000, "0.0000004": 0, "0.123456789": 123457, "-0.0000004": 0, "1.0000004": 1000000, strings.Repeat("0", 63) + "1": 1000000,
	} {
		foldsAre(t, section("f", "pattern = a", "xFilesFactor = "+text), folds(api.Fold{Name: "f", Pattern: "a", Factor: want, Method: api.Average}), api.OK)
		foldsAre(t, section("f", "xFilesFactor\t=\t"+text+" ", "aggregationMethod = sum", "pattern = a"), folds(api.Fold{Name: "f", Pattern: "a", Factor: want, Method: api.Sum}), api.OK)
	}
	for text, want := range map[string]api.Errno{
		"-0.000001": api.ErrRange, "1.000001": api.ErrRange, "-1": api.ErrRange, "2": api.ErrRange, "-0.5": api.ErrRange, "1.5": api.ErrRange, "1.0000005": api.ErrRange, "-0.0000005": api.ErrRange, "1000000": api.ErrRange, "500000": api.ErrRange, "9223372036854.775807": api.ErrRange, "-9223372036854.775807": api.ErrRange,
		"9223372036854.775808": api.ErrRange, "-9223372036854.775808": api.ErrRange, "99999999999999999999": api.ErrRange, "-99999999999999999999": api.ErrRange, "18446744073710": api.ErrRange,
		"": api.ErrNumber, ".": api.ErrNumber, "-": api.ErrNumber, "+": api.ErrNumber, "x": api.ErrNumber, "0,5": api.ErrNumber, "50%": api.ErrNumber, "1e0": api.ErrNumber, "5e-1": api.ErrNumber, "0x0": api.ErrNumber, "0 5": api.ErrNumber, "None": api.ErrNumber, "--0": api.ErrNumber, "0.0.0": api.ErrNumber, "half": api.ErrNumber, "= 0": api.ErrNumber, "0 # x": api.ErrNumber, "\"0\"": api.ErrNumber, "NaN": api.ErrNumber, "\xff": api.ErrNumber,
		strings.Repeat("0", 65): api.ErrLong, "0." + strings.Repeat("5", 63): api.ErrLong, strings.Repeat("x", 65): api.ErrLong, strings.Repeat("9", 1000): api.ErrLong,
	} {
		noFolds(t, section("f", "pattern = a", "xFilesFactor = "+text), want)
		noFolds(t, section("f", "aggregationMethod = sum", "xFilesFactor ="+text, "pattern = a"), want)
		noFolds(t, section("e", "pattern = a")+section("f", "pattern = a", "xFilesFactor = "+text), want)
	}
}

// TestFoldMethods: each of the five names; none other.
func TestFoldMethods(t *testing.T) {
	for name, want := range map[string]int{"average": 1, "sum": 2, "min": 3, "max": 4, "last": 5} {
		foldsAre(t, section("f", "pattern = a", "aggregationMethod = "+name), folds(api.Fold{Name: "f", Pattern: "a", Factor: 500000, Method: want}), api.OK)
		foldsAre(t, section("f", "aggregationMethod="+name+"\t", "xFilesFactor = 0", "pattern = a"), folds(api.Fold{Name: "f", Pattern: "a", Method: want}), api.OK)
	}
	for _, name := range noMethods() {
		noFolds(t, section("f", "pattern = a", "aggregationMethod = "+name), api.ErrForm)
		noFolds(t, section("f", "aggregationMethod ="+name, "pattern = a", "xFilesFactor = 0"), api.ErrForm)
		noFolds(t, section("e", "pattern = a", "aggregationMethod = sum")+section("f", "pattern = a", "aggregationMethod = "+name), api.ErrForm)
	}
}

// noMethods are texts that are no method's name, as a value of a line may have them.
func noMethods() []string {
	return []string{
		"", "Average", "AVERAGE", "averagE", "Sum", "SUM", "Min", "Max", "Last", "lasT",
		"avg", "mean", "total", "least", "most", "minimum", "maximum", "first", "median", "count", "none", "None", "avg_zero",
		"averag", "average.", "averages", "su", "sums", "mi", "mins", "ma", "maxs", "las", "lasts", "s", "m", "a", "l",
		"0", "1", "2", "3", "4", "5", "6", "-1", "+1", "01",
		"sum sum", "sum,max", "min max", "average sum", "summin", "= sum", "sum # x", "\"sum\"", "'sum'", "(sum)", "sum\x00", "\x00", "\x00sum", "su\rm", "\xff", "ſum", "ｓｕｍ", strings.Repeat("sum", 500),
	}
}

// TestPatterns: those that layer 9 compiles, the empty one too, stand in the answer as they are; others are refused with its errors.
func TestPatterns(t *testing.T) {
	for _, p := range []string{"", "a", ".*", "^", "$", "^$", "^a.*b$", "[a-c]*", "[-a]", `\.count$`, `\\`, `\*`, "a b", "a = b", "= a", "#", "; a", "a#b", "[#]", "é", "\xff", "\x00", strings.Repeat("a", 64), strings.Repeat(`\.`, 32), "^" + strings.Repeat(".", 62) + "$"} {
		storesAre(t, section("s", "pattern = "+p, "retentions = 60:10"), stores(api.Store{Name: "s", Pattern: p, Rungs: ten()}), api.OK)
		foldsAre(t, section("f", "pattern ="+p+" \t"), folds(api.Fold{Name: "f", Pattern: p, Factor: 500000, Method: api.Average}), api.OK)
	}
	for p, want := range wrongPatterns() {
		noStores(t, section("s", "pattern = "+p, "retentions = 60:10"), want)
		noStores(t, section("s", "retentions = 60:10", "pattern ="+p), want)
		noStores(t, section("r", "pattern = a", "retentions = 60:10")+section("s", "pattern = "+p, "retentions = 60:10"), want)
		noFolds(t, section("f", "pattern = "+p), want)
		noFolds(t, section("f", "xFilesFactor = 0", "pattern = "+p, "aggregationMethod = sum"), want)
		noFolds(t, section("e", "pattern = a")+section("f", "pattern = "+p), want)
	}
	// A blank at a value's end is let go, so nothing stands behind the \ any more.
	noStores(t, section("s", `pattern = a\ `, "retentions = 60:10"), api.ErrPattern)
	noFolds(t, section("f", `pattern = a\ `), api.ErrPattern)
}

// wrongPatterns are texts that layer 9 refuses, as a value of a line may have them.
func wrongPatterns() map[string]api.Errno {
	return map[string]api.Errno{
		"*": api.ErrPattern, "a**": api.ErrPattern, "^*": api.ErrPattern, "[": api.ErrPattern, "]": api.ErrPattern, "[]": api.ErrPattern, "[^]": api.ErrPattern, "[a": api.ErrPattern, "[c-a]": api.ErrPattern, "a^": api.ErrPattern, "$a": api.ErrPattern, "$$": api.ErrPattern, `\`: api.ErrPattern, `a\`: api.ErrPattern, "a]": api.ErrPattern, strings.Repeat("*", 64): api.ErrPattern,
		strings.Repeat("a", 65): api.ErrLong, strings.Repeat("*", 65): api.ErrLong, strings.Repeat("a", 2000): api.ErrLong,
	}
}

// TestRetentions: those that layer 10 parses; others are refused with its errors.
func TestRetentions(t *testing.T) {
	for text, want := range map[string][]api.Rung{
		"60:10":                       ten(),
		"60s:10m":                     ten(),
		"1m:10":                       ten(),
		"60s:5m, 5m:30m":              {{Step: 60, Count: 5}, {Step: 300, Count: 6}},
		"1:60,60:60,3600:24,86400:30": {{Step: 1, Count: 60}, {Step: 60, Count: 60}, {Step: 3600, Count: 24}, {Step: 86400, Count: 30}},
		"10s:1m , 1m:1h":              {{Step: 10, Count: 6}, {Step: 60, Count: 60}},
		"1:1":                         {{Step: 1, Count: 1}},
		"86400:400":                   {{Step: 86400, Count: 400}},
	} {
		storesAre(t, section("s", "pattern = a", "retentions = "+text), stores(api.Store{Name: "s", Pattern: "a", Rungs: want}), api.OK)
		storesAre(t, section("s", "retentions="+text+"\t", "pattern=a"), stores(api.Store{Name: "s", Pattern: "a", Rungs: want}), api.OK)
	}
	for text, want := range wrongRetentions() {
		noStores(t, section("s", "pattern = a", "retentions = "+text), want)
		noStores(t, section("s", "retentions ="+text, "pattern = a"), want)
		noStores(t, section("r", "pattern = a", "retentions = 60:10")+section("s", "pattern = a", "retentions = "+text), want)
	}
}

// wrongRetentions are texts that layer 10 refuses, as a value of a line may have them.
func wrongRetentions() map[string]api.Errno {
	return map[string]api.Errno{
		"": api.ErrForm, "60": api.ErrForm, "10s": api.ErrForm, "60:": api.ErrForm, ":10": api.ErrForm, "60:10,": api.ErrForm, ",60:10": api.ErrForm, "60 : 10": api.ErrForm, "60:10 300:10": api.ErrForm, "-60:10": api.ErrForm, "60:1x": api.ErrForm, "60:10 # x": api.ErrForm, "= 60:10": api.ErrForm, "x": api.ErrForm,
		"0:1": api.ErrRange, "0s:1m": api.ErrRange, "1099511627777:1": api.ErrRange, "60:1099511627777": api.ErrRange, "60:10,0:1": api.ErrRange, "60:99999999999999999999": api.ErrRange,
		"1:2,2:4,4:8,8:16,16:32": api.ErrMany, "1:1,1:1,1:1,1:1,1:1": api.ErrMany,
		"60:401": api.ErrArg, "60:0": api.ErrArg, "60:59s": api.ErrArg, "86401:1": api.ErrArg, "1m:1h,90s:1d": api.ErrArg, "60:10,60:20": api.ErrArg, "60:10,120:5": api.ErrArg, "60:1,120:20": api.ErrArg, "120:20,60:60": api.ErrArg, "1:1,1:1,1:1,1:1": api.ErrArg,
	}
}

// manyTexts are n sections' texts of names of their own, each with these lines.
func manyTexts(n int, lines ...string) string {
	text := ""
	for i := range n {
		text += section("n"+strconv.Itoa(i), lines...)
	}
	return text
}

// TestHowMany: 16 sections and 17.
func TestHowMany(t *testing.T) {
	for n := range 25 {
		var wantStores []api.Store
		var wantFolds []api.Fold
		for i := range n {
			wantStores = append(wantStores, api.Store{Name: "n" + strconv.Itoa(i), Pattern: "a", Rungs: ten()})
			wantFolds = append(wantFolds, api.Fold{Name: "n" + strconv.Itoa(i), Pattern: "a", Factor: 500000, Method: api.Average})
		}
		oneStore, oneFold := manyTexts(n, "pattern = a", "retentions = 60:10"), manyTexts(n, "pattern = a")
		if n <= 16 {
			storesAre(t, oneStore, wantStores, api.OK)
			foldsAre(t, oneFold, wantFolds, api.OK)
		} else {
			noStores(t, oneStore, api.ErrMany)
			noFolds(t, oneFold, api.ErrMany)
		}
	}
}

// TestNames: the rules stand in the sections' order, with the sections' names as they are.
func TestNames(t *testing.T) {
	names := []string{"z", "a", "A", " a ", "x = 1", "[", "#", "é", "\xff", "\x00", "a\rb", strings.Repeat("n", 32), "pattern", "1"}
	storeText, foldText := "", ""
	var wantStores []api.Store
	var wantFolds []api.Fold
	for i, name := range names {
		p := "p" + strconv.Itoa(i)
		storeText += section(name, "pattern = "+p, "retentions = 60:"+strconv.Itoa(i+1))
		wantStores = append(wantStores, api.Store{Name: name, Pattern: p, Rungs: []api.Rung{{Step: 60, Count: i + 1}}})
		foldText += section(name, "pattern = "+p, "xFilesFactor = 0."+strconv.Itoa(i+10), "aggregationMethod = "+[]string{"average", "sum", "min", "max", "last"}[i%5])
		wantFolds = append(wantFolds, api.Fold{Name: name, Pattern: p, Factor: int64(i+10) * 10000, Method: i%5 + 1})
	}
	storesAre(t, storeText, wantStores, api.OK)
	foldsAre(t, foldText, wantFolds, api.OK)
	// Two rules may say the same; what they are called is no part of it.
	storesAre(t, section("b", "pattern = a", "retentions = 60:10")+section("a", "pattern = a", "retentions = 60:10"), stores(api.Store{Name: "b", Pattern: "a", Rungs: ten()}, api.Store{Name: "a", Pattern: "a", Rungs: ten()}), api.OK)
}

// TestMethod: all five names; false beside 0 of any other text.
func TestMethod(t *testing.T) {
	for name, want := range map[string]int{"average": 1, "sum": 2, "min": 3, "max": 4, "last": 5} {
		if n, ok := rules.Method(name); n != want || !ok {
			t.Errorf("Method(%q) = %d, %t, want %d", name, n, ok, want)
		}
		for _, s := range []string{" " + name, name + " ", name + "\n", name + "\x00", "\t" + name, strings.ToUpper(name), strings.ToUpper(name[:1]) + name[1:], name[1:], name[:len(name)-1], name + name} {
			if n, ok := rules.Method(s); n != 0 || ok {
				t.Errorf("Method(%q) = %d, %t", s, n, ok)
			}
		}
	}
	for _, s := range append(noMethods(), " ", "\n", "sum\n", "sum\r", strings.Repeat("last", 100000)) {
		if n, ok := rules.Method(s); n != 0 || ok {
			t.Errorf("Method(%s) = %d, %t", brief(s), n, ok)
		}
	}
}

// TestName: of all five numbers, and of others, near and far off; there and back.
func TestName(t *testing.T) {
	for n, want := range []string{"", "average", "sum", "min", "max", "last", "", "", ""} {
		if s := rules.Name(n); s != want {
			t.Errorf("Name(%d) = %q, want %q", n, s, want)
		}
		if m, ok := rules.Method(want); ok != (want != "") || ok && m != n {
			t.Errorf("Method(%q) = %d, %t", want, m, ok)
		}
	}
	for _, n := range []int{-1, -2, -5, -6, 10, 100, 255, 256, 257, 1 << 16, 1<<16 + 1, 1 << 32, 1<<32 + 1, -1 << 32, math.MaxInt, math.MinInt, math.MinInt + 1, math.MinInt + 5, math.MaxInt - 1} {
		if s := rules.Name(n); s != "" {
			t.Errorf("Name(%d) = %q", n, s)
		}
	}
}
