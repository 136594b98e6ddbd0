package line_test

import (
	"math"
	"math/rand/v2"
	"strings"
	"testing"

	"isobar/api"
)

// TestExamples: the chapter's.
func TestExamples(t *testing.T) {
	parses(t, "a.b 1.5 60", api.Sample{Path: "a.b", Value: 1500000, Time: 60})
	refuses(t, "a.b 1.5", api.ErrForm)
	refuses(t, "a..b 1 60", api.ErrPath)
	refuses(t, "a nan 60", api.ErrNumber)
}

// TestWords: words told by hand.
func TestWords(t *testing.T) {
	for s, want := range map[string][]string{
		"":              nil,
		" ":             nil,
		"\t":            nil,
		" \t\t  \t ":    nil,
		"a":             {"a"},
		"a b":           {"a", "b"},
		"a\tb":          {"a", "b"},
		"a b c d e":     {"a", "b", "c", "d", "e"},
		"ab cd":         {"ab", "cd"},
		" a":            {"a"},
		"a ":            {"a"},
		"\t a \t b\t ":  {"a", "b"},
		"a  b\t\tc \td": {"a", "b", "c", "d"},
		"a a a":         {"a", "a", "a"},
		"a.b 1.5 60":    {"a.b", "1.5", "60"},
		"a,b;c":         {"a,b;c"},
		"\"a b\"":       {"\"a", "b\""},
		"a\\ b":         {"a\\", "b"},
		"# a":           {"#", "a"},
		strings.Repeat("a ", 500) + strings.Repeat("b", 500): append(strings.Fields(strings.Repeat("a ", 500)), strings.Repeat("b", 500)),
	} {
		splits(t, s, want...)
		reads(t, s)
	}
}

// TestCarriageReturn: one is let go, at the very end alone, ahead of the blanks; all others are bytes like any.
func TestCarriageReturn(t *testing.T) {
	for s, want := range map[string][]string{
		"\r":           nil,
		"\r\r":         {"\r"},
		"\r\r\r":       {"\r\r"},
		" \r":          nil,
		"\t\r":         nil,
		" \r\r":        {"\r"},
		"\r ":          {"\r"},
		"\r\t":         {"\r"},
		"\r \r":        {"\r"},
		"a\r":          {"a"},
		"a \r":         {"a"},
		"a\t \r":       {"a"},
		"a\r ":         {"a\r"},
		"a\r\t\r":      {"a\r"},
		"\ra":          {"\ra"},
		"a\rb":         {"a\rb"},
		"a\rb\r":       {"a\rb"},
		"a \r b":       {"a", "\r", "b"},
		"a\r b\r":      {"a\r", "b"},
		"a b\r\r":      {"a", "b\r"},
		"a b\r\n":      {"a", "b\r\n"},
		"a b\n\r":      {"a", "b\n"},
		"a b \r c d\r": {"a", "b", "\r", "c", "d"},
	} {
		splits(t, s, want...)
		reads(t, s)
	}
	parses(t, "a 1 2\r", api.Sample{Path: "a", Value: 1000000, Time: 2})
	parses(t, "a 1 2 \t\r", api.Sample{Path: "a", Value: 1000000, Time: 2})
	parses(t, "a 1 -1\r", api.Sample{Path: "a", Value: 1000000, Time: -1})
	for s, want := range map[string]api.Errno{
		"a 1 2\r\r":   api.ErrNumber,
		"a 1 2\r ":    api.ErrNumber,
		"a 1 -1\r\r":  api.ErrNumber,
		"a 1 2 \r\r":  api.ErrForm,
		"a 1 2 \r ":   api.ErrForm,
		"a 1 2 \r \r": api.ErrForm,
		"a 1\r 2":     api.ErrNumber,
		"a\r 1 2":     api.ErrPath,
		"\ra 1 2":     api.ErrPath,
		"\r a 1 2":    api.ErrForm,
		"a 1 \r":      api.ErrForm,
		"a 1 \r\r":    api.ErrNumber,
		"a\r1\r2":     api.ErrForm,
		"\r":          api.ErrForm,
	} {
		refuses(t, s, want)
	}
}

// TestBlanksAreTwo: of all bytes, and of some runes that others hold for blanks, the blank and the tab alone part words.
func TestBlanksAreTwo(t *testing.T) {
	parted := 0
	for c := range 256 {
		b := string([]byte{byte(c)})
		for _, s := range []string{b, "a" + b, b + "a", "a" + b + "b", "a" + b + b + "b", "a 1" + b + "2", "a" + b + "1 2", "a 1 2" + b, b + "a 1 2", "a 1 2 " + b, "a " + b + " 1 2", b + "\r", "a\r" + b} {
			reads(t, s)
		}
		if len(pieces("a"+b+"b")) == 2 {
			parted++
			continue
		}
		splits(t, "a"+b+"b", "a"+b+"b")
	}
	if parted != 2 {
		t.Errorf("%d bytes part words", parted)
	}
	for _, b := range []string{"\n", "\v", "\f", "\x00", "\x1c", "\x1f", "\x85", "\xa0", "\u0085", "\u00a0", "\u1680", "\u2000", "\u2003", "\u2009", "\u2028", "\u2029", "\u202f", "\u205f", "\u3000", "\ufeff", "\u200b", "\r\n", "\xe2\x80"} {
		splits(t, "a"+b+"b", "a"+b+"b")
		splits(t, b, b)
		splits(t, b+" "+b, b, b)
		refuses(t, "a"+b+"1 2", api.ErrForm)
		refuses(t, "a 1 2"+b, api.ErrNumber)
		refuses(t, b+"a 1 2", api.ErrPath)
		refuses(t, "a 1"+b+" 2", api.ErrNumber)
	}
	// Bytes that are no text stay as they are, also where a blank cuts them off.
	splits(t, "\xff\xfe\x80 \xe2\x80\t\xc3 \xed\xa0\x80 \xf4\x90\x80\x80", "\xff\xfe\x80", "\xe2\x80", "\xc3", "\xed\xa0\x80", "\xf4\x90\x80\x80")
}

// TestParse: what lines say, told by hand.
func TestParse(t *testing.T) {
	for s, want := range map[string]api.Sample{
		"a 1 0":                            {Path: "a", Value: 1000000},
		"a 0 0":                            {Path: "a"},
		"a -0 0":                           {Path: "a"},
		"a\t1\t2":                          {Path: "a", Value: 1000000, Time: 2},
		" a\t-1  -1 ":                      {Path: "a", Value: -1000000, Time: -1},
		"a +5. 7":                          {Path: "a", Value: 5000000, Time: 7},
		"a .5 7":                           {Path: "a", Value: 500000, Time: 7},
		"a -.5 7":                          {Path: "a", Value: -500000, Time: 7},
		"a 0005.1234567 0060":              {Path: "a", Value: 5123457, Time: 60},
		"a .0000005 1":                     {Path: "a", Value: 1, Time: 1},
		"a -.0000005 1":                    {Path: "a", Value: -1, Time: 1},
		"a -.0000004 1":                    {Path: "a", Time: 1},
		"a 1 -1":                           {Path: "a", Value: 1000000, Time: -1},
		"a 1 1099511627776":                {Path: "a", Value: 1000000, Time: 1 << 40},
		"a 1 00001099511627776":            {Path: "a", Value: 1000000, Time: 1 << 40},
		"a 9223372036854.775807 1":         {Path: "a", Value: math.MaxInt64, Time: 1},
		"a -9223372036854.775807 1":        {Path: "a", Value: -math.MaxInt64, Time: 1},
		"a 9223372036854.7758074999 1":     {Path: "a", Value: math.MaxInt64, Time: 1},
		"1 2 3":                            {Path: "1", Value: 2000000, Time: 3},
		"-1 -1 -1":                         {Path: "-1", Value: -1000000, Time: -1},
		"1.5 1.5 15":                       {Path: "1.5", Value: 1500000, Time: 15},
		"+ 1 1":                            {Path: "+", Value: 1000000, Time: 1},
		"#a 1 1":                           {Path: "#a", Value: 1000000, Time: 1},
		"_-:%#@+= 1 1":                     {Path: "_-:%#@+=", Value: 1000000, Time: 1},
		"a.b.c.d.e.f.g.h 1 1":              {Path: "a.b.c.d.e.f.g.h", Value: 1000000, Time: 1},
		"Servers.web-01.Load 12.25 123456": {Path: "Servers.web-01.Load", Value: 12250000, Time: 123456},
		"a " + strings.Repeat("0", 64) + " " + strings.Repeat("0", 64):        {Path: "a"},
		"a " + strings.Repeat("0", 63) + "7 " + strings.Repeat("0", 63) + "8": {Path: "a", Value: 7000000, Time: 8},
		strings.Repeat("x", 32) + " 1 1":                                      {Path: strings.Repeat("x", 32), Value: 1000000, Time: 1},
		longPath(196) + " 1 1":                                                {Path: longPath(196), Value: 1000000, Time: 1},
	} {
		parses(t, s, want)
		reads(t, s)
	}
}

// TestPrint: samples as lines, told by hand.
func TestPrint(t *testing.T) {
	for want, x := range map[string]api.Sample{
		"a 0 0":                       {Path: "a"},
		"a.b 1.5 60":                  {Path: "a.b", Value: 1500000, Time: 60},
		"a.b -0.5 -1":                 {Path: "a.b", Value: -500000, Time: -1},
		"a 0.000001 1":                {Path: "a", Value: 1, Time: 1},
		"a -0.000001 1":               {Path: "a", Value: -1, Time: 1},
		"a 1 -1":                      {Path: "a", Value: 1000000, Time: -1},
		"a -1.2 100":                  {Path: "a", Value: -1200000, Time: 100},
		"a 1 1099511627776":           {Path: "a", Value: 1000000, Time: 1 << 40},
		"a 1 1099511627775":           {Path: "a", Value: 1000000, Time: 1<<40 - 1},
		"a 9223372036854.775807 1":    {Path: "a", Value: math.MaxInt64, Time: 1},
		"a -9223372036854.775807 -1":  {Path: "a", Value: -math.MaxInt64, Time: -1},
		"-1 -1 -1":                    {Path: "-1", Value: -1000000, Time: -1},
		"1.5 1.5 15":                  {Path: "1.5", Value: 1500000, Time: 15},
		"a.b.c.d.e.f.g.h 1000000 400": {Path: "a.b.c.d.e.f.g.h", Value: 1000000000000, Time: 400},
		alike(strings.Repeat("x", 32), 8) + " -9223372036854.775807 1099511627776": {Path: alike(strings.Repeat("x", 32), 8), Value: -math.MaxInt64, Time: 1 << 40},
	} {
		prints(t, x, want)
		tells(t, x)
	}
}

// TestStamp: a time that is None, and no other one, becomes now, whatever that and the rest are.
func TestStamp(t *testing.T) {
	paths := []string{"a", "a.b", "", "a..b", "\xff", strings.Repeat("x", 1000)}
	values := []int64{0, 1, -1, 1500000, math.MaxInt64, math.MinInt64}
	for _, x := range samples(paths, values, append(goodTimes(), badTimes()...)) {
		stamps(t, x)
	}
	stamps(t, api.Sample{})
}

// TestSamples holds Print to the chapter's words, of all kinds of paths, values and times, right and wrong.
func TestSamples(t *testing.T) {
	paths := append(goodPaths(), badPaths()...)
	values := append(goodValues(), math.MinInt64)
	times := append(goodTimes(), badTimes()...)
	may := 0
	list := samples(paths, values, times)
	for _, x := range list {
		if tells(t, x) {
			may++
		}
	}
	if want := len(goodPaths()) * len(goodValues()) * len(goodTimes()); may != want || may == len(list) {
		t.Errorf("%d of %d samples may be, want %d", may, len(list), want)
	}
}

// TestShort holds all short texts, and all short rows of words and of what is between, to the chapter's words.
func TestShort(t *testing.T) {
	said := 0
	for _, list := range [][]string{
		texts("a \t\r", 7), texts("a1 -", 6), texts("1. \r", 6), texts("a0 -.\t\r", 5),
		rows([]string{"a", "1", "-1", " ", "\t", "\r"}, 6),
		rows([]string{"a.b", ".5 ", "60 ", " ", "nan ", "\r", "..", "-2"}, 5),
	} {
		for _, s := range list {
			if reads(t, s) {
				said++
			}
		}
	}
	if said < 500 {
		t.Errorf("%d of the texts say a sample", said)
	}
}

// TestSome holds lines by a fixed seed, and what becomes of them when they are spoilt, to the chapter's words.
func TestSome(t *testing.T) {
	r := rand.New(rand.NewPCG(201, 202))
	good, bad := 0, 0
	for range 30000 {
		s := someLine(r)
		for range 3 {
			if reads(t, s) {
				good++
			} else {
				bad++
			}
			s = spoilt(r, s)
		}
	}
	if min(good, bad) < 20000 {
		t.Errorf("%d say a sample, %d don't", good, bad)
	}
}

// TestSomeSamples holds samples by a fixed seed to the chapter's words.
func TestSomeSamples(t *testing.T) {
	r := rand.New(rand.NewPCG(203, 204))
	may, mayNot := 0, 0
	for range 10000 {
		x := api.Sample{Path: somePath(r), Value: int64(r.Uint64()) >> r.IntN(64), Time: oneOf(r, -1, r.IntN(100), r.IntN(1<<40+1), r.IntN(1<<41), int(r.Uint64())>>r.IntN(64))}
		if r.IntN(8) == 0 {
			x.Path = spoilt(r, x.Path)
		}
		if tells(t, x) {
			may++
		} else {
			mayNot++
		}
	}
	if may < 5000 || mayNot < 1000 {
		t.Errorf("%d may be, %d may not", may, mayNot)
	}
}
