package line_test

import (
	"fmt"
	"math/big"
	"regexp"
	"slices"
	"strconv"
	"testing"

	"isobar/api"
	"isobar/line"
)

// What the chapters call a path, a number's text and a whole text, as regular expressions.
var (
	pathText   = regexp.MustCompile(`\A[a-zA-Z0-9_:%#@+=-]{1,32}(?:\.[a-zA-Z0-9_:%#@+=-]{1,32}){0,7}\z`)
	numberText = regexp.MustCompile(`\A[+-]?(?:[0-9]+(?:\.[0-9]*)?|\.[0-9]+)\z`)
	wholeText  = regexp.MustCompile(`\A[0-9]+\z`)
)

// pieces are a line's words, by going through it byte by byte.
func pieces(s string) []string {
	b := []byte(s)
	if n := len(b); n > 0 && b[n-1] == 13 {
		b = b[:n-1]
	}
	var list []string
	var word []byte
	for _, c := range append(slices.Clone(b), 32) {
		if c != 32 && c != 9 {
			word = append(word, c)
			continue
		}
		if len(word) > 0 {
			list = append(list, string(word))
		}
		word = nil
	}
	return list
}

// said is what Parse has to answer, reckoned without the layers beneath.
func said(s string) (api.Sample, api.Errno) {
	if len(s) > 200 {
		return api.Sample{}, api.ErrLong
	}
	words := pieces(s)
	if len(words) != 3 {
		return api.Sample{}, api.ErrForm
	}
	if !pathText.MatchString(words[0]) {
		return api.Sample{}, api.ErrPath
	}
	value, e := saidNumber(words[1])
	if e != api.OK {
		return api.Sample{}, e
	}
	time, e := saidTime(words[2])
	if e != api.OK {
		return api.Sample{}, e
	}
	return api.Sample{Path: words[0], Value: value, Time: time}, api.OK
}

// saidNumber are a number's millionths, a half away from zero.
func saidNumber(s string) (int64, api.Errno) {
	switch {
	case len(s) > 64:
		return 0, api.ErrLong
	case !numberText.MatchString(s):
		return 0, api.ErrNumber
	}
	exact, _ := new(big.Rat).SetString(s)
	exact.Mul(exact, big.NewRat(1000000, 1))
	below := exact.Sign() < 0
	exact.Add(exact.Abs(exact), big.NewRat(1, 2))
	count := new(big.Int).Quo(exact.Num(), exact.Denom())
	switch {
	case !count.IsInt64():
		return 0, api.ErrRange
	case below:
		return -count.Int64(), api.OK
	}
	return count.Int64(), api.OK
}

// saidTime is what a line's third word says.
func saidTime(s string) (int, api.Errno) {
	switch {
	case s == "-1":
		return -1, api.OK
	case len(s) > 64:
		return 0, api.ErrLong
	case !wholeText.MatchString(s):
		return 0, api.ErrNumber
	}
	n, _ := new(big.Int).SetString(s, 10)
	if n.Cmp(big.NewInt(1<<40)) > 0 {
		return 0, api.ErrRange
	}
	return int(n.Int64()), api.OK
}

// shown is a sample as a line, and whether it may be.
func shown(s api.Sample) (string, bool) {
	if !pathText.MatchString(s.Path) || s.Value == -1<<63 || s.Time < -1 || s.Time > 1<<40 {
		return "", false
	}
	return s.Path + " " + exactly(s.Value) + " " + strconv.Itoa(s.Time), true
}

// trailing are the noughts at the end of decimals, with the point, if nothing else is behind it.
var trailing = regexp.MustCompile(`\.?0*\z`)

// exactly are so many millionths as a number's text.
func exactly(v int64) string {
	return trailing.ReplaceAllString(big.NewRat(v, 1000000).FloatString(6), "")
}

// brief is what a test tells of something: what is long would bury the rest.
func brief(x any) string {
	s := fmt.Sprintf("%q", x)
	if len(s) > 300 {
		return s[:300] + "..."
	}
	return s
}

// splits holds Words to an answer.
func splits(t *testing.T, s string, want ...string) {
	t.Helper()
	if l := line.Words(s); !slices.Equal(l, want) {
		t.Fatalf("Words(%s) = %s, want %s", brief(s), brief(l), brief(want))
	}
}

// parses holds Parse to a sample.
func parses(t *testing.T, s string, want api.Sample) {
	t.Helper()
	if x, e := line.Parse(s); e != api.OK || x != want {
		t.Fatalf("Parse(%s) = %+v, %d, want %+v", brief(s), x, e, want)
	}
}

// refuses holds Parse to an error, and to nothing beside it.
func refuses(t *testing.T, s string, want api.Errno) {
	t.Helper()
	if x, e := line.Parse(s); e != want || x != (api.Sample{}) {
		t.Fatalf("Parse(%s) = %+v, %d, want %d", brief(s), x, e, want)
	}
}

// reads holds Words and Parse of a text to the chapter's words. It answers whether the line says a sample.
func reads(t *testing.T, s string) bool {
	t.Helper()
	splits(t, s, pieces(s)...)
	want, e := said(s)
	if e != api.OK {
		refuses(t, s, e)
		return false
	}
	parses(t, s, want)
	return true
}

// prints holds Print to an answer.
func prints(t *testing.T, x api.Sample, want string) {
	t.Helper()
	if s, e := line.Print(x); e != api.OK || s != want {
		t.Fatalf("Print(%s, %d, %d) = %s, %d, want %s", brief(x.Path), x.Value, x.Time, brief(s), e, brief(want))
	}
}

// mayNot holds Print to its error, and to nothing beside it.
func mayNot(t *testing.T, x api.Sample) {
	t.Helper()
	if s, e := line.Print(x); e != api.ErrArg || s != "" {
		t.Fatalf("Print(%s, %d, %d) = %s, %d, want %d", brief(x.Path), x.Value, x.Time, brief(s), e, api.ErrArg)
	}
}

// stamps holds Stamp of a sample to the chapter's words, at all kinds of times.
func stamps(t *testing.T, x api.Sample) {
	t.Helper()
	for _, now := range append(append(goodTimes(), badTimes()...), x.Time) {
		want := x
		if x.Time == -1 {
			want.Time = now
		}
		if got := line.Stamp(x, now); got != want {
			t.Fatalf("Stamp(%s, %d, %d, at %d) = %s, %d, %d", brief(x.Path), x.Value, x.Time, now, brief(got.Path), got.Value, got.Time)
		}
	}
}

// tells holds Print and Stamp of a sample to the chapter's words. It answers whether the sample may be.
func tells(t *testing.T, x api.Sample) bool {
	t.Helper()
	stamps(t, x)
	want, may := shown(x)
	if !may {
		mayNot(t, x)
		return false
	}
	prints(t, x, want)
	return true
}
