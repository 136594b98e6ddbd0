package line_test

import (
	"math/rand/v2"
	"strings"
	"testing"

	"isobar/api"
	"isobar/decimal"
	"isobar/line"
	"isobar/trail"
)

// TestLong: a line has up to 200 bytes, whatever they are and wherever they stand; blanks and the carriage return count.
func TestLong(t *testing.T) {
	for n := 150; n <= 260; n++ {
		for _, s := range []string{
			"a 1 60" + strings.Repeat(" ", n-6),
			"a 1 60" + strings.Repeat(" ", n-7) + "\r",
			strings.Repeat("\t", n-6) + "a 1 60",
			"a" + strings.Repeat(" ", n-5) + "1 60",
			"a 1" + strings.Repeat("\t", n-5) + "60",
			longPath(n-5) + " 1 60",
			longPath(n-6) + " 1 60\r",
			longPath(n-7) + " -.5 -1",
			longPath(n-130) + " " + strings.Repeat("0", 64) + " " + strings.Repeat("0", 64),
		} {
			if is := reads(t, s); len(s) != n || is != (n <= 200) {
				t.Fatalf("%s has %d bytes, want %d; it says a sample: %t", brief(s), len(s), n, is)
			}
		}
		// It comes ahead of all other errors.
		for _, s := range []string{
			strings.Repeat(" ", n), strings.Repeat("a", n), strings.Repeat("a ", n)[:n], strings.Repeat("\r", n), strings.Repeat("\xff", n), strings.Repeat("\x00", n),
			"a..b 1 60" + strings.Repeat(" ", n-9), "a nan 60" + strings.Repeat(" ", n-8), "a 1 x" + strings.Repeat(" ", n-5), "a 1 " + strings.Repeat("9", n-4), "a 1" + strings.Repeat(" ", n-3),
		} {
			if is := reads(t, s); len(s) != n || is {
				t.Fatalf("%s has %d bytes, want %d; it says a sample: %t", brief(s), len(s), n, is)
			}
			if n > 200 {
				refuses(t, s, api.ErrLong)
			}
		}
	}
	for _, end := range []string{" ", "\t", "\r", " \r", "\n", "\r\n", "x", "1"} {
		refuses(t, "a 1 60"+strings.Repeat(" ", 194)+end, api.ErrLong)
	}
	for _, s := range []string{strings.Repeat(" ", 1<<24), strings.Repeat("a", 1<<24), strings.Repeat("a ", 1<<22), strings.Repeat("\r", 1<<24), "a 1 60" + strings.Repeat(" ", 1<<24)} {
		refuses(t, s, api.ErrLong)
	}
}

// TestWordsOfLongLines: Words has no bound of its own.
func TestWordsOfLongLines(t *testing.T) {
	for _, n := range []int{64, 199, 200, 201, 202, 1000, 1 << 16} {
		splits(t, strings.Repeat("a", n), strings.Repeat("a", n))
		splits(t, strings.Repeat("a", n)+"\r", strings.Repeat("a", n))
		splits(t, strings.Repeat(" \t", n))
		splits(t, strings.Repeat("\t", n)+"a\r", "a")
		splits(t, strings.Repeat("\r", n), strings.Repeat("\r", n-1))
		splits(t, strings.Repeat("ab\t", n), strings.Fields(strings.Repeat("ab ", n))...)
	}
}

// TestHowManyWords: three, no more and no fewer, whatever they are.
func TestHowManyWords(t *testing.T) {
	for _, word := range []string{"a", "1", "-1", "60", "a..b", "nan", "\xff", "\v", "."} {
		for n := range 30 {
			var want []string
			for range n {
				want = append(want, word)
			}
			for _, s := range []string{strings.Join(want, " "), strings.Join(want, "\t "), strings.Repeat(word+" ", n), "\t" + strings.Join(want, "  ") + " \r"} {
				splits(t, s, want...)
				if n != 3 {
					refuses(t, s, api.ErrForm)
				}
			}
		}
	}
	for _, s := range []string{"", " ", "a", "a 1", "a 1 ", " a 1", "1 60", "a 1 2 3", "a 1 -1 -1", "a.b 1.5 60 x", "a b 1 60", "a 1 60 # it", "a.b", "a 1,60", "a=1 60", "a:1|g", "\r", "\r\n", "a 1\r60", "a 1\n60"} {
		refuses(t, s, api.ErrForm)
	}
}

// badNumbers are texts that are no numbers, too long or beyond what can be told, told by hand; badTimes likewise. None of them has a blank in it.
func badNumbers() map[string]api.Errno {
	return map[string]api.Errno{
		"nan": api.ErrNumber, "NaN": api.ErrNumber, "None": api.ErrNumber, "x": api.ErrNumber, ".": api.ErrNumber, "-": api.ErrNumber, "+": api.ErrNumber, "--1": api.ErrNumber, "1e3": api.ErrNumber, "1,5": api.ErrNumber, "1.2.3": api.ErrNumber, "0x1": api.ErrNumber, "1_0": api.ErrNumber, "inf": api.ErrNumber, "1\r": api.ErrNumber, "1\n": api.ErrNumber, "\x00": api.ErrNumber, "\xff": api.ErrNumber, "\u0661": api.ErrNumber, strings.Repeat("x", 64): api.ErrNumber,
		"9223372036854.775808": api.ErrRange, "-9223372036854.775808": api.ErrRange, "9223372036854.7758075": api.ErrRange, "9223372036855": api.ErrRange, "9999999999999": api.ErrRange, "18446744073709.551617": api.ErrRange, "18446744073709551617": api.ErrRange, strings.Repeat("9", 64): api.ErrRange,
		strings.Repeat("0", 65): api.ErrLong, "1." + strings.Repeat("0", 63): api.ErrLong, strings.Repeat("x", 65): api.ErrLong, strings.Repeat("9", 65): api.ErrLong,
	}
}

func badTimeTexts() map[string]api.Errno {
	return map[string]api.Errno{
		"x": api.ErrNumber, "-2": api.ErrNumber, "-0": api.ErrNumber, "-01": api.ErrNumber, "-1.": api.ErrNumber, "-1.0": api.ErrNumber, "--1": api.ErrNumber, "-10": api.ErrNumber, "-11": api.ErrNumber, "-": api.ErrNumber, "+1": api.ErrNumber, "+0": api.ErrNumber, "1.0": api.ErrNumber, "1.": api.ErrNumber, ".1": api.ErrNumber, "1e3": api.ErrNumber, "now": api.ErrNumber, "None": api.ErrNumber, "1-": api.ErrNumber, "-1\r\r": api.ErrNumber, "\r-1": api.ErrNumber, "-1x": api.ErrNumber, "-1\n": api.ErrNumber, "60\n": api.ErrNumber, "\x00": api.ErrNumber, "\xff": api.ErrNumber, "\u2212" + "1": api.ErrNumber, strings.Repeat("x", 64): api.ErrNumber, "-1099511627777": api.ErrNumber,
		"1099511627777": api.ErrRange, "9223372036854775807": api.ErrRange, "18446744073709551615": api.ErrRange, "18446744073709551616": api.ErrRange, "18446744073709551676": api.ErrRange, strings.Repeat("9", 64): api.ErrRange,
		strings.Repeat("0", 65): api.ErrLong, "-" + strings.Repeat("1", 64): api.ErrLong, strings.Repeat("x", 65): api.ErrLong, strings.Repeat("9", 65): api.ErrLong,
	}
}

// TestFirstError: a path's error comes ahead of the number's, that ahead of the time's; each is told alone, and ahead of the later ones.
func TestFirstError(t *testing.T) {
	paths := []string{".", "a.", ".a", "a..b", "a*", "a\r", "a\n", "{a}", "\x00", "\xff", "é", strings.Repeat("x", 33), alike("a", 9)}
	numbers, times := badNumbers(), badTimeTexts()
	numbers["1.5"], times["60"], times["-1"] = api.OK, api.OK, api.OK
	for number, e := range numbers {
		for time, later := range times {
			for _, path := range paths {
				refuses(t, path+" "+number+" "+time, api.ErrPath)
				refuses(t, path+" "+number+" "+time+" "+path, api.ErrForm)
			}
			refuses(t, number+" "+time, api.ErrForm)
			s := "a.b " + number + " " + time
			reads(t, s)
			switch {
			case e != api.OK:
				refuses(t, s, e)
			case later != api.OK:
				refuses(t, s, later)
			}
		}
	}
}

// TestLayersBeneath: a line of three words, by a fixed seed, has the first error that layers 16 and 3 have of them, and else what they say.
func TestLayersBeneath(t *testing.T) {
	r := rand.New(rand.NewPCG(205, 206))
	good, bad := 0, 0
	for range 30000 {
		words := []string{somePath(r), someNumber(r), someTime(r)}
		if at := r.IntN(6); at < 3 {
			words[at] = spoilt(r, words[at])
		}
		s := strings.Join(words, " ")
		if len(s) > 200 || len(pieces(s)) != 3 || strings.HasSuffix(s, "\r") || len(pieces(words[0])) != 1 || len(pieces(words[1])) != 1 {
			continue
		}
		value, numberE := decimal.Parse(pieces(s)[1])
		time, timeE := decimal.Whole(pieces(s)[2])
		if pieces(s)[2] == "-1" {
			time, timeE = -1, api.OK
		}
		bad++
		switch {
		case !trail.Right(pieces(s)[0]):
			refuses(t, s, api.ErrPath)
		case numberE != api.OK:
			refuses(t, s, numberE)
		case timeE != api.OK:
			refuses(t, s, timeE)
		default:
			parses(t, s, api.Sample{Path: pieces(s)[0], Value: value.V, Time: time})
			good, bad = good+1, bad-1
		}
	}
	if min(good, bad) < 3000 {
		t.Errorf("%d say a sample, %d don't", good, bad)
	}
}

// TestBadSamples: one thing that may not be is enough, each alone and all together.
func TestBadSamples(t *testing.T) {
	least := int64(-1 << 63)
	for _, path := range append(goodPaths(), badPaths()...) {
		for _, time := range append(goodTimes(), badTimes()...) {
			mayNot(t, api.Sample{Path: path, Value: least, Time: time})
		}
	}
	for _, x := range samples(badPaths(), goodValues(), goodTimes()) {
		mayNot(t, x)
	}
	for _, x := range samples(goodPaths(), goodValues(), badTimes()) {
		mayNot(t, x)
	}
	mayNot(t, api.Sample{})
	for _, x := range samples(goodPaths(), goodValues(), goodTimes()) {
		if s, e := line.Print(x); e != api.OK || s == "" {
			t.Fatalf("Print(%s, %d, %d) = %s, %d", brief(x.Path), x.Value, x.Time, brief(s), e)
		}
	}
}

// TestSpoilt: any bytes, of any length about what may be.
func TestSpoilt(t *testing.T) {
	r := rand.New(rand.NewPCG(207, 208))
	for range 40000 {
		reads(t, some(r, oneOf(r, "a 1", "a1 .-\t", "a. 05\r", nameBytes+"  ", allBytes(), "\r\n \t", "0123456789 -+."), oneOf(r, 3, 8, 20, 300)))
	}
}
