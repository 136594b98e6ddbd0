package line_test

import (
	"math"
	"math/rand/v2"
	"strings"
	"testing"

	"isobar/api"
	"isobar/line"
)

// printed is a sample, of which it is known that it may be, as a line.
func printed(t *testing.T, x api.Sample) string {
	t.Helper()
	s, e := line.Print(x)
	if e != api.OK {
		t.Fatalf("Print(%s, %d, %d): %d", brief(x.Path), x.Value, x.Time, e)
	}
	return s
}

// back holds a sample to P18.2: what is printed of it is parsed as it was, if that has at most 200 bytes, and else refused.
func back(t *testing.T, x api.Sample) {
	t.Helper()
	s := printed(t, x)
	if len(s) > 200 {
		refuses(t, s, api.ErrLong)
		return
	}
	parses(t, s, x)
	if again := printed(t, x); again != s {
		t.Fatalf("printed %s, and %s", brief(s), brief(again))
	}
}

// TestPrintedAndParsed (P18.2): what is printed, if it has at most 200 bytes, is parsed as it was.
func TestPrintedAndParsed(t *testing.T) {
	for _, x := range samples(goodPaths(), goodValues(), goodTimes()) {
		back(t, x)
	}
	// Of each length about the bound, by each of the words.
	for size := 1; size <= 263; size++ {
		for _, value := range []int64{0, -1, 500000, math.MaxInt64, -math.MaxInt64} {
			for _, time := range []int{-1, 0, 60, 1 << 40} {
				back(t, api.Sample{Path: longPath(size), Value: value, Time: time})
			}
		}
	}
	r := rand.New(rand.NewPCG(209, 210))
	for range 20000 {
		x := api.Sample{Path: somePath(r), Value: int64(r.Uint64()) >> r.IntN(64), Time: oneOf(r, -1, 0, r.IntN(100), r.IntN(1<<40+1), 1<<40)}
		if x.Value != math.MinInt64 {
			back(t, x)
		}
	}
}

// TestParsedAndPrinted (P18.2): what is parsed may be, and is parsed as that again, when it is printed.
func TestParsedAndPrinted(t *testing.T) {
	r := rand.New(rand.NewPCG(211, 212))
	list := rows([]string{"a.b ", ".5 ", "-1 ", "0", "1 ", "+7.", "\t"}, 6)
	for range 30000 {
		list = append(list, someLine(r))
	}
	good := 0
	for _, s := range list {
		x, e := line.Parse(s)
		if e != api.OK {
			continue
		}
		good++
		again := printed(t, x)
		if len(again) > 200 {
			t.Fatalf("%s is printed as %s, of %d bytes", brief(s), brief(again), len(again))
		}
		parses(t, again, x)
	}
	if good < 15000 {
		t.Errorf("%d of the lines say a sample", good)
	}
}

// TestNoughtInFront (P18.1, at an edge of P18.2): a number's text is printed with a digit ahead of its point, so that a line of 200 bytes that has none there is printed with 201, and that line says nothing, as each one of 201.
func TestNoughtInFront(t *testing.T) {
	for _, c := range []struct {
		number, shown string
		value         int64
	}{{".5", "0.5", 500000}, {"-.5", "-0.5", -500000}, {".000001", "0.000001", 1}, {"-.12", "-0.12", -120000}} {
		for time, text := range map[int]string{1: "1", -1: "-1", 60: "60", 1 << 40: "1099511627776"} {
			path := longPath(200 - len(" "+c.number+" "+text))
			x := api.Sample{Path: path, Value: c.value, Time: time}
			parses(t, path+" "+c.number+" "+text, x)
			prints(t, x, path+" "+c.shown+" "+text)
			refuses(t, path+" "+c.shown+" "+text, api.ErrLong)
			// With a byte less there is room.
			x.Path = path[1:]
			parses(t, path[1:]+" "+c.number+" "+text, x)
			back(t, x)
		}
	}
}

// TestBlanks (P18.3): more blanks and tabs, wherever some may stand, change nothing, as long as there is room; where there is none, the line is too long.
func TestBlanks(t *testing.T) {
	r := rand.New(rand.NewPCG(213, 214))
	for _, s := range []string{"a.b 1.5 60", "a -1 -1", "a 1", "a", "", "a 1 2 3", "a..b 1 60", "a nan 60", "a 1 x", "a 1 1099511627777", "a\r 1 60", longPath(150) + " .5 1"} {
		list := pieces(s)
		want, e := said(s)
		for range 2000 {
			wide := oneOf(r, 1, 2, 8, 60)
			longer := someBlanks(r, 0, wide) + strings.Join(list, "\x00") + someBlanks(r, 0, wide) + oneOf(r, "", "\r")
			for strings.Contains(longer, "\x00") {
				longer = strings.Replace(longer, "\x00", someBlanks(r, 1, wide), 1)
			}
			splits(t, longer, list...)
			switch {
			case len(longer) > 200:
				refuses(t, longer, api.ErrLong)
			case e != api.OK:
				refuses(t, longer, e)
			default:
				parses(t, longer, want)
			}
		}
	}
}

// TestOneMoreBlank (P18.3): the same one by one, at each place beside a blank, and at both ends.
func TestOneMoreBlank(t *testing.T) {
	r := rand.New(rand.NewPCG(215, 216))
	for range 3000 {
		s := strings.TrimSuffix(someLine(r), "\r")
		if r.IntN(3) == 0 {
			s = strings.TrimSuffix(spoilt(r, s), "\r")
		}
		list := line.Words(s)
		want, e := line.Parse(s)
		for at := range len(s) + 1 {
			inside := 0 < at && at < len(s) && !strings.ContainsAny(s[at-1:at+1], " \t")
			if inside {
				continue
			}
			longer := s[:at] + oneOf(r, " ", "\t") + s[at:]
			splits(t, longer, list...)
			switch {
			case len(longer) > 200:
				refuses(t, longer, api.ErrLong)
			case e != api.OK:
				refuses(t, longer, e)
			default:
				parses(t, longer, want)
			}
		}
	}
}

// TestStampedAndPrinted: what is parsed, and stamped by a time that may be, may be, and has a time of its own, that another stamp leaves alone.
func TestStampedAndPrinted(t *testing.T) {
	r := rand.New(rand.NewPCG(217, 218))
	for range 5000 {
		x, e := line.Parse(someLine(r))
		if e != api.OK {
			continue
		}
		now := oneOf(r, 0, r.IntN(1000), 1<<40)
		stamped := line.Stamp(x, now)
		if stamped.Time < 0 || x.Time >= 0 && stamped != x || x.Time < 0 && stamped.Time != now {
			t.Fatalf("Stamp(%+v, %d) = %+v", x, now, stamped)
		}
		back(t, stamped)
		if again := line.Stamp(stamped, now+1); again != stamped {
			t.Fatalf("Stamp(%+v, %d) = %+v", stamped, now+1, again)
		}
	}
}
