package retention_test

import (
	"math/rand/v2"
	"slices"
	"strconv"
	"strings"
	"testing"

	"isobar/api"
	"isobar/retention"
)

func TestExamples(t *testing.T) {
	becomes(t, "60s:5m, 5m:30m", []api.Rung{{Step: 60, Count: 5}, {Step: 300, Count: 6}}, api.OK)
	becomes(t, "60:10", []api.Rung{{Step: 60, Count: 10}}, api.OK)
	becomes(t, "1m:1h,90s:1d", nil, api.ErrArg)
	becomes(t, "10s", nil, api.ErrForm)
	becomes(t, "0s:1m", nil, api.ErrRange)
}

// TestUnits: each unit, as a span alone, as a step and as a length.
func TestUnits(t *testing.T) {
	for _, c := range []struct {
		unit    string
		seconds int
	}{{"s", 1}, {"m", 60}, {"h", 3600}, {"d", 86400}, {"w", 604800}, {"y", 31536000}} {
		for _, n := range []int{0, 1, 2, 9, 10, 59, 100, 34865} {
			lasts(t, strconv.Itoa(n)+c.unit, n*c.seconds, api.OK)
		}
		last := 1 << 40 / c.seconds
		lasts(t, strconv.Itoa(last)+c.unit, last*c.seconds, api.OK)
		lasts(t, strconv.Itoa(last+1)+c.unit, 0, api.ErrRange)
		if c.seconds <= api.MaxStep {
			becomes(t, "1"+c.unit+":7", []api.Rung{{Step: c.seconds, Count: 7}}, api.OK)
			becomes(t, "1"+c.unit+":7"+c.unit, []api.Rung{{Step: c.seconds, Count: 7}}, api.OK)
		} else {
			becomes(t, "1"+c.unit+":7", nil, api.ErrArg)
		}
		step := max(1, c.seconds/365)
		becomes(t, strconv.Itoa(step)+":1"+c.unit, []api.Rung{{Step: step, Count: c.seconds / step}}, api.OK)
	}
}

// TestLengths: digits alone are slots; seconds are divided by the step and rounded down.
func TestLengths(t *testing.T) {
	for _, c := range []struct {
		text string
		want []api.Rung
	}{
		{"60:10", []api.Rung{{Step: 60, Count: 10}}},
		{"60s:10", []api.Rung{{Step: 60, Count: 10}}},
		{"1m:10", []api.Rung{{Step: 60, Count: 10}}},
		{"60:600s", []api.Rung{{Step: 60, Count: 10}}},
		{"1m:10m", []api.Rung{{Step: 60, Count: 10}}},
		{"60:10m", []api.Rung{{Step: 60, Count: 10}}},
		{"60:659s", []api.Rung{{Step: 60, Count: 10}}},
		{"60:660s", []api.Rung{{Step: 60, Count: 11}}},
		{"60:119s", []api.Rung{{Step: 60, Count: 1}}},
		{"60:60s", []api.Rung{{Step: 60, Count: 1}}},
		{"7:1m", []api.Rung{{Step: 7, Count: 8}}},
		{"7s:1h", nil},
		{"60:59s", nil},
		{"60:1s", nil},
		{"60:0s", nil},
		{"60:0", nil},
		{"1d:1y", []api.Rung{{Step: 86400, Count: 365}}},
		{"24h:1y", []api.Rung{{Step: 86400, Count: 365}}},
		{"1d:400d", []api.Rung{{Step: 86400, Count: 400}}},
		{"1d:400", []api.Rung{{Step: 86400, Count: 400}}},
		{"1d:401d", nil},
		{"1d:401", nil},
		{"1d:34646399s", []api.Rung{{Step: 86400, Count: 400}}},
		{"1d:34646400s", nil},
		{"86400:1", []api.Rung{{Step: 86400, Count: 1}}},
		{"86401:1", nil},
		{"86401:1y", nil},
		{"1w:1y", nil},
		{"1y:1y", nil},
		{"1:1", []api.Rung{{Step: 1, Count: 1}}},
		{"1s:1s", []api.Rung{{Step: 1, Count: 1}}},
		{"1:400", []api.Rung{{Step: 1, Count: 400}}},
		{"1:400s", []api.Rung{{Step: 1, Count: 400}}},
		{"1:401", nil},
		{"1:401s", nil},
		{"2:801s", []api.Rung{{Step: 2, Count: 400}}},
		{"2:802s", nil},
		{"00060:0010", []api.Rung{{Step: 60, Count: 10}}},
		{"0001m:0000600s", []api.Rung{{Step: 60, Count: 10}}},
		{strings.Repeat("0", 300) + "60:" + strings.Repeat("0", 300) + "10", []api.Rung{{Step: 60, Count: 10}}},
		{"1099511627776:1", nil},
		{"1:1099511627776", nil},
		{"1:1099511627776s", nil},
		{"86400:34865y", nil},
	} {
		if c.want == nil {
			becomes(t, c.text, nil, api.ErrArg)
		} else {
			becomes(t, c.text, c.want, api.OK)
		}
	}
}

// TestBeyond: a number above 2^40 isn't told, wherever it stands, however long it is.
func TestBeyond(t *testing.T) {
	numbers := []string{"1099511627777", "1099511627778", "01099511627777", "9999999999999", "4294967296000", "9223372036854775807", "9223372036854775808", "9223372036854775809", "18446744073709551615", "18446744073709551616", "18446744073709551617", "18446744073709551676", "36893488147419103232", "340282366920938463463374607431768211456", "340282366920938463463374607431768211516", "1" + strings.Repeat("0", 40), strings.Repeat("9", 500), strings.Repeat("0", 100) + "1099511627777"}
	for _, n := range numbers {
		becomes(t, n+":1", nil, api.ErrRange)
		becomes(t, "1:"+n, nil, api.ErrRange)
		becomes(t, "60:10,"+n+":10", nil, api.ErrRange)
		becomes(t, "60:10,300:"+n, nil, api.ErrRange)
		for _, unit := range letters {
			lasts(t, n+string(unit), 0, api.ErrRange)
			becomes(t, n+string(unit)+":1", nil, api.ErrRange)
			becomes(t, "1:"+n+string(unit), nil, api.ErrRange)
		}
	}
	for _, s := range []string{"1099511627777s", "18325193797m", "305419897h", "12725830d", "1817976w", "34866y", "292471208678y", "584942417356y", "584942417355y", "307445734561825861m", "15250284452472w", "30500568904944w", "213503982334602d", "5124095576030432h"} {
		lasts(t, s, 0, api.ErrRange)
		becomes(t, s+":1", nil, api.ErrRange)
		becomes(t, "1:"+s, nil, api.ErrRange)
	}
	// Just 2^40, and the last ones of each unit below it, are told, though no rung has room for them.
	for _, s := range []string{"1099511627776", "1099511627776s", "0001099511627776s", "18325193796m", "305419896h", "12725829d", "1817975w", "34865y"} {
		becomes(t, s+":1", nil, api.ErrArg)
		becomes(t, "1:"+s, nil, api.ErrArg)
	}
	lasts(t, "1099511627776s", 1099511627776, api.OK)
	lasts(t, "18325193796m", 1099511627760, api.OK)
	lasts(t, "305419896h", 1099511625600, api.OK)
	lasts(t, "12725829d", 1099511625600, api.OK)
	lasts(t, "1817975w", 1099511280000, api.OK)
	lasts(t, "34865y", 1099502640000, api.OK)
	// The seconds count, not the slots that they make.
	becomes(t, "86400:1099511627777s", nil, api.ErrRange)
	becomes(t, "86400:1099511627777", nil, api.ErrRange)
}

// TestSteps: a step of 0 isn't told; with noughts, of each unit, beside whatever length.
func TestSteps(t *testing.T) {
	for _, zero := range []string{"0", "00", "0s", "0m", "0h", "0d", "0w", "0y", "000000000000000000000", strings.Repeat("0", 100) + "y"} {
		for _, length := range []string{"0", "1", "1m", "0s", "400", "401", "1y", "1099511627777", "99999999999999999999y"} {
			becomes(t, zero+":"+length, nil, api.ErrRange)
			becomes(t, "60:10,"+zero+":"+length, nil, api.ErrRange)
		}
	}
	// A length of 0 is told, but no rung has it.
	for _, zero := range []string{"0", "00", "0s", "0m", "0h", "0d", "0w", "0y"} {
		becomes(t, "1:"+zero, nil, api.ErrArg)
		becomes(t, "60:10,300:"+zero, nil, api.ErrArg)
	}
}

// TestNext: what is asked of a rung and the next one, told by hand.
func TestNext(t *testing.T) {
	for _, c := range []struct {
		text string
		want bool
	}{
		// The next step is equal, less, no multiple, a multiple.
		{"60:10,60:20", false},
		{"60:10,30:40", false},
		{"60:10,1:400", false},
		{"60:10,90:20", false},
		{"60:10,61:20", false},
		{"60:10,119:20", false},
		{"60:10,121:20", false},
		{"60:10,120:20", true},
		{"60:10,180:20", true},
		{"1:10,2:20", true},
		{"1:10,3:20", true},
		{"7:10,14:20", true},
		{"7:10,15:20", false},
		// The next one reaches less far, as far, further.
		{"60:10,120:4", false},
		{"60:10,120:5", false},
		{"60:10,120:6", true},
		{"60:10,600:1", false},
		{"60:9,540:1", false},
		{"60:11,180:3", false},
		{"60:11,180:4", true},
		{"1:2,2:1", false},
		{"1:2,2:2", true},
		// The count makes a slot of the next one, or is one too few.
		{"60:2,180:10", false},
		{"60:3,180:10", true},
		{"60:9,600:10", false},
		{"60:10,600:10", true},
		{"60:1,120:10", false},
		{"60:2,120:10", true},
		{"216:399,86400:400", false},
		{"216:400,86400:400", true},
		{"215:400,86400:400", false},
		{"1:400,400:2", true},
		{"1:400,401:2", false},
		{"1:399,400:2", false},
		// More of them: each with the next one alone.
		{"1:10,2:20,4:40", true},
		{"1:10,2:20,4:10", false},
		{"1:10,2:20,3:40", false},
		{"1:10,2:20,2:40", false},
		{"1:3,3:2,6:2", true},
		{"1:3,3:2,9:2", false},
		{"1:2,3:3,9:9", false},
		{"1:60,60:60,3600:24,86400:400", true},
		{"1:60,60:59,3600:24,86400:400", false},
		{"1:60,60:60,3600:23,86400:400", false},
		{"1:59,60:60,3600:24,86400:400", false},
		{"1:60,60:60,3600:24,86400:1", false},
		{"1:60,60:60,3600:24,86400:2", true},
		{"1:60,60:60,3600:1,86400:2", false},
		{"1:2,2:4,4:8,8:16", true},
		{"1:2,2:4,4:8,8:4", false},
		{"1:2,2:4,4:8,12:16", true},
		{"1:2,2:4,4:8,10:16", false},
	} {
		var l []api.Rung
		for _, part := range strings.Split(c.text, ",") {
			step, count, _ := strings.Cut(part, ":")
			s, _ := strconv.Atoi(step)
			n, _ := strconv.Atoi(count)
			l = append(l, api.Rung{Step: s, Count: n})
		}
		if got := lists(t, l); got != c.want {
			t.Errorf("%s: %t by the tests' own reading, want %t", c.text, got, c.want)
		}
		if c.want {
			becomes(t, c.text, l, api.OK)
		} else {
			becomes(t, c.text, nil, api.ErrArg)
		}
	}
}

// TestMany: one to four rungs, five, and many more.
func TestMany(t *testing.T) {
	l := []api.Rung{{Step: 1, Count: 2}}
	text := "1:2"
	for n := 1; n <= 10; n++ {
		if is := lists(t, l); is != (n <= 4) {
			t.Errorf("%d rungs: %t by the tests' own reading", n, is)
		}
		if n <= 4 {
			becomes(t, text, l, api.OK)
		} else {
			becomes(t, text, nil, api.ErrMany)
		}
		step := 1 << n
		l = append(l, api.Rung{Step: step, Count: 2 * step})
		text += "," + strconv.Itoa(step) + ":" + strconv.Itoa(2*step)
	}
	becomes(t, strings.Repeat("1:1,", 100000)+"1:1", nil, api.ErrMany)
	becomes(t, strings.Repeat("60:10,", 3)+"60:10", nil, api.ErrArg)
	becomes(t, strings.Repeat("60:10,", 4)+"60:10", nil, api.ErrMany)
	if retention.Together(nil) || retention.Together([]api.Rung{}) {
		t.Error("no rungs go together")
	}
	for _, none := range [][]api.Rung{nil, {}} {
		if s, e := retention.Print(none); s != "" || e != api.ErrArg {
			t.Errorf("Print of no rungs: %q, %d", s, e)
		}
	}
}

// TestBlanks: blanks ahead of, behind and around each rung's text are let go, however many.
func TestBlanks(t *testing.T) {
	want := []api.Rung{{Step: 60, Count: 5}, {Step: 300, Count: 6}}
	blanks := []string{"", " ", "   ", strings.Repeat(" ", 1000)}
	for _, a := range blanks {
		for _, b := range blanks {
			for _, c := range blanks {
				for _, d := range blanks {
					becomes(t, a+"60s:5m"+b+","+c+"5m:30m"+d, want, api.OK)
				}
			}
			becomes(t, a+"60:5"+b, want[:1], api.OK)
			becomes(t, a+"0:5"+b, nil, api.ErrRange)
			becomes(t, a+"60:401"+b, nil, api.ErrArg)
		}
	}
}

// TestReach: at each edge of a step and of a count.
func TestReach(t *testing.T) {
	for _, c := range []struct{ step, count, want int }{
		{60, 5, 300},
		{1, 1, 1},
		{1, 400, 400},
		{86400, 1, 86400},
		{86400, 400, 34560000},
		{1, 401, 0},
		{86401, 1, 0},
		{86401, 401, 0},
		{86400, 401, 0},
		{86401, 400, 0},
		{0, 1, 0},
		{1, 0, 0},
		{0, 0, 0},
		{-1, -1, 0},
		{-60, -5, 0},
		{-1, 1, 0},
		{1, -1, 0},
		{1 << 62, 4, 0},
		{1 << 62, 5, 0},
		{1 << 32, 1 << 32, 0},
		{5, 1 << 62, 0},
	} {
		if n := retention.Reach(api.Rung{Step: c.step, Count: c.count}); n != c.want {
			t.Errorf("Reach(%d, %d) = %d, want %d", c.step, c.count, n, c.want)
		}
	}
	for _, step := range edges() {
		for _, count := range edges() {
			lists(t, []api.Rung{{Step: step, Count: count}})
		}
	}
}

// TestPairs: two rungs, both of them with all steps and counts of a few, and at the edges.
func TestPairs(t *testing.T) {
	some := 0
	for _, step := range []int{1, 2, 3, 5, 12} {
		for count := 1; count <= 14; count++ {
			for next := -1; next <= 40; next++ {
				for n := -1; n <= 14; n++ {
					if lists(t, []api.Rung{{Step: step, Count: count}, {Step: next, Count: n}}) {
						some++
					}
				}
			}
		}
	}
	if some < 1000 {
		t.Errorf("only %d of them go together", some)
	}
	few := []int{-1 << 63, -86400, -1, 0, 1, 2, 216, 217, 399, 400, 401, 43200, 86399, 86400, 86401, 172800, 1 << 32, 1<<63 - 1}
	for _, a := range few {
		for _, b := range few {
			for _, c := range few {
				for _, d := range few {
					lists(t, []api.Rung{{Step: a, Count: b}, {Step: c, Count: d}})
				}
			}
		}
	}
}

// TestWords: all short texts of the signs that mean something.
func TestWords(t *testing.T) {
	for _, signs := range [][]string{
		{"0", "1", "7", "s", "m", ":", ",", " "},
		{"1", "1m", ":", ",", "x"},
		{"1:2", "2:3", "0:1", ",", " ", "s"},
		{"2", ":", ","},
	} {
		for _, s := range words(signs, 6) {
			spans(t, s)
			parses(t, s)
		}
	}
	for _, s := range words([]string{"1", ":", ","}, 9) {
		parses(t, s)
	}
}

// TestBytes: each byte, alone, and put at each place of what is right.
func TestBytes(t *testing.T) {
	for b := range 256 {
		c := string([]byte{byte(b)})
		spans(t, c)
		parses(t, c)
		for _, s := range []string{"10m", "7s", "1"} {
			for at := range len(s) + 1 {
				spans(t, s[:at]+c+s[at:])
				spans(t, s[:at]+c+s[min(at+1, len(s)):])
			}
		}
		for _, s := range []string{"60s:5m, 5m:30m", "7:1h"} {
			for at := range len(s) + 1 {
				parses(t, s[:at]+c+s[at:])
				parses(t, s[:at]+c+s[min(at+1, len(s)):])
			}
		}
	}
}

// TestSeeded: lists' texts by a fixed seed, as they stand and spoilt.
func TestSeeded(t *testing.T) {
	r := rand.New(rand.NewPCG(107, 108))
	met := map[api.Errno]int{}
	for range 60000 {
		s := someList(r)
		met[parses(t, s)]++
		for range r.IntN(4) {
			s = spoilt(r, s)
		}
		met[parses(t, s)]++
		s = someAmount(r)
		spans(t, s)
		spans(t, spoilt(r, s))
	}
	for range 60000 {
		s := textOf(r, someRungs(r))
		met[parses(t, s)]++
		met[parses(t, spoilt(r, s))]++
	}
	for _, e := range []api.Errno{api.OK, api.ErrForm, api.ErrRange, api.ErrMany, api.ErrArg} {
		if met[e] < 1000 {
			t.Errorf("error %d only %d times", e, met[e])
		}
	}
}

// TestSeededRungs: rungs by a fixed seed, that go together, or are beside it by one.
func TestSeededRungs(t *testing.T) {
	r := rand.New(rand.NewPCG(109, 110))
	met := map[bool]int{}
	for range 100000 {
		met[lists(t, someRungs(r))]++
	}
	if met[true] < 1000 || met[false] < 1000 {
		t.Errorf("too few of a kind: %v", met)
	}
	all := edges()
	for range 20000 {
		var l []api.Rung
		for range r.IntN(7) {
			l = append(l, api.Rung{Step: oneOf(r, all...), Count: oneOf(r, all...)})
		}
		lists(t, l)
	}
}

// TestThereAndBack: P10.2, what is printed is parsed as it was.
func TestThereAndBack(t *testing.T) {
	r := rand.New(rand.NewPCG(111, 112))
	some := [6]int{}
	for range 100000 {
		l := someRungs(r)
		s, e := retention.Print(l)
		if e != api.OK {
			continue
		}
		some[len(l)]++
		if back, e := retention.Parse(s); e != api.OK || !slices.Equal(back, l) {
			t.Fatalf("%v is printed as %q, that is parsed as %v, %d", l, s, back, e)
		}
	}
	if slices.Min(some[1:5]) < 500 {
		t.Errorf("too few of a length: %v", some)
	}
	for _, step := range []int{1, 2, 9, 10, 59, 60, 61, 99, 100, 3600, 86399, 86400} {
		for count := 1; count <= 400; count++ {
			s, e := retention.Print([]api.Rung{{Step: step, Count: count}})
			if e != api.OK || s != strconv.Itoa(step)+":"+strconv.Itoa(count) {
				t.Fatalf("Print of %d, %d: %q, %d", step, count, s, e)
			}
			becomes(t, s, []api.Rung{{Step: step, Count: count}}, api.OK)
		}
	}
}

// TestSoMany: P10.3, a slot is made of a whole count of slots of the rung ahead, from 2 on, which that one can have at once.
func TestSoMany(t *testing.T) {
	r := rand.New(rand.NewPCG(113, 114))
	some := 0
	for range 100000 {
		l, e := retention.Parse(textOf(r, someRungs(r)))
		if e != api.OK {
			continue
		}
		for i := range len(l) - 1 {
			parts := l[i+1].Step / l[i].Step
			if parts < 2 || parts*l[i].Step != l[i+1].Step || parts > l[i].Count {
				t.Fatalf("%v: a slot of rung %d is made of %d", l, i+1, parts)
			}
			if retention.Reach(l[i+1]) <= retention.Reach(l[i]) {
				t.Fatalf("%v: rung %d reaches no further", l, i+1)
			}
			some++
		}
	}
	if some < 1000 {
		t.Errorf("only %d of them", some)
	}
}
