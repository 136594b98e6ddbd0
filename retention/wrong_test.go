package retention_test

import (
	"strings"
	"testing"

	"isobar/api"
)

// wrongSpans are texts, told by hand, that are no span's.
func wrongSpans() []string {
	return []string{
		// nothing, blanks, no digits, no unit
		"", " ", "   ", "s", "m", "h", "d", "w", "y", "0", "5", "60", "1099511627776", "99999999999999999999",
		// another letter, two of them, a letter ahead
		"5x", "5a", "5z", "5S", "5M", "5H", "5D", "5W", "5Y", "5ss", "5ms", "5sm", "5min", "5sec", "s5", "m5s", "s5s", "5s5", "5s5s", "1m30s", "5l", "5r", "5t", "5v", "5x5", "5se",
		// a sign, a point, a blank, a tab
		"-5s", "+5s", "--5s", "5-s", "5+s", "5s-", "-s", "-0s", "1.5s", "5.s", ".5s", ".s", "5s.", "1,5s", "5,s", " 5s", "5s ", "5 s", " 5s ", "1 5s", "\t5s", "5\ts", "5s\t", "5s\n", "\n5s", "5s\r", "5\x00s", "\x005s", "5s\x00",
		// other ways to tell a number
		"0x5s", "5e1s", "1_000s", "1'000s", "0b1s", "0o7s", "1e3", "infs", "nans",
		// bytes above 127, digits of other scripts
		"5\xff", "\xff5s", "5\xffs", "5s\xff", "5\xf3", "5é", "é5s", "٥s", "５s", "5ｓ", "5ſ", "5\xb5s", "\xb9s", "²s", "5\u00a0s", "\u00a05s",
		// bytes beside the digits
		"5/s", "5:s", "/s", ":s", "/5s", ":5s", "5s:", ":",
	}
}

func TestWrongSpans(t *testing.T) {
	for _, s := range wrongSpans() {
		lasts(t, s, 0, api.ErrNumber)
	}
	// No number comes ahead of one that isn't told, which stands there as well.
	for _, s := range []string{"99999999999999999999", "99999999999999999999x", "x99999999999999999999s", "99999999999999999999ss", "99999999999999999999 s", "-99999999999999999999s"} {
		lasts(t, s, 0, api.ErrNumber)
	}
}

// wrongRungs are texts, told by hand, that are no rung's; blanks around don't mend them.
func wrongRungs() []string {
	list := []string{
		// nothing
		"",
		// no colon, two of them, a colon alone
		"10s", "60", "10m", "60 10", "60;10", "60=10", "1m:1h:1d", "60:10:", ":60:10", "60::10", "::", ":", "60:10:5", "1:1:1:1",
		// no step, no length
		":10", ":1h", "60:", "1m:",
		// no digits
		"m:1h", "1m:h", "s:s", "m:10", "60:h", "m:", ":h",
		// another letter, two of them
		"1x:1h", "1m:1x", "1M:1h", "1m:1H", "1mm:1h", "1m:1hh", "1m:1hd", "1sm:1h", "a:b", "1m1:1h", "1m:1h1", "m1:1h", "1m:h1", "1m:1h30m",
		// a sign, a point
		"-60:10", "+60:10", "60:-10", "60:+10", "-1m:1h", "1m:-1h", "1.5m:1h", "1m:1.5h", "60.:10", "60:.5", "60:10.", "-0:1",
		// a blank, a tab within
		"1 m:1h", "1m :1h", "1m: 1h", "1m : 1h", "1m:1 h", "6 0:10", "60:1 0", "60 :10", "60: 10", " : ", "1m: ", " :1h",
		"\t60:10", "60:10\t", "60\t:10", "60:\t10", "60:10\n", "\n60:10", "60:10\r", "60:10\v", "60:10\x00", "\x0060:10", "6\x000:10",
		// other ways to tell a number
		"0x3c:10", "60:0xa", "6e1:10", "60:1e1", "6_0:10", "60:1_0",
		// bytes above 127
		"60\xff:10", "\xff60:10", "60:10\xff", "60:\xff10", "60:10é", "٦٠:10", "60：10", "６０:10", "60:10\u00a0", "\u00a060:10", "60:1\xe8",
		// what may stand around a list elsewhere
		"[60:10]", "\"60:10\"", "(60:10)", "60:10;", "60:10|300:10", "60:10 300:10", "60:10  300:10",
	}
	return list
}

func TestWrongRungs(t *testing.T) {
	for _, s := range wrongRungs() {
		becomes(t, s, nil, api.ErrForm)
		becomes(t, "  "+s+" ", nil, api.ErrForm)
		becomes(t, s+",60:10", nil, api.ErrForm)
		becomes(t, "60:10,"+s, nil, api.ErrForm)
		becomes(t, "60:10, "+s+" ,300:10", nil, api.ErrForm)
		becomes(t, "60:10,300:10,3600:10,"+s, nil, api.ErrForm)
	}
	// A comma first, last, twice, alone.
	for _, s := range []string{",", ",,", " , ", ",60:10", "60:10,", "60:10, ", " ,60:10", "60:10,,300:10", "60:10, ,300:10", "60:10,300:10,", ",60:10,300:10", "60:10,300:10,,", "60,:10", "60:,10", "6,0:10", "60:1,0"} {
		becomes(t, s, nil, api.ErrForm)
	}
	for n := range 100 {
		becomes(t, strings.Repeat(" ", n), nil, api.ErrForm)
		becomes(t, strings.Repeat(",", n), nil, api.ErrForm)
	}
}

// TestWhichFirst: no form comes ahead of what isn't told, that ahead of too many, and these ahead of what doesn't go together, wherever in the list they stand.
func TestWhichFirst(t *testing.T) {
	parts := []struct {
		text         string
		form, beyond bool
	}{
		{"60:10", false, false},
		{"60:401", false, false},
		{"0:10", false, true},
		{"60:99999999999999999999", false, true},
		{"60", true, false},
		{"99999999999999999999:1x", true, false},
	}
	for n := 1; n <= 6; n++ {
		row := make([]int, n)
		for {
			var texts []string
			form, beyond := false, false
			for _, p := range row {
				texts = append(texts, parts[p].text)
				form, beyond = form || parts[p].form, beyond || parts[p].beyond
			}
			want := api.ErrArg
			switch {
			case form:
				want = api.ErrForm
			case beyond:
				want = api.ErrRange
			case n > 4:
				want = api.ErrMany
			}
			if got := strings.Join(texts, ","); got != "60:10" {
				becomes(t, got, nil, want)
			}
			at := 0
			for at < n && row[at] == len(parts)-1 {
				row[at] = 0
				at++
			}
			if at == n {
				break
			}
			row[at]++
		}
	}
	becomes(t, "0:1,x", nil, api.ErrForm)
	becomes(t, "1:1,1:1,1:1,1:1,1:1,0:1", nil, api.ErrRange)
	becomes(t, "1:1,1:1,1:1,1:1,1:1,1:1099511627777", nil, api.ErrRange)
	becomes(t, "1:1,1:1,1:1,1:1,1:1,1", nil, api.ErrForm)
	becomes(t, "1:2,2:4,4:8,8:16,16:32", nil, api.ErrMany)
	becomes(t, "1:401,1:1,1:1,1:1,1:1", nil, api.ErrMany)
	becomes(t, strings.Repeat("1:1,", 5000)+"0:1", nil, api.ErrRange)
	becomes(t, strings.Repeat("0:1,", 5000)+"0", nil, api.ErrForm)
}

// TestWrongLists: rungs that don't go together, told by hand.
func TestWrongLists(t *testing.T) {
	ok := api.Rung{Step: 60, Count: 10}
	for _, l := range [][]api.Rung{
		nil,
		{},
		{{}},
		{{Step: 60}},
		{{Count: 10}},
		{{Step: -60, Count: 10}},
		{{Step: 60, Count: -10}},
		{{Step: -60, Count: -10}},
		{{Step: 86401, Count: 1}},
		{{Step: 1, Count: 401}},
		{{Step: -1 << 63, Count: 1}},
		{{Step: 1, Count: -1 << 63}},
		{{Step: 1<<63 - 1, Count: 1<<63 - 1}},
		{ok, {}},
		{{}, ok},
		{ok, ok},
		{ok, {Step: 120, Count: 401}},
		{ok, {Step: 120, Count: -6}},
		{ok, {Step: -120, Count: -6}},
		{ok, {Step: 120, Count: 0}},
		{ok, {Step: 0, Count: 20}},
		{{Step: 0, Count: 10}, {Step: 60, Count: 10}},
		{{Step: -60, Count: 10}, {Step: 60, Count: 10}},
		{{Step: -1, Count: 400}, {Step: 1, Count: 400}},
		{{Step: 43200, Count: 10}, {Step: 86400, Count: 10}, {Step: 172800, Count: 10}},
		{ok, {Step: 120, Count: 20}, {}, {Step: 480, Count: 80}},
		{ok, {Step: 120, Count: 20}, {Step: 240, Count: 40}, {Step: 480, Count: 80}, {}},
	} {
		if lists(t, l) {
			t.Errorf("%v go together by the tests' own reading", l)
		}
	}
}
