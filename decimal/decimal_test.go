package decimal_test

import (
	"math"
	"math/big"
	"math/rand/v2"
	"regexp"
	"slices"
	"strconv"
	"strings"
	"testing"

	"isobar/api"
	"isobar/decimal"
)

const most = math.MaxInt64

var null = api.Num{Null: true}

// wrong are numbers that aren't right, the kinds of them that there are.
var wrong = []api.Num{
	{Null: true, V: 1}, {Null: true, V: -1}, {Null: true, V: api.One}, {Null: true, V: most}, {Null: true, V: math.MinInt64},
	{V: math.MinInt64},
}

// edges are millionths about which digits, noughts and bounds change.
var edges = []int64{
	0, 1, 2, 9, 10, 11, 99, 100, 101, 1000, 10000, 99999, 100000, 100001, 110000, 123456, 500000, 999990, 999999,
	1000000, 1000001, 1000010, 1100000, 1200000, 9999999, 10000000, 10000001, 10100000, 20000000, 1234567890,
	9007199254740993, 1000000000000000000, 9223372036853999999, 9223372036854000000, 9223372036854000001, most - 1, most,
}

func n(v int64) api.Num { return api.Num{V: v} }

// random is numbers of all lengths, by a fixed seed, some of them with noughts at the end.
func random(r *rand.Rand) api.Num {
	v := r.Int64() >> r.IntN(63)
	unit := int64(math.Pow10(r.IntN(8)))
	v = v / unit * unit
	if r.IntN(2) == 0 {
		v = -v
	}
	return n(v)
}

// numbers are right numbers but nothing: the edges on both sides of zero, and some at random.
func numbers() []api.Num {
	var list []api.Num
	for _, v := range edges {
		list = append(list, n(v), n(-v))
	}
	r := rand.New(rand.NewPCG(11, 12))
	for range 4000 {
		list = append(list, random(r))
	}
	return list
}

var (
	numberText = regexp.MustCompile(`^[+-]?([0-9]+(\.[0-9]*)?|\.[0-9]+)$`)
	wholeText  = regexp.MustCompile(`^[0-9]+$`)
)

// said is what Parse has to answer, reckoned in whole numbers of any length.
func said(s string) (api.Num, api.Errno) {
	switch {
	case len(s) > 64:
		return api.Num{}, api.ErrLong
	case !numberText.MatchString(s):
		return api.Num{}, api.ErrNumber
	}
	whole, decimals, _ := strings.Cut(strings.TrimLeft(s, "+-"), ".")
	v, _ := new(big.Int).SetString(whole+decimals, 10)
	unit := new(big.Int).Exp(big.NewInt(10), big.NewInt(int64(len(decimals))), nil)
	// Twice the millionths and a half are parted by twice the unit.
	v.Mul(v, big.NewInt(2*api.One)).Add(v, unit).Quo(v, unit.Lsh(unit, 1))
	if v.Cmp(big.NewInt(most)) > 0 {
		return api.Num{}, api.ErrRange
	}
	if s[0] == '-' {
		v.Neg(v)
	}
	return n(v.Int64()), api.OK
}

// saidWhole is what Whole has to answer.
func saidWhole(s string) (int, api.Errno) {
	switch {
	case len(s) > 64:
		return 0, api.ErrLong
	case !wholeText.MatchString(s):
		return 0, api.ErrNumber
	}
	v, _ := new(big.Int).SetString(s, 10)
	if v.Cmp(big.NewInt(1<<40)) > 0 {
		return 0, api.ErrRange
	}
	return int(v.Int64()), api.OK
}

func checkSaid(t *testing.T, s string) {
	t.Helper()
	want, wantE := said(s)
	if got, e := decimal.Parse(s); got != want || e != wantE {
		t.Errorf("Parse(%q) = %v, %d, want %v, %d", s, got, e, want, wantE)
	}
	whole, wholeE := saidWhole(s)
	if got, e := decimal.Whole(s); got != whole || e != wholeE {
		t.Errorf("Whole(%q) = %d, %d, want %d, %d", s, got, e, whole, wholeE)
	}
}

type parseCase struct {
	text string
	want int64
}

func checkParsed(t *testing.T, cases []parseCase) {
	t.Helper()
	for _, c := range cases {
		if got, e := decimal.Parse(c.text); got != n(c.want) || e != api.OK {
			t.Errorf("Parse(%q) = %v, %d, want %d", c.text, got, e, c.want)
		}
	}
}

func TestParse(t *testing.T) {
	checkParsed(t, []parseCase{
		{"0", 0}, {"5", 5000000}, {"1.5", 1500000}, {"-1.5", -1500000}, {"+1.5", 1500000}, {"12.000001", 12000001}, {"100", 100000000}, {"-7", -7000000},
		// A point in front, and at the end.
		{".5", 500000}, {"-.5", -500000}, {"+.5", 500000}, {"5.", 5000000}, {"+5.", 5000000}, {"-5.", -5000000}, {"0.", 0}, {".0", 0},
		// Needless noughts, in front and at the end.
		{"0005.1234567", 5123457}, {"00", 0}, {"-0000.25", -250000}, {"007", 7000000}, {"1.500000000000", 1500000}, {"1.000000000001", 1000000},
		// Nought has no sign.
		{"-0", 0}, {"+0", 0}, {"-0.0", 0}, {"-.0", 0}, {"-0.", 0}, {"-.0000004", 0}, {"-0.00000049999999", 0},
		{"0.000001", 1}, {"-0.000001", -1}, {".123456", 123456}, {".1", 100000}, {".01", 10000},
	})
}

func TestParseRoundsHalvesAwayFromZero(t *testing.T) {
	checkParsed(t, []parseCase{
		{".0000005", 1}, {"-.0000005", -1}, {".0000004", 0}, {".00000049", 0}, {".000000499999999999", 0}, {"-.000000499999999999", 0}, {".00000050", 1}, {".000000500000000001", 1}, {"-.000000500000000001", -1},
		{".0000015", 2}, {"-.0000015", -2}, {".0000025", 3}, {"-.0000025", -3}, {".0000014999", 1}, {"-.0000014999", -1}, {".0000024", 2},
		{"1.0000005", 1000001}, {"-1.0000005", -1000001}, {"1.0000004", 1000000}, {"-1.0000006", -1000001},
		{".9999995", 1000000}, {"-.9999995", -1000000}, {".9999994", 999999}, {"9.9999999", 10000000}, {"-99.9999996", -100000000}, {"999.99999949", 999999999},
	})
}

func TestParseAtTheBounds(t *testing.T) {
	checkParsed(t, []parseCase{
		{"9223372036854.775807", most}, {"-9223372036854.775807", -most}, {"+9223372036854.775807", most}, {"9223372036854.775806", most - 1}, {"-9223372036854.775806", -most + 1},
		{"9223372036854.7758074", most}, {"-9223372036854.7758074", -most}, {"9223372036854.77580749999999", most}, {"-9223372036854.77580749999999", -most}, {"9223372036854.7758065", most}, {"-9223372036854.7758065", -most},
		{"0000000000000009223372036854.775807", most}, {"9223372036854", 9223372036854000000}, {"-9223372036854.", -9223372036854000000},
	})
	for _, s := range []string{
		"9223372036854.775808", "-9223372036854.775808", "+9223372036854.775808", "9223372036854.7758075", "-9223372036854.7758075", "9223372036854.77580750", "-9223372036854.775807500001", "9223372036854.7758079",
		"9223372036854.775809", "-9223372036854.775809", "9223372036854.8", "9223372036855", "-9223372036855", "0000009223372036855",
		// These come back to small numbers where a word wraps round.
		"18446744073709.551616", "18446744073709.551617", "-18446744073709.551616", "36893488147419.103233", "18446744073709551616", "18446744073709551617", "-18446744073709551617", "9223372036854775807", "9223372036854775808",
		"340282366920938463463374607431768211456", strings.Repeat("9", 64), "-" + strings.Repeat("9", 63), strings.Repeat("9", 57) + ".99999", "1" + strings.Repeat("0", 63),
	} {
		if got, e := decimal.Parse(s); got != (api.Num{}) || e != api.ErrRange {
			t.Errorf("Parse(%q) = %v, %d, want ErrRange", s, got, e)
		}
	}
}

func TestParseOfOtherTexts(t *testing.T) {
	for _, s := range []string{
		"", "+", "-", ".", "+.", "-.", "..", "...", "--1", "++1", "+-1", "-+1", "1-", "1+", "1-1", "- 1", "-1-",
		"1.2.3", "1..2", "..1", "1..", ".1.", "1.-2", "1.+2", ".-5", ".+5", "-.-5",
		" 1", "1 ", " ", "1 2", "\t1", "1\n", "1\r", "\v1", "1. 5", "1.5 ",
		"a", "e5", "1e3", "1E3", "1.e3", ".e3", "1.5e", "0x10", "0b1", "0o7", "x", "1_000", "1,5", "1,000", "1/2", "Inf", "+Inf", "-inf", "Infinity", "NaN", "nan", "None", "1f", "1p3", "0x1p3", "1i",
		"\x00", "1\x00", "\x001", "\xff", "1\xff", "1\x80", "\xb2", "1:", "1/", "/", ":",
		"\u0661", "1\u0662", "\uff11", "\u00bd", "\u00b2", "\u2212" + "1", "\u00a0" + "1", "1\u00b7" + "5", "\ufeff" + "1",
		strings.Repeat(" ", 64), strings.Repeat("-", 64), strings.Repeat(".", 64), strings.Repeat("\x00", 64),
	} {
		if got, e := decimal.Parse(s); got != (api.Num{}) || e != api.ErrNumber {
			t.Errorf("Parse(%q) = %v, %d, want ErrNumber", s, got, e)
		}
	}
}

func TestParseOfLongTexts(t *testing.T) {
	noughts := strings.Repeat("0", 62)
	checkParsed(t, []parseCase{
		{noughts + "01", 1000000}, {"-" + noughts + "1", -1000000}, {"+" + noughts + "5", 5000000}, {noughts + ".5", 500000}, {"7." + noughts, 7000000}, {"." + noughts + "9", 0}, {".0000005" + noughts[:56], 1},
	})
	for _, s := range []string{
		noughts + "001", "-" + noughts + "01", "+" + noughts + "05", noughts + "0.5", "7.0" + noughts, "." + noughts + "09", strings.Repeat("0", 1000), strings.Repeat("9", 1<<20),
	} {
		if got, e := decimal.Parse(s); got != (api.Num{}) || e != api.ErrLong {
			t.Errorf("Parse(%q) = %v, %d, want ErrLong", s[:min(len(s), 70)], got, e)
		}
	}
}

// The words of a call name length first, then form, then bounds.
func TestWhichRefusalComesFirst(t *testing.T) {
	nines := strings.Repeat("9", 63)
	for _, c := range []struct {
		text string
		want api.Errno
	}{
		{strings.Repeat("x", 65), api.ErrLong}, {nines + "99", api.ErrLong}, {nines + ".x", api.ErrLong}, {strings.Repeat(" ", 65), api.ErrLong}, {strings.Repeat("\xff", 66), api.ErrLong},
		{nines + "x", api.ErrNumber}, {"x" + nines, api.ErrNumber}, {nines + " ", api.ErrNumber}, {"--" + nines[:62], api.ErrNumber}, {nines[:60] + "..99", api.ErrNumber},
		{"9223372036854.7758080.", api.ErrNumber}, {"9223372036855e", api.ErrNumber}, {"1099511627777x", api.ErrNumber},
		{nines + "9", api.ErrRange},
	} {
		if got, e := decimal.Parse(c.text); got != (api.Num{}) || e != c.want {
			t.Errorf("Parse(%q) = %v, %d, want %d", c.text, got, e, c.want)
		}
		if got, e := decimal.Whole(c.text); got != 0 || e != c.want {
			t.Errorf("Whole(%q) = %d, %d, want %d", c.text, got, e, c.want)
		}
	}
}

// All texts of up to five bytes out of those that count, and of one that doesn't.
func TestSmallTexts(t *testing.T) {
	texts := []string{""}
	for range 5 {
		var longer []string
		for _, s := range texts {
			for _, b := range "+-.059e" {
				longer = append(longer, s+string(b))
			}
		}
		for _, s := range longer {
			checkSaid(t, s)
		}
		texts = longer
	}
}

// Each byte, alone, and at each place of a text.
func TestAllBytes(t *testing.T) {
	for b := range 256 {
		for _, s := range []string{"", "5", "12", "-12.5", ".5"} {
			for at := range len(s) + 1 {
				checkSaid(t, s[:at]+string([]byte{byte(b)})+s[at:])
			}
		}
	}
}

func TestRandomTexts(t *testing.T) {
	r := rand.New(rand.NewPCG(13, 14))
	for range 40000 {
		checkSaid(t, randomText(r))
	}
}

// randomText is most often a number's text, near the bounds or of any length, and at times one that isn't.
func randomText(r *rand.Rand) string {
	s := []string{"", "-", "+"}[r.IntN(3)] + strings.Repeat("0", r.IntN(3)*r.IntN(20))
	switch r.IntN(3) {
	case 0:
		s += "922337203685477580"[:r.IntN(19)]
	case 1:
		s += "1099511627776"[:r.IntN(14)]
	}
	s += randomDigits(r, r.IntN(20))
	if r.IntN(4) > 0 {
		s += "." + []string{"", "775807", "000000", "999999", "77580749"}[r.IntN(5)] + randomDigits(r, r.IntN(10)*r.IntN(4))
	}
	if r.IntN(8) == 0 {
		at := r.IntN(len(s) + 1)
		s = s[:at] + string("+-. e\x00x"[r.IntN(7)]) + s[at:]
	}
	return s
}

func randomDigits(r *rand.Rand, count int) string {
	b := make([]byte, count)
	for i := range b {
		b[i] = "0123456789"[r.IntN(10)]
	}
	return string(b)
}

func TestPrint(t *testing.T) {
	for _, c := range []struct {
		v    int64
		want string
	}{
		{0, "0"}, {1, "0.000001"}, {-1, "-0.000001"}, {9, "0.000009"}, {10, "0.00001"}, {100, "0.0001"}, {1000, "0.001"}, {10000, "0.01"}, {100000, "0.1"}, {-100000, "-0.1"}, {123456, "0.123456"}, {999999, "0.999999"}, {-999999, "-0.999999"},
		{1000000, "1"}, {-1000000, "-1"}, {1000001, "1.000001"}, {-1000010, "-1.00001"}, {1200000, "1.2"}, {-1200000, "-1.2"}, {5000000, "5"}, {1010100, "1.0101"}, {500000, "0.5"}, {-500000, "-0.5"},
		{10000000, "10"}, {-100000000, "-100"}, {1000000000000, "1000000"}, {10000000100, "10000.0001"}, {120340000, "120.34"},
		{most, "9223372036854.775807"}, {-most, "-9223372036854.775807"}, {9223372036854000000, "9223372036854"}, {-9223372036854700000, "-9223372036854.7"}, {math.MinInt64, "None"},
	} {
		if got := decimal.Print(n(c.v)); got != c.want {
			t.Errorf("Print(%d) = %q, want %q", c.v, got, c.want)
		}
	}
	for _, a := range append([]api.Num{null}, wrong...) {
		if got := decimal.Print(a); got != "None" {
			t.Errorf("Print(%v) = %q", a, got)
		}
	}
}

var printed = regexp.MustCompile(`^-?(0|[1-9][0-9]*)(\.[0-9]{0,5}[1-9])?$`)

// What is printed has no needless nought, and says just the number.
func TestPrintOfAll(t *testing.T) {
	for _, a := range numbers() {
		s := decimal.Print(a)
		if !printed.MatchString(s) || s == "-0" {
			t.Errorf("Print(%d) = %q", a.V, s)
		}
		exact, ok := new(big.Rat).SetString(s)
		if !ok || exact.Cmp(big.NewRat(a.V, api.One)) != 0 {
			t.Errorf("Print(%d) = %q, which says another number", a.V, s)
		}
	}
}

func TestWhole(t *testing.T) {
	for _, c := range []struct {
		text string
		want int
	}{
		{"0", 0}, {"1", 1}, {"9", 9}, {"10", 10}, {"00", 0}, {"0012", 12}, {"60", 60}, {"1099511627775", 1<<40 - 1}, {"1099511627776", 1 << 40}, {"0000001099511627776", 1 << 40},
		{strings.Repeat("0", 64), 0}, {strings.Repeat("0", 63) + "7", 7}, {strings.Repeat("0", 51) + "1099511627776", 1 << 40},
	} {
		if got, e := decimal.Whole(c.text); got != c.want || e != api.OK {
			t.Errorf("Whole(%q) = %d, %d, want %d", c.text, got, e, c.want)
		}
	}
	for _, c := range []struct {
		want  api.Errno
		texts []string
	}{
		{api.ErrNumber, []string{"", "-1", "+1", "-", "+", "-0", "+0", ".", "1.0", "1.", ".1", " 1", "1 ", " ", "1 2", "\n1", "a", "1a", "1e3", "0x1", "1_0", "None", "1,2", "/", ":", "1/", "1:", "\x00", "1\xff", "\u0661", "-99999999999999999999"}},
		{api.ErrRange, []string{"1099511627777", "1099511627778", "0001099511627777", "2199023255552", "9223372036854775807", "9223372036854775808", "18446744073709551615", "18446744073709551616", "18446744073709551617", "18446744073709551676", "340282366920938463463374607431768211457", strings.Repeat("9", 64), "1" + strings.Repeat("0", 63), strings.Repeat("0", 51) + "1099511627777"}},
		{api.ErrLong, []string{strings.Repeat("0", 65), strings.Repeat("9", 65), "-" + strings.Repeat("1", 64), strings.Repeat("0", 52) + "1099511627776", strings.Repeat("x", 65), strings.Repeat("1", 1<<20)}},
	} {
		for _, s := range c.texts {
			if got, e := decimal.Whole(s); got != 0 || e != c.want {
				t.Errorf("Whole(%q) = %d, %d, want %d", s[:min(len(s), 70)], got, e, c.want)
			}
		}
	}
}

func TestJoin(t *testing.T) {
	for _, c := range []struct {
		list []api.Num
		want string
	}{
		{nil, ""}, {[]api.Num{}, ""}, {[]api.Num{n(0)}, "0"}, {[]api.Num{n(-1200000)}, "-1.2"}, {[]api.Num{null}, "None"}, {[]api.Num{{}}, "0"},
		{[]api.Num{null, n(500000), {Null: true, V: 3}}, "None,0.5,None"}, {[]api.Num{n(1000000), n(-1), n(math.MinInt64), n(most), n(0)}, "1,-0.000001,None,9223372036854.775807,0"}, {[]api.Num{null, null}, "None,None"},
	} {
		if got := decimal.Join(c.list); got != c.want {
			t.Errorf("Join(%v) = %q, want %q", c.list, got, c.want)
		}
	}
	list := append(numbers(), wrong...)
	parts := strings.Split(decimal.Join(list), ",")
	if len(parts) != len(list) {
		t.Fatalf("Join of %d numbers has %d parts", len(list), len(parts))
	}
	for i, part := range parts {
		if part != decimal.Print(list[i]) {
			t.Errorf("Join at %d: %q, want %q", i, part, decimal.Print(list[i]))
		}
	}
}

// What is printed is parsed as it was.
func TestPrintedAndParsed(t *testing.T) {
	for _, a := range numbers() {
		if back, e := decimal.Parse(decimal.Print(a)); back != a || e != api.OK {
			t.Errorf("%d is printed as %q and parsed as %v, %d", a.V, decimal.Print(a), back, e)
		}
	}
	for _, v := range []int{0, 1, 59, 60, 86400, 1<<40 - 1, 1 << 40} {
		if back, e := decimal.Whole(strconv.Itoa(v)); back != v || e != api.OK {
			t.Errorf("Whole of %d is %d, %d", v, back, e)
		}
	}
	// Nothing is no number's text, so it is told, but not taken.
	if back, e := decimal.Parse(decimal.Print(null)); back != (api.Num{}) || e != api.ErrNumber {
		t.Errorf("nothing is parsed as %v, %d", back, e)
	}
}

// What is parsed, and printed, is parsed as that again.
func TestParsedAndPrinted(t *testing.T) {
	r := rand.New(rand.NewPCG(15, 16))
	good := 0
	for range 40000 {
		s := randomText(r)
		a, e := decimal.Parse(s)
		if e != api.OK {
			continue
		}
		good++
		if back, e := decimal.Parse(decimal.Print(a)); back != a || e != api.OK {
			t.Errorf("%q is %d, printed %q, and that is %v, %d", s, a.V, decimal.Print(a), back, e)
		}
	}
	if good < 1000 {
		t.Errorf("only %d texts were parsed", good)
	}
}

// A list that is handed in is not changed, its spare room neither, nor does an answer hang on it later.
func TestJoinLeavesItsListAlone(t *testing.T) {
	room := []api.Num{n(1500000), null, {Null: true, V: 7}, n(math.MinInt64), n(-1), n(42), n(43)}
	before := slices.Clone(room)
	got := decimal.Join(room[:5])
	if !slices.Equal(room, before) {
		t.Errorf("Join changed its list to %v", room)
	}
	clear(room)
	if got != "1.5,None,None,None,-0.000001" {
		t.Errorf("Join = %q", got)
	}
}

// answers is what the calls answer to a text.
type answers struct {
	number        api.Num
	numberE       api.Errno
	whole         int
	wholeE        api.Errno
	print, joined string
}

func ask(s string) answers {
	var a answers
	a.number, a.numberE = decimal.Parse(s)
	a.whole, a.wholeE = decimal.Whole(s)
	a.print = decimal.Print(a.number)
	a.joined = decimal.Join([]api.Num{a.number, null, a.number})
	return a
}

// A call hangs on its arguments alone: what was asked before doesn't count.
func TestNothingIsKept(t *testing.T) {
	r := rand.New(rand.NewPCG(17, 18))
	first := map[string]answers{}
	var texts []string
	for range 3000 {
		s := randomText(r)
		texts = append(texts, s)
		first[s] = ask(s)
	}
	for i := len(texts) - 1; i >= 0; i-- {
		if again := ask(texts[i]); again != first[texts[i]] {
			t.Errorf("%q: another answer than before: %v", texts[i], again)
		}
	}
}
