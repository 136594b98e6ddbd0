package floats_test

import (
	"math"
	"math/big"
	"math/rand/v2"
	"slices"
	"testing"

	"isobar/api"
	"isobar/floats"
)

const most = math.MaxInt64

var (
	null       = api.Num{Null: true}
	negative   = math.Copysign(0, -1)
	leastBit   = math.Float64frombits(1)
	lastTiny   = math.Float64frombits(1<<52 - 1) // the greatest one without the leading bit
	firstWhole = math.Float64frombits(1 << 52)   // the least one with it
	bound      = 9223372036854.775390625         // the greatest float within 2^63 - 1 millionths
)

// wrong are numbers that aren't right, the kinds of them that there are.
var wrong = []api.Num{
	{Null: true, V: 1}, {Null: true, V: -1}, {Null: true, V: api.One}, {Null: true, V: most}, {Null: true, V: math.MinInt64},
	{V: math.MinInt64},
}

// nans are NaNs with different bits: quiet and signalling ones, on both sides.
var nans = []uint64{
	0x7ff8000000000001, 0x7ff8000000000000, 0x7ff0000000000001, 0x7fffffffffffffff,
	0xfff8000000000000, 0xfff0000000000001, 0xffffffffffffffff, 0xfff8123456789abc,
}

func n(v int64) api.Num { return api.Num{V: v} }

func nan(i int) float64 { return math.Float64frombits(nans[i]) }

// about is a float and its neighbours.
func about(f float64) []float64 {
	return []float64{math.Nextafter(f, math.Inf(-1)), f, math.Nextafter(f, math.Inf(1))}
}

// positive are floats above zero about which kinds, halves of a millionth and bounds change.
func positive() []float64 {
	list := []float64{
		leastBit, 2 * leastBit, 1e-320, lastTiny, firstWhole, 1e-300, 1e-40, 1e-10, 4e-7, 1e-6, 0.1, 0.5, 1, 1.5, 123.456789,
		math.MaxFloat64, math.MaxFloat64 / 2, 1e300, 1e20, 1e19, 1e18, 9e12, math.Ldexp(1, 1023), math.Pi, math.E,
	}
	for _, f := range []float64{5e-7, 1.5e-6, 2.5e-6, 1e-6, 0.9999995, 1.0000005, 123456.7890125, 9007199254.7409925, bound} {
		list = append(list, about(f)...)
	}
	// A half of a millionth that a float says whole is an odd number of 128ths.
	for i := 1; i < 2000; i += 2 {
		list = append(list, about(float64(i)/128)...)
	}
	for exponent := -1073; exponent < 1024; exponent++ {
		list = append(list, math.Ldexp(1, exponent), math.Ldexp(1.5, exponent), math.Nextafter(math.Ldexp(1, exponent), 0))
	}
	return list
}

// finite are floats on both sides of zero, zeros of both signs, and some of all lengths by a fixed seed.
func finite() []float64 {
	list := positive()
	r := rand.New(rand.NewPCG(41, 42))
	for range 20000 {
		list = append(list, math.Ldexp(r.Float64(), r.IntN(100)-50))
		list = append(list, math.Float64frombits(r.Uint64N(0x7ff0000000000000)))
		list = append(list, (float64(r.IntN(2000000))+0.5)/1e6)
	}
	for _, f := range list[:len(list):len(list)] {
		list = append(list, -f)
	}
	list = append(list, 0, negative)
	return slices.DeleteFunc(list, func(f float64) bool { return math.IsInf(f, 0) })
}

// said is the number that From has to answer of a float that is neither NaN nor an infinity, reckoned in fractions of any length.
func said(f float64) (api.Num, api.Errno) {
	exact := new(big.Rat).SetFloat64(math.Abs(f))
	exact.Mul(exact, big.NewRat(api.One, 1)).Add(exact, big.NewRat(1, 2))
	v := new(big.Int).Quo(exact.Num(), exact.Denom())
	if v.Cmp(big.NewInt(most)) > 0 {
		return api.Num{}, api.ErrRange
	}
	if f < 0 {
		v.Neg(v)
	}
	return n(v.Int64()), api.OK
}

func TestKind(t *testing.T) {
	for i := range nans {
		if got := floats.Kind(nan(i)); got != 0 {
			t.Errorf("Kind of NaN %x = %d, want 0", nans[i], got)
		}
	}
	for _, c := range []struct {
		f    float64
		want int
	}{
		{math.NaN(), 0}, {math.Inf(-1), 1}, {math.Inf(1), 6}, {negative, 3}, {0, 4},
		{-math.MaxFloat64, 2}, {-1, 2}, {-firstWhole, 2}, {-lastTiny, 2}, {-leastBit, 2},
		{math.MaxFloat64, 5}, {1, 5}, {firstWhole, 5}, {lastTiny, 5}, {leastBit, 5},
	} {
		if got := floats.Kind(c.f); got != c.want {
			t.Errorf("Kind(%g) = %d, want %d", c.f, got, c.want)
		}
	}
	for _, f := range positive() {
		if up, down := floats.Kind(f), floats.Kind(-f); up != 5 || down != 2 {
			t.Errorf("Kind of %g and below zero = %d and %d, want 5 and 2", f, up, down)
		}
	}
}

func TestFrom(t *testing.T) {
	for _, c := range []struct {
		f    float64
		want api.Num
		e    api.Errno
	}{
		{0, n(0), api.OK}, {negative, n(0), api.OK},
		{0.1, n(100000), api.OK}, {-0.1, n(-100000), api.OK}, {1, n(1000000), api.OK}, {123.456789, n(123456789), api.OK},
		{leastBit, n(0), api.OK}, {-leastBit, n(0), api.OK}, {lastTiny, n(0), api.OK}, {-lastTiny, n(0), api.OK},
		{firstWhole, n(0), api.OK}, {4e-7, n(0), api.OK}, {-4e-7, n(0), api.OK}, {6e-7, n(1), api.OK}, {-6e-7, n(-1), api.OK},
		{1.0 / 128, n(7813), api.OK}, {-1.0 / 128, n(-7813), api.OK}, {3.0 / 128, n(23438), api.OK}, {-3.0 / 128, n(-23438), api.OK},
		{math.Nextafter(1.0/128, 0), n(7812), api.OK}, {math.Nextafter(-1.0/128, 0), n(-7812), api.OK},
		{math.Nextafter(1.0/128, 1), n(7813), api.OK}, {math.Nextafter(-1.0/128, -1), n(-7813), api.OK},
		{bound, n(9223372036854775391), api.OK}, {-bound, n(-9223372036854775391), api.OK},
		{math.Nextafter(bound, 1e300), n(0), api.ErrRange}, {-math.Nextafter(bound, 1e300), n(0), api.ErrRange},
		{9223372036854.775807, n(9223372036854775391), api.OK}, {9223372036855, n(0), api.ErrRange},
		{1e13, n(0), api.ErrRange}, {18446744073709, n(0), api.ErrRange}, {18446744073710, n(0), api.ErrRange}, {-1e13, n(0), api.ErrRange},
		{math.Ldexp(1, 44), n(0), api.ErrRange}, {math.Ldexp(1, 64), n(0), api.ErrRange}, {math.Ldexp(1, 128), n(0), api.ErrRange},
		{1e300, n(0), api.ErrRange}, {math.MaxFloat64, n(0), api.ErrRange}, {-math.MaxFloat64, n(0), api.ErrRange},
		{math.Inf(1), n(0), api.ErrRange}, {math.Inf(-1), n(0), api.ErrRange},
	} {
		if got, e := floats.From(c.f); got != c.want || e != c.e {
			t.Errorf("From(%g) = %v, %v, want %v, %v", c.f, got, e, c.want, c.e)
		}
	}
	for i := range nans {
		if got, e := floats.From(nan(i)); got != null || e != api.OK {
			t.Errorf("From of NaN %x = %v, %v, want nothing", nans[i], got, e)
		}
	}
	for _, f := range finite() {
		want, wantE := said(f)
		if got, e := floats.From(f); got != want || e != wantE {
			t.Errorf("From(%b) = %v, %v, want %v, %v", f, got, e, want, wantE)
		}
	}
}

// counts are millionths, none below 0: the edges, those about halves between two floats, and some of all lengths by a fixed seed.
func counts() []int64 {
	list := []int64{0, 1, 2, 3, 9, 10, 499999, 500000, 500001, 999999, 1000000, 1000001, most - 2, most - 1, most}
	for _, v := range []int64{1 << 50, 1 << 51, 1 << 52, 1 << 53, 3 << 52, 1 << 54, 1 << 55, 1 << 60, 1 << 62, 1 << 53 * 1000} {
		for d := int64(-20); d <= 20; d++ {
			list = append(list, v+d)
		}
	}
	r := rand.New(rand.NewPCG(43, 44))
	for range 20000 {
		v := r.Int64() >> r.IntN(63)
		list = append(list, v)
		list = append(list, middle(v)...)
	}
	return append(list, middle(most)...)
}

// middle are the millionths that lie on both sides of the half between a float near to v millionths and its lesser neighbour.
// (None lies there to the millionth: below 2^63 the half is of 1024ths at least, and a millionth is no 64th of one.)
func middle(v int64) []int64 {
	f := float64(v) / api.One
	half := new(big.Rat).SetFloat64(f)
	half.Add(half, new(big.Rat).SetFloat64(math.Nextafter(f, 0)))
	half.Mul(half, big.NewRat(api.One/2, 1))
	low := new(big.Int).Quo(half.Num(), half.Denom())
	if !low.IsInt64() || low.Int64() == most {
		return nil
	}
	return []int64{low.Int64(), low.Int64() + 1}
}

// same: are they one to the bit?
func same(a, b float64) bool { return math.Float64bits(a) == math.Float64bits(b) }

func TestTo(t *testing.T) {
	for _, c := range []struct {
		v    int64
		want float64
	}{
		{0, 0}, {1, 0.000001}, {-1, -0.000001}, {100000, 0.1}, {1000000, 1}, {-1500000, -1.5}, {123456789, 123.456789},
		{1 << 51, 2251799813.685248}, {1<<53 + 1, 9007199254.740993}, {-1<<53 - 1, -9007199254.740993},
		{most, bound}, {-most, -bound}, {most - 1, bound},
	} {
		if got := floats.To(n(c.v)); !same(got, c.want) {
			t.Errorf("To(%d) = %b, want %b", c.v, got, c.want)
		}
	}
	for _, a := range append(slices.Clone(wrong), null) {
		if got := floats.To(a); !math.IsNaN(got) {
			t.Errorf("To(%v) = %g, want NaN", a, got)
		}
	}
	for _, v := range counts() {
		want, _ := big.NewRat(v, api.One).Float64()
		if got := floats.To(n(v)); !same(got, want) {
			t.Errorf("To(%d) = %b, want %b", v, got, want)
		}
		if got := floats.To(n(-v)); v != 0 && !same(got, -want) {
			t.Errorf("To(%d) = %b, want %b", -v, got, -want)
		}
	}
}

// TestThereAndBack: up to 2^51 millionths a number is as it was; beyond, it is off by half of what lies between two floats.
func TestThereAndBack(t *testing.T) {
	check := func(v int64) {
		got, e := floats.From(floats.To(n(v)))
		slack := int64(0)
		if v > 1<<51 || v < -1<<51 {
			slack = 977 // half of 1/512, the most that two floats are apart here, in millionths
		}
		off := got.V - v
		if e != api.OK || got.Null || off < -slack || off > slack {
			t.Errorf("From(To(%d)) = %v, %v", v, got, e)
		}
	}
	for _, v := range counts() {
		check(v)
		check(-v)
	}
	for v := int64(0); v <= 20000; v++ {
		check(v)
		check(-v)
		check(1<<51 - v)
		check(v - 1<<51)
	}
	if got, e := floats.From(floats.To(null)); got != null || e != api.OK {
		t.Errorf("nothing comes back as %v, %v", got, e)
	}
}

func TestToRises(t *testing.T) {
	var list []int64
	for _, v := range counts() {
		list = append(list, v, -v)
	}
	slices.Sort(list)
	for i := 1; i < len(list); i++ {
		if low, high := floats.To(n(list[i-1])), floats.To(n(list[i])); low > high {
			t.Errorf("To(%d) = %b is above To(%d) = %b", list[i-1], low, list[i], high)
		}
	}
}

// row is floats of all kinds in their order; those of one entry are one.
func row() [][]float64 {
	var all []float64
	for i := range nans {
		all = append(all, nan(i))
	}
	list := [][]float64{all}
	for _, f := range []float64{
		math.Inf(-1), -math.MaxFloat64, -1e300, -bound, -2, math.Nextafter(-1, -2), -1, math.Nextafter(-1, 0), -1e-6, -firstWhole, -lastTiny, -2 * leastBit, -leastBit,
		negative, 0,
		leastBit, 2 * leastBit, lastTiny, firstWhole, 1e-6, math.Nextafter(1, 0), 1, math.Nextafter(1, 2), 2, bound, 1e300, math.MaxFloat64, math.Inf(1),
	} {
		list = append(list, []float64{f})
	}
	return list
}

func sign(i int) int {
	switch {
	case i < 0:
		return -1
	case i > 0:
		return 1
	}
	return 0
}

func TestCmp(t *testing.T) {
	list := row()
	for i, as := range list {
		for k, bs := range list {
			for _, a := range as {
				for _, b := range bs {
					if got := floats.Cmp(a, b); got != sign(i-k) {
						t.Errorf("Cmp(%g, %g) = %d, want %d", a, b, got, sign(i-k))
					}
				}
			}
		}
	}
}

// TestCmpOrders: each two are held each way round, and no three go in a circle.
func TestCmpOrders(t *testing.T) {
	r := rand.New(rand.NewPCG(45, 46))
	list := []float64{nan(0), nan(5), math.Inf(1), math.Inf(-1), 0, negative, leastBit, -leastBit}
	for range 40 {
		list = append(list, math.Float64frombits(r.Uint64()))
	}
	for _, a := range list {
		for _, b := range list {
			ab := floats.Cmp(a, b)
			if ab != -floats.Cmp(b, a) {
				t.Errorf("Cmp(%g, %g) and back differ", a, b)
			}
			for _, c := range list {
				if ab <= 0 && floats.Cmp(b, c) <= 0 && floats.Cmp(a, c) > 0 {
					t.Errorf("%g, %g and %g go in a circle", a, b, c)
				}
			}
		}
	}
}

// bitsOf is a list's bits, told without the program.
func bitsOf(l []float64) []uint64 {
	var words []uint64
	for _, f := range l {
		words = append(words, math.Float64bits(f))
	}
	return words
}

// place is where a float's like stands in the row's order, as a number that rises with it: NaNs are all at 0.
func place(f float64) uint64 {
	word := math.Float64bits(f)
	switch {
	case math.IsNaN(f):
		return 0
	case word>>63 == 1:
		return ^word
	}
	return word | 1<<63
}

// inOrder is a list sorted by insertion, which leaves in their order those that are one.
func inOrder(l []float64) []uint64 {
	var sorted []float64
	for _, f := range l {
		at := len(sorted)
		for at > 0 && place(sorted[at-1]) > place(f) {
			at--
		}
		sorted = slices.Insert(sorted, at, f)
	}
	return bitsOf(sorted)
}

func lists() [][]float64 {
	var all []float64
	for _, fs := range row() {
		all = append(all, fs...)
	}
	back := slices.Clone(all)
	slices.Reverse(back)
	list := [][]float64{
		nil, {}, {1}, {nan(3)}, {negative}, {1, math.NaN(), 0, negative}, {0, negative, 0, negative, negative, 0}, {2, 1}, {1, 1, 1},
		{nan(1), 1, nan(0), -1, nan(4), nan(2)}, {math.Inf(1), math.Inf(-1)}, all, back,
	}
	r := rand.New(rand.NewPCG(47, 48))
	for length := range 60 {
		var l []float64
		for range length * 3 {
			l = append(l, all[r.IntN(len(all))])
		}
		list = append(list, l)
	}
	return list
}

func TestSorted(t *testing.T) {
	for _, l := range lists() {
		before := bitsOf(l)
		got := floats.Sorted(l)
		if want := inOrder(l); !slices.Equal(bitsOf(got), want) {
			t.Errorf("Sorted(%v) = %x, want %x", l, bitsOf(got), want)
		}
		if !slices.Equal(bitsOf(l), before) {
			t.Errorf("Sorted changed its list to %v", l)
		}
		for i := 1; i < len(got); i++ {
			if floats.Cmp(got[i-1], got[i]) > 0 {
				t.Errorf("Sorted(%v) falls at %d", l, i)
			}
		}
	}
}

func TestBits(t *testing.T) {
	for _, l := range lists() {
		if got := floats.Bits(l); !slices.Equal(got, bitsOf(l)) {
			t.Errorf("Bits(%v) = %x", l, got)
		}
	}
	want := []uint64{0x3ff0000000000000, 0, 1 << 63, 1, 0x7ff0000000000000, 0xfff0000000000000, 0x7ff0000000000001}
	if got := floats.Bits([]float64{1, 0, negative, leastBit, math.Inf(1), math.Inf(-1), nan(2)}); !slices.Equal(got, want) {
		t.Errorf("Bits = %x, want %x", got, want)
	}
}

// TestNewMemory: an answer shares nothing with the list, and the list's spare room is left alone.
func TestNewMemory(t *testing.T) {
	room := []float64{3, 2, 1, 7, 8, 9}
	got := floats.Sorted(room[:3])
	got[0] = 100
	_ = append(got, 55, 56, 57)
	floats.Bits(room[:3])
	if !slices.Equal(room, []float64{3, 2, 1, 7, 8, 9}) {
		t.Errorf("the list became %v", room)
	}
	one := floats.Sorted([]float64{4})
	floats.Sorted([]float64{5})
	if one[0] != 4 {
		t.Error("a later call changed an earlier answer")
	}
	row := []float64{4}
	kept := floats.Sorted(row)
	row[0] = 6
	if kept[0] != 4 {
		t.Error("an answer shares memory with its list")
	}
}
