package fixed_test

import (
	"math"
	"math/big"
	"math/rand/v2"
	"testing"

	"isobar/api"
	"isobar/fixed"
)

const most = math.MaxInt64

var null = api.Num{Null: true}

// wrong are numbers that aren't right, the kinds of them that there are.
var wrong = []api.Num{
	{Null: true, V: 1}, {Null: true, V: -1}, {Null: true, V: api.One}, {Null: true, V: most}, {Null: true, V: math.MinInt64},
	{V: math.MinInt64},
}

// edges are millionths about which signs, halves, decimals and bounds change.
var edges = []int64{
	0, 1, 2, 3, 4, 5, 9, 10, 49, 50, 51, 499, 500, 501,
	499999, 500000, 500001, 999999, 1000000, 1000001, 1499999, 1500000, 1500001, 2000000, 3000000,
	1000000000000, 3037000499, 3037000500, 3037000499976, 9223372036854000000, 9223372036854499999, 9223372036854500000,
	most / 3, most/2 - 1, most / 2, most/2 + 1, most - 1, most,
}

func n(v int64) api.Num { return api.Num{V: v} }

// numbers are right numbers: the edges on both sides of zero, some of all lengths by a fixed seed, and nothing.
func numbers() []api.Num {
	list := []api.Num{null}
	for _, v := range edges {
		list = append(list, n(v), n(-v))
	}
	r := rand.New(rand.NewPCG(5, 6))
	for range 40 {
		v := r.Int64() >> r.IntN(63)
		list = append(list, n(v), n(-v))
	}
	return list
}

// all are numbers, right and wrong.
func all() []api.Num { return append(numbers(), wrong...) }

func missing(a api.Num) bool { return a.Null || a.V == math.MinInt64 }

// told is the number that is so many millionths, or nothing where they are beyond what can be told.
func told(v *big.Int) api.Num {
	if new(big.Int).Abs(v).Cmp(big.NewInt(most)) > 0 {
		return null
	}
	return n(v.Int64())
}

// rounded is a quotient to the nearest whole number, a half away from zero.
func rounded(v, d *big.Int) *big.Int {
	sign := v.Sign() * d.Sign()
	twice := new(big.Int).Lsh(new(big.Int).Abs(v), 1)
	size := new(big.Int).Abs(d)
	twice.Add(twice, size).Quo(twice, size.Lsh(size, 1))
	return twice.Mul(twice, big.NewInt(int64(sign)))
}

func one() *big.Int { return big.NewInt(api.One) }

func exactMul(a, b *big.Int) *big.Int { return rounded(new(big.Int).Mul(a, b), one()) }

func exactDiv(a, b *big.Int) *big.Int {
	if b.Sign() == 0 {
		return nil
	}
	return rounded(new(big.Int).Mul(a, one()), b)
}

func exactAdd(a, b *big.Int) *big.Int { return new(big.Int).Add(a, b) }

func exactSub(a, b *big.Int) *big.Int { return new(big.Int).Sub(a, b) }

// of is what a reckoning of two numbers has to answer; an exact one of nil can't be told.
func of(exact func(a, b *big.Int) *big.Int, a, b api.Num) api.Num {
	if missing(a) || missing(b) {
		return null
	}
	v := exact(big.NewInt(a.V), big.NewInt(b.V))
	if v == nil {
		return null
	}
	return told(v)
}

type twoCase struct{ a, b, want api.Num }

// checkTwo holds a reckoning of two numbers to the cases, and to the exact one over all pairs.
func checkTwo(t *testing.T, name string, call func(a, b api.Num) api.Num, exact func(a, b *big.Int) *big.Int, cases []twoCase) {
	t.Helper()
	for _, c := range cases {
		if got := call(c.a, c.b); got != c.want {
			t.Errorf("%s(%v, %v) = %v, want %v", name, c.a, c.b, got, c.want)
		}
	}
	for _, a := range all() {
		for _, b := range all() {
			if got, want := call(a, b), of(exact, a, b); got != want {
				t.Errorf("%s(%v, %v) = %v, want %v", name, a, b, got, want)
			}
		}
	}
}

func TestRight(t *testing.T) {
	for _, a := range numbers() {
		if !fixed.Right(a) {
			t.Errorf("Right(%v) is false", a)
		}
	}
	for _, a := range append(wrong, api.Num{Null: true, V: -most}) {
		if fixed.Right(a) {
			t.Errorf("Right(%v) is true", a)
		}
	}
}

func TestOf(t *testing.T) {
	for _, v := range []int64{0, 1, -1, api.One, -api.One, most, -most, -most + 1} {
		if got := fixed.Of(v); got != n(v) {
			t.Errorf("Of(%d) = %v", v, got)
		}
	}
	if got := fixed.Of(math.MinInt64); got != null {
		t.Errorf("Of(-2^63) = %v", got)
	}
}

func TestInt(t *testing.T) {
	for _, c := range []struct {
		n    int
		want api.Num
	}{
		{0, n(0)}, {1, n(1000000)}, {-1, n(-1000000)}, {42, n(42000000)},
		{9223372036854, n(9223372036854000000)}, {-9223372036854, n(-9223372036854000000)},
		{9223372036855, null}, {-9223372036855, null},
		// These come back to small numbers where the product wraps round.
		{18446744073709, null}, {18446744073710, null}, {-18446744073710, null}, {1 << 58, null}, {-1 << 58, null},
		{math.MaxInt, null}, {math.MinInt, null}, {math.MinInt + 1, null},
	} {
		if got := fixed.Int(c.n); got != c.want {
			t.Errorf("Int(%d) = %v, want %v", c.n, got, c.want)
		}
	}
	for _, a := range numbers() {
		want := told(new(big.Int).Mul(big.NewInt(a.V), one()))
		if got := fixed.Int(int(a.V)); got != want {
			t.Errorf("Int(%d) = %v, want %v", a.V, got, want)
		}
	}
}

func TestAdd(t *testing.T) {
	checkTwo(t, "Add", fixed.Add, exactAdd, []twoCase{
		{n(0), n(0), n(0)}, {n(5), n(7), n(12)}, {n(5), n(-7), n(-2)},
		{n(most), n(0), n(most)}, {n(-most), n(0), n(-most)}, {n(most - 1), n(1), n(most)}, {n(-most + 1), n(-1), n(-most)},
		{n(most), n(1), null}, {n(-most), n(-1), null}, {n(most), n(most), null}, {n(-most), n(-most), null}, {n(most), n(-most), n(0)},
		{null, n(1), null}, {n(1), null, null}, {null, null, null}, {n(math.MinInt64), n(1), null}, {api.Num{Null: true, V: 3}, n(1), null},
	})
}

func TestSub(t *testing.T) {
	checkTwo(t, "Sub", fixed.Sub, exactSub, []twoCase{
		{n(0), n(0), n(0)}, {n(5), n(7), n(-2)}, {n(7), n(5), n(2)}, {n(5), n(-7), n(12)},
		{n(0), n(most), n(-most)}, {n(0), n(-most), n(most)}, {n(-1), n(most), null}, {n(1), n(-most), null},
		{n(most), n(most), n(0)}, {n(-most), n(-most), n(0)}, {n(most), n(-1), null}, {n(-most), n(1), null},
		{null, n(1), null}, {n(1), null, null}, {n(-1), n(math.MinInt64), null}, {n(1), api.Num{Null: true, V: 1}, null},
	})
}

func TestNegAndAbs(t *testing.T) {
	for _, v := range edges {
		for _, c := range []struct{ name, got, want any }{
			{"Neg", fixed.Neg(n(v)), n(-v)}, {"Neg of below", fixed.Neg(n(-v)), n(v)},
			{"Abs", fixed.Abs(n(v)), n(v)}, {"Abs of below", fixed.Abs(n(-v)), n(v)},
		} {
			if c.got != c.want {
				t.Errorf("%v %d = %v, want %v", c.name, v, c.got, c.want)
			}
		}
	}
	for _, a := range append([]api.Num{null}, wrong...) {
		if neg, abs := fixed.Neg(a), fixed.Abs(a); neg != null || abs != null {
			t.Errorf("Neg, Abs of %v = %v, %v", a, neg, abs)
		}
	}
}

func TestMul(t *testing.T) {
	checkTwo(t, "Mul", fixed.Mul, exactMul, []twoCase{
		{n(0), n(-5), n(0)}, {n(2000000), n(3000000), n(6000000)}, {n(-2000000), n(3000000), n(-6000000)}, {n(-2000000), n(-3000000), n(6000000)},
		// Halves of a millionth, and what lies on both sides of them.
		{n(3), n(500000), n(2)}, {n(-3), n(500000), n(-2)}, {n(3), n(-500000), n(-2)}, {n(-3), n(-500000), n(2)}, {n(5), n(500000), n(3)}, {n(-5), n(500000), n(-3)},
		{n(1), n(500000), n(1)}, {n(-1), n(500000), n(-1)}, {n(1), n(499999), n(0)}, {n(-1), n(499999), n(0)}, {n(1), n(500001), n(1)}, {n(-1), n(500001), n(-1)},
		// What can still be told, and what can't.
		{n(most), n(1000000), n(most)}, {n(most), n(-1000000), n(-most)}, {n(-most), n(-1000000), n(most)},
		{n(most), n(1000001), null}, {n(most), n(-1000001), null}, {n(most), n(most), null}, {n(-most), n(most), null},
		{n(most / 3 * 2), n(1499999), n(9223365887940084569)}, {n(6148914691236517204), n(1500000), n(most - 1)}, {n(6148914691236517205), n(1500000), null}, {n(-6148914691236517205), n(1500000), null},
		{n(1 << 62), n(2000000), null}, {n(-1 << 62), n(2000000), null}, {n(1<<62 - 1), n(2000000), n(most - 1)},
		// A product of 2^64 millionths and some, which comes back to a small one where the upper bits are lost.
		{n(1 << 42), n(api.One << 22), null}, {n(1<<42 + 1), n(api.One << 22), null},
		{null, n(0), null}, {n(0), null, null}, {n(math.MinInt64), n(0), null}, {n(0), api.Num{Null: true, V: 1}, null},
	})
}

func TestDiv(t *testing.T) {
	checkTwo(t, "Div", fixed.Div, exactDiv, []twoCase{
		{n(0), n(5), n(0)}, {n(0), n(-5), n(0)}, {n(6000000), n(2000000), n(3000000)}, {n(-6000000), n(-2000000), n(3000000)},
		{n(-1000000), n(3000000), n(-333333)}, {n(1000000), n(-3000000), n(-333333)}, {n(2000000), n(3000000), n(666667)}, {n(-2000000), n(3000000), n(-666667)},
		{n(1), n(2000000), n(1)}, {n(-1), n(2000000), n(-1)}, {n(3), n(2000000), n(2)}, {n(5), n(2000000), n(3)}, {n(3), n(-2000000), n(-2)}, {n(1), n(2000001), n(0)}, {n(-1), n(2000001), n(0)}, {n(1), n(1999999), n(1)},
		{n(1), n(0), null}, {n(-1), n(0), null}, {n(0), n(0), null}, {n(most), n(0), null}, {null, n(0), null},
		{n(most), n(1000000), n(most)}, {n(most), n(-1000000), n(-most)}, {n(most), n(999999), null}, {n(-most), n(999999), null}, {n(most), n(1), null}, {n(-most), n(1), null},
		{n(9223372036854), n(1), n(9223372036854000000)}, {n(9223372036855), n(1), null}, {n(-9223372036855), n(1), null}, {n(1 << 62), n(500000), null}, {n(-1 << 62), n(500000), null},
		{n(most), n(most), n(1000000)}, {n(1), n(most), n(0)}, {n(most), n(-most), n(-1000000)},
		{null, n(1), null}, {n(1), null, null}, {n(1), n(math.MinInt64), null}, {n(math.MinInt64), n(1000000), null}, {n(1), api.Num{Null: true, V: 1}, null},
	})
}

// Just before the bound a product or a quotient is told, just behind it it is nothing: where the half lies decides.
func TestRoundedAtTheBound(t *testing.T) {
	r := rand.New(rand.NewPCG(7, 8))
	// Twice the bound with its half.
	bound := new(big.Int).SetUint64(math.MaxUint64)
	for range 4000 {
		by := r.Int64N(most)>>r.IntN(43) + api.One
		near := new(big.Int).Mul(bound, one())
		checkAround(t, near.Quo(near, big.NewInt(by)).Rsh(near, 1), by, fixed.Mul, exactMul)
	}
	for range 4000 {
		by := r.Int64N(api.One) + 1
		near := new(big.Int).Mul(bound, big.NewInt(by))
		checkAround(t, near.Quo(near, one()).Rsh(near, 1), by, fixed.Div, exactDiv)
	}
}

func checkAround(t *testing.T, near *big.Int, by int64, call func(a, b api.Num) api.Num, exact func(a, b *big.Int) *big.Int) {
	t.Helper()
	for step := int64(-1); step <= 2; step++ {
		v := new(big.Int).Add(near, big.NewInt(step))
		if !v.IsInt64() {
			continue
		}
		for _, a := range []api.Num{n(v.Int64()), n(-v.Int64())} {
			if got, want := call(a, n(by)), of(exact, a, n(by)); got != want {
				t.Errorf("%v and %d: %v, want %v", a, by, got, want)
			}
		}
	}
}

func TestRoot(t *testing.T) {
	for _, c := range []struct{ a, want api.Num }{
		{n(0), n(0)}, {n(1), n(1000)}, {n(2), n(1414)}, {n(1000000), n(1000000)}, {n(2000000), n(1414213)}, {n(4000000), n(2000000)}, {n(3999999), n(1999999)},
		{n(most), n(3037000499976)}, {n(most - 1), n(3037000499976)},
		{n(-1), null}, {n(-1000000), null}, {n(-most), null}, {null, null}, {n(math.MinInt64), null}, {api.Num{Null: true, V: 4}, null},
	} {
		if got := fixed.Root(c.a); got != c.want {
			t.Errorf("Root(%v) = %v, want %v", c.a, got, c.want)
		}
	}
	for _, a := range all() {
		want := null
		if !missing(a) && a.V >= 0 {
			v := new(big.Int).Mul(big.NewInt(a.V), one())
			want = told(v.Sqrt(v))
		}
		if got := fixed.Root(a); got != want {
			t.Errorf("Root(%v) = %v, want %v", a, got, want)
		}
	}
}

func TestRound(t *testing.T) {
	for _, c := range []struct {
		a      api.Num
		digits int
		want   api.Num
	}{
		{n(2500000), 0, n(3000000)}, {n(-2500000), 0, n(-3000000)}, {n(2499999), 0, n(2000000)}, {n(-2499999), 0, n(-2000000)}, {n(2500001), 0, n(3000000)}, {n(1500000), 0, n(2000000)}, {n(-1500000), 0, n(-2000000)},
		{n(499999), 0, n(0)}, {n(-499999), 0, n(0)}, {n(500000), 0, n(1000000)}, {n(-500000), 0, n(-1000000)}, {n(0), 0, n(0)},
		{n(1250000), 1, n(1300000)}, {n(-1249999), 1, n(-1200000)}, {n(1235000), 2, n(1240000)}, {n(1234999), 2, n(1230000)}, {n(1234567), 3, n(1235000)}, {n(1234499), 3, n(1234000)},
		{n(-1234550), 4, n(-1234600)}, {n(1234549), 4, n(1234500)}, {n(1234565), 5, n(1234570)}, {n(-1234565), 5, n(-1234570)}, {n(1234564), 5, n(1234560)}, {n(1234567), 6, n(1234567)}, {n(-most), 6, n(-most)}, {n(most), 6, n(most)},
		// The greatest number is 9223372036854.775807: only to 4 and to 6 decimals it can be told.
		{n(most), 0, null}, {n(most), 1, null}, {n(most), 2, null}, {n(most), 3, null}, {n(most), 4, n(9223372036854775800)}, {n(most), 5, null}, {n(-most), 0, null}, {n(-most), 4, n(-9223372036854775800)}, {n(-most), 5, null},
		{n(9223372036854499999), 0, n(9223372036854000000)}, {n(9223372036854500000), 0, null}, {n(-9223372036854500000), 0, null},
		{n(5), -1, null}, {n(5), 7, null}, {n(0), -1, null}, {n(0), 7, null}, {n(5), math.MinInt, null}, {n(5), math.MaxInt, null}, {n(5), 1 << 32, null}, {null, 3, null}, {null, -1, null}, {n(math.MinInt64), 6, null}, {api.Num{Null: true, V: 5}, 6, null},
	} {
		if got := fixed.Round(c.a, c.digits); got != c.want {
			t.Errorf("Round(%v, %d) = %v, want %v", c.a, c.digits, got, c.want)
		}
	}
	for _, a := range all() {
		for digits := -2; digits <= 8; digits++ {
			want := null
			if !missing(a) && digits >= 0 && digits <= 6 {
				unit := new(big.Int).Exp(big.NewInt(10), big.NewInt(int64(6-digits)), nil)
				want = told(new(big.Int).Mul(rounded(big.NewInt(a.V), unit), unit))
			}
			if got := fixed.Round(a, digits); got != want {
				t.Errorf("Round(%v, %d) = %v, want %v", a, digits, got, want)
			}
		}
	}
}

func TestCmp(t *testing.T) {
	for _, c := range []struct {
		a, b api.Num
		want int
	}{
		{n(1), n(2), -1}, {n(2), n(1), 1}, {n(1), n(1), 0}, {n(-1), n(1), -1}, {n(most), n(-most), 1}, {n(-most), n(most), -1}, {n(-most), n(-most), 0},
		{null, n(0), -1}, {n(0), null, 1}, {null, n(-most), -1}, {n(-most), null, 1}, {null, null, 0},
		{n(math.MinInt64), null, 0}, {api.Num{Null: true, V: 5}, null, 0}, {api.Num{Null: true, V: 5}, api.Num{Null: true, V: 7}, 0}, {api.Num{Null: true, V: 5}, n(-7), -1}, {n(-7), n(math.MinInt64), 1},
	} {
		if got := fixed.Cmp(c.a, c.b); got != c.want {
			t.Errorf("Cmp(%v, %v) = %d, want %d", c.a, c.b, got, c.want)
		}
	}
	for _, a := range all() {
		for _, b := range all() {
			if got, want := fixed.Cmp(a, b), order(a, b); got != want {
				t.Errorf("Cmp(%v, %v) = %d, want %d", a, b, got, want)
			}
		}
	}
}

// order is what Cmp has to answer.
func order(a, b api.Num) int {
	switch {
	case missing(a) && missing(b):
		return 0
	case missing(a):
		return -1
	case missing(b):
		return 1
	}
	return big.NewInt(a.V).Cmp(big.NewInt(b.V))
}

func TestLessAndMore(t *testing.T) {
	for _, c := range []struct{ a, b, less, more api.Num }{
		{n(1), n(2), n(1), n(2)}, {n(2), n(1), n(1), n(2)}, {n(-3), n(-3), n(-3), n(-3)}, {n(-most), n(most), n(-most), n(most)}, {n(-1), n(0), n(-1), n(0)},
		{null, n(2), n(2), n(2)}, {n(2), null, n(2), n(2)}, {null, n(-2), n(-2), n(-2)}, {n(-2), null, n(-2), n(-2)}, {null, n(-most), n(-most), n(-most)}, {null, null, null, null},
		{n(math.MinInt64), n(-2), n(-2), n(-2)}, {n(5), n(math.MinInt64), n(5), n(5)}, {api.Num{Null: true, V: 9}, n(-4), n(-4), n(-4)}, {n(4), api.Num{Null: true, V: -9}, n(4), n(4)},
	} {
		if less, more := fixed.Less(c.a, c.b), fixed.More(c.a, c.b); less != c.less || more != c.more {
			t.Errorf("Less, More of %v, %v = %v, %v, want %v, %v", c.a, c.b, less, more, c.less, c.more)
		}
	}
	for _, a := range append([]api.Num{null}, wrong...) {
		for _, b := range append([]api.Num{null}, wrong...) {
			if less, more := fixed.Less(a, b), fixed.More(a, b); less != null || more != null {
				t.Errorf("Less, More of %v, %v = %v, %v", a, b, less, more)
			}
		}
	}
	for _, a := range numbers() {
		for _, b := range numbers() {
			checkPick(t, a, b)
		}
	}
}

func checkPick(t *testing.T, a, b api.Num) {
	t.Helper()
	less, more := a, b
	if a.Null || !b.Null && b.V < a.V {
		less, more = b, a
	}
	// Beside nothing the other one stands, on both sides.
	if more.Null {
		more = less
	}
	if gotLess, gotMore := fixed.Less(a, b), fixed.More(a, b); gotLess != less || gotMore != more {
		t.Errorf("Less, More of %v, %v = %v, %v, want %v, %v", a, b, gotLess, gotMore, less, more)
	}
}

// Sums and products don't hang on the order of two; what is added and taken away again is as it was, if the sum can be told.
func TestLaws(t *testing.T) {
	whole := fixed.Int(1)
	for _, a := range numbers() {
		if fixed.Mul(a, whole) != a || fixed.Mul(whole, a) != a || fixed.Div(a, whole) != a {
			t.Errorf("%v times 1 is %v, 1 times it %v, divided by 1 %v", a, fixed.Mul(a, whole), fixed.Mul(whole, a), fixed.Div(a, whole))
		}
		for _, b := range numbers() {
			if fixed.Add(a, b) != fixed.Add(b, a) || fixed.Mul(a, b) != fixed.Mul(b, a) {
				t.Errorf("%v and %v: the order of two counts", a, b)
			}
			if sum := fixed.Add(a, b); !sum.Null && fixed.Sub(sum, b) != a {
				t.Errorf("%v and %v: back comes %v", a, b, fixed.Sub(sum, b))
			}
			if rest := fixed.Sub(a, b); !rest.Null && fixed.Add(rest, b) != a {
				t.Errorf("%v without %v: back comes %v", a, b, fixed.Add(rest, b))
			}
		}
	}
}

// A product, times millionths, is half a millionth from the exact one at most.
func TestNear(t *testing.T) {
	r := rand.New(rand.NewPCG(9, 10))
	half := big.NewInt(api.One / 2)
	for range 20000 {
		a, b := r.Int64()>>r.IntN(63), r.Int64()>>r.IntN(63)
		if r.IntN(2) == 0 {
			a = -a
		}
		if r.IntN(2) == 0 {
			b = -b
		}
		got := fixed.Mul(n(a), n(b))
		exact := new(big.Int).Mul(big.NewInt(a), big.NewInt(b))
		if got.Null {
			if told(rounded(exact, one())) != null {
				t.Errorf("%d times %d is nothing", a, b)
			}
			continue
		}
		far := new(big.Int).Mul(big.NewInt(got.V), one())
		far.Sub(far, exact)
		if far.CmpAbs(half) > 0 {
			t.Errorf("%d times %d = %d: %v from the exact one", a, b, got.V, far)
		}
	}
}

// answers is what all calls answer to some arguments.
type answers struct {
	right          bool
	of, whole      api.Num
	sum, rest      api.Num
	neg, abs       api.Num
	product, parts api.Num
	root, round    api.Num
	order          int
	less, more     api.Num
}

func ask(a, b api.Num, digits int) answers {
	return answers{
		right: fixed.Right(a), of: fixed.Of(a.V), whole: fixed.Int(int(a.V)),
		sum: fixed.Add(a, b), rest: fixed.Sub(a, b), neg: fixed.Neg(a), abs: fixed.Abs(a),
		product: fixed.Mul(a, b), parts: fixed.Div(a, b), root: fixed.Root(a), round: fixed.Round(a, digits),
		order: fixed.Cmp(a, b), less: fixed.Less(a, b), more: fixed.More(a, b),
	}
}

// Every answer is right, one that isn't right counts as nothing wherever it comes, and nothing is kept from call to call.
func TestAnswersAreRightAndHangOnArgumentsAlone(t *testing.T) {
	list := all()
	digits := []int{math.MinInt, -1, 0, 1, 2, 3, 4, 5, 6, 7, math.MaxInt}
	first := map[[2]int]answers{}
	for i, a := range list {
		for j, b := range list {
			got := ask(a, b, digits[(i+j)%len(digits)])
			for _, x := range []api.Num{got.of, got.whole, got.sum, got.rest, got.neg, got.abs, got.product, got.parts, got.root, got.round, got.less, got.more} {
				if x.Null && x.V != 0 || x.V == math.MinInt64 {
					t.Errorf("%v and %v: the answer %v isn't right", a, b, x)
				}
			}
			first[[2]int{i, j}] = got
			plain := ask(counts(a), counts(b), digits[(i+j)%len(digits)])
			plain.right, plain.of, plain.whole = got.right, got.of, got.whole
			if got != plain {
				t.Errorf("%v and %v: %v, but %v of nothing in their stead", a, b, got, plain)
			}
		}
	}
	for i := len(list) - 1; i >= 0; i-- {
		for j := len(list) - 1; j >= 0; j-- {
			if again := ask(list[i], list[j], digits[(i+j)%len(digits)]); again != first[[2]int{i, j}] {
				t.Errorf("%v and %v: another answer than before: %v", list[i], list[j], again)
			}
		}
	}
}

func counts(a api.Num) api.Num {
	if missing(a) {
		return null
	}
	return a
}
