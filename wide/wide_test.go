package wide_test

import (
	"math"
	"math/big"
	"math/rand/v2"
	"testing"

	"isobar/api"
	"isobar/wide"
)

const top = math.MaxUint64

// edges are words about which carries, halves and roots change.
var edges = []uint64{0, 1, 2, 3, 7, 1<<32 - 1, 1 << 32, 1<<32 + 1, 1<<63 - 1, 1 << 63, 1<<63 + 1, top - 1, top}

var limit = new(big.Int).Lsh(big.NewInt(1), 128)

// word gives words of all lengths, short ones as often as long ones.
func word(r *rand.Rand) uint64 { return r.Uint64() >> r.IntN(64) }

// words are the edges and some by a fixed seed.
func words() []uint64 {
	r := rand.New(rand.NewPCG(1, 2))
	list := append([]uint64(nil), edges...)
	for range 12 {
		list = append(list, word(r))
	}
	return list
}

// wides are all pairs of words.
func wides() []api.Wide {
	var list []api.Wide
	for _, hi := range words() {
		for _, lo := range words() {
			list = append(list, api.Wide{Hi: hi, Lo: lo})
		}
	}
	return list
}

func number(x uint64) *big.Int { return new(big.Int).SetUint64(x) }

func value(a api.Wide) *big.Int {
	v := new(big.Int).Lsh(number(a.Hi), 64)
	return v.Or(v, number(a.Lo))
}

// below is what a number is but for 2^128, and whether it is beyond.
func below(v *big.Int) (api.Wide, bool) {
	rest := new(big.Int).Mod(v, limit)
	hi := new(big.Int).Rsh(rest, 64)
	lo := new(big.Int).And(rest, number(top))
	return api.Wide{Hi: hi.Uint64(), Lo: lo.Uint64()}, v.Cmp(limit) >= 0
}

func TestMul(t *testing.T) {
	for _, c := range []struct {
		x, y uint64
		want api.Wide
	}{
		{0, 0, api.Wide{}},
		{0, top, api.Wide{}},
		{1, top, api.Wide{Lo: top}},
		{6, 7, api.Wide{Lo: 42}},
		{1 << 63, 4, api.Wide{Hi: 2}},
		{1 << 32, 1 << 32, api.Wide{Hi: 1}},
		{top, top, api.Wide{Hi: top - 1, Lo: 1}},
	} {
		if got := wide.Mul(c.x, c.y); got != c.want {
			t.Errorf("Mul(%d, %d) = %v, want %v", c.x, c.y, got, c.want)
		}
	}
	for _, x := range words() {
		for _, y := range words() {
			want := new(big.Int).Mul(number(x), number(y))
			if got := wide.Mul(x, y); value(got).Cmp(want) != 0 {
				t.Errorf("Mul(%d, %d) = %v, want %v", x, y, got, want)
			}
		}
	}
}

func TestAdd(t *testing.T) {
	all := api.Wide{Hi: top, Lo: top}
	for _, c := range []struct {
		a, b, want api.Wide
		over       bool
	}{
		{api.Wide{}, api.Wide{}, api.Wide{}, false},
		{api.Wide{Lo: top}, api.Wide{Lo: 1}, api.Wide{Hi: 1}, false},
		{api.Wide{Hi: top, Lo: top - 1}, api.Wide{Lo: 1}, all, false},
		{all, api.Wide{Lo: 1}, api.Wide{}, true},
		{api.Wide{Hi: 1 << 63}, api.Wide{Hi: 1 << 63}, api.Wide{}, true},
		{api.Wide{Hi: top}, api.Wide{Hi: 1, Lo: 5}, api.Wide{Lo: 5}, true},
		{all, all, api.Wide{Hi: top, Lo: top - 1}, true},
	} {
		if got, over := wide.Add(c.a, c.b); got != c.want || over != c.over {
			t.Errorf("Add(%v, %v) = %v, %v, want %v, %v", c.a, c.b, got, over, c.want, c.over)
		}
	}
	list := wides()
	for i, a := range list {
		for j := i % 7; j < len(list); j += 7 {
			b := list[j]
			want, beyond := below(new(big.Int).Add(value(a), value(b)))
			if got, over := wide.Add(a, b); got != want || over != beyond {
				t.Errorf("Add(%v, %v) = %v, %v, want %v, %v", a, b, got, over, want, beyond)
			}
		}
	}
}

func TestLess(t *testing.T) {
	for _, c := range []struct {
		a, b api.Wide
		want bool
	}{
		{api.Wide{}, api.Wide{}, false},
		{api.Wide{}, api.Wide{Lo: 1}, true},
		{api.Wide{Lo: 1}, api.Wide{}, false},
		{api.Wide{Lo: top}, api.Wide{Hi: 1}, true},
		{api.Wide{Hi: 1}, api.Wide{Lo: top}, false},
		{api.Wide{Hi: 1 << 63}, api.Wide{Hi: 1}, false},
		{api.Wide{Hi: top, Lo: top}, api.Wide{Hi: top, Lo: top}, false},
	} {
		if got := wide.Less(c.a, c.b); got != c.want {
			t.Errorf("Less(%v, %v) = %v", c.a, c.b, got)
		}
	}
	list := wides()
	for i, a := range list {
		for j := i % 7; j < len(list); j += 7 {
			b := list[j]
			if got, want := wide.Less(a, b), value(a).Cmp(value(b)) < 0; got != want {
				t.Errorf("Less(%v, %v) = %v", a, b, got)
			}
		}
	}
}

func TestDiv(t *testing.T) {
	for _, c := range []struct {
		a, q api.Wide
		d, r uint64
	}{
		{api.Wide{}, api.Wide{}, 1, 0},
		{api.Wide{Lo: 7}, api.Wide{Lo: 3}, 2, 1},
		{api.Wide{Lo: 7}, api.Wide{}, 8, 7},
		{api.Wide{Hi: 7, Lo: 5}, api.Wide{Hi: 3, Lo: 1<<63 + 2}, 2, 1},
		{api.Wide{Hi: 5}, api.Wide{Hi: 1}, 5, 0},
		{api.Wide{Hi: top, Lo: top}, api.Wide{Hi: top, Lo: top}, 1, 0},
		{api.Wide{Hi: top, Lo: top}, api.Wide{Hi: 1, Lo: 1}, top, 0},
	} {
		q, r, e := wide.Div(c.a, c.d)
		if q != c.q || r != c.r || e != api.OK {
			t.Errorf("Div(%v, %d) = %v, %d, %d, want %v, %d", c.a, c.d, q, r, e, c.q, c.r)
		}
	}
	for _, a := range wides() {
		for _, d := range words() {
			if d == 0 {
				continue
			}
			want, rest := new(big.Int).QuoRem(value(a), number(d), new(big.Int))
			q, r, e := wide.Div(a, d)
			if value(q).Cmp(want) != 0 || number(r).Cmp(rest) != 0 || e != api.OK {
				t.Errorf("Div(%v, %d) = %v, %d, %d, want %v, %v", a, d, q, r, e, want, rest)
			}
		}
	}
}

func TestDivByNothing(t *testing.T) {
	for _, a := range wides() {
		if q, r, e := wide.Div(a, 0); q != (api.Wide{}) || r != 0 || e != api.ErrArg {
			t.Errorf("Div(%v, 0) = %v, %d, %d", a, q, r, e)
		}
	}
}

func TestRound(t *testing.T) {
	for _, c := range []struct {
		a    api.Wide
		d, n uint64
		e    api.Errno
	}{
		{api.Wide{}, 5, 0, api.OK},
		{api.Wide{Lo: 5}, 2, 3, api.OK},
		{api.Wide{Lo: 4}, 3, 1, api.OK},
		{api.Wide{Lo: 5}, 3, 2, api.OK},
		{api.Wide{Lo: 1}, 2, 1, api.OK},
		{api.Wide{Lo: 1}, 3, 0, api.OK},
		{api.Wide{Lo: 1<<63 - 1}, top - 1, 1, api.OK},
		{api.Wide{Lo: 1<<63 - 1}, top, 0, api.OK},
		{api.Wide{Lo: 1 << 63}, top, 1, api.OK},
		{api.Wide{Lo: top}, 1, top, api.OK},
		{api.Wide{Hi: 1}, 1, 0, api.ErrRange},
		{api.Wide{Hi: 1}, 2, 1 << 63, api.OK},
		{api.Wide{Hi: 1, Lo: top - 1}, 2, top, api.OK},
		{api.Wide{Hi: 1, Lo: top}, 2, 0, api.ErrRange},
		{api.Wide{Hi: 2, Lo: top - 1}, 3, top, api.OK},
		{api.Wide{Hi: 2, Lo: top}, 3, 0, api.ErrRange},
		{api.Wide{Hi: top, Lo: top}, top, 0, api.ErrRange},
		{api.Wide{Hi: top, Lo: top}, 1, 0, api.ErrRange},
	} {
		if n, e := wide.Round(c.a, c.d); n != c.n || e != c.e {
			t.Errorf("Round(%v, %d) = %d, %d, want %d, %d", c.a, c.d, n, e, c.n, c.e)
		}
	}
	for _, a := range wides() {
		for _, d := range words() {
			if d != 0 {
				checkRound(t, a, d)
			}
		}
	}
}

func checkRound(t *testing.T, a api.Wide, d uint64) {
	t.Helper()
	// A half upwards: twice a and d, parted by twice d.
	twice := new(big.Int).Lsh(value(a), 1)
	twice.Add(twice, number(d))
	want := twice.Div(twice, new(big.Int).Lsh(number(d), 1))
	n, e := wide.Round(a, d)
	if want.IsUint64() && (n != want.Uint64() || e != api.OK) {
		t.Errorf("Round(%v, %d) = %d, %d, want %v", a, d, n, e, want)
	}
	if !want.IsUint64() && (n != 0 || e != api.ErrRange) {
		t.Errorf("Round(%v, %d) = %d, %d, want %v to be refused", a, d, n, e, want)
	}
}

// A divisor of 0 is named first: it is told even where no quotient would have room.
func TestRoundByNothing(t *testing.T) {
	for _, a := range wides() {
		if n, e := wide.Round(a, 0); n != 0 || e != api.ErrArg {
			t.Errorf("Round(%v, 0) = %d, %d", a, n, e)
		}
	}
}

func TestRoot(t *testing.T) {
	greatest := wide.Mul(top, top)
	for _, c := range []struct {
		a api.Wide
		n uint64
	}{
		{api.Wide{}, 0},
		{api.Wide{Lo: 1}, 1},
		{api.Wide{Lo: 3}, 1},
		{api.Wide{Lo: 4}, 2},
		{api.Wide{Lo: 15}, 3},
		{api.Wide{Lo: 16}, 4},
		{api.Wide{Lo: top}, 1<<32 - 1},
		{api.Wide{Hi: 1}, 1 << 32},
		{api.Wide{Hi: 1 << 62}, 1 << 63},
		{greatest, top},
		{api.Wide{Hi: greatest.Hi, Lo: greatest.Lo - 1}, top - 1},
		{api.Wide{Hi: greatest.Hi, Lo: greatest.Lo + 1}, top},
		{api.Wide{Hi: top, Lo: top}, top},
	} {
		if n := wide.Root(c.a); n != c.n {
			t.Errorf("Root(%v) = %d, want %d", c.a, n, c.n)
		}
	}
	for _, a := range wides() {
		want := new(big.Int).Sqrt(value(a))
		if n := wide.Root(a); number(n).Cmp(want) != 0 {
			t.Errorf("Root(%v) = %d, want %v", a, n, want)
		}
	}
}

func TestShift(t *testing.T) {
	for _, c := range []struct {
		a    api.Wide
		n    int
		want api.Wide
		ok   bool
	}{
		{api.Wide{Lo: 1}, 70, api.Wide{Hi: 64}, true},
		{api.Wide{Hi: 9, Lo: 5}, 0, api.Wide{Hi: 9, Lo: 5}, true},
		{api.Wide{Hi: top, Lo: top}, 0, api.Wide{Hi: top, Lo: top}, true},
		{api.Wide{Lo: 1 << 63}, 1, api.Wide{Hi: 1}, true},
		{api.Wide{Hi: 1 << 63, Lo: 3}, 1, api.Wide{Lo: 6}, false},
		{api.Wide{Lo: 3}, 63, api.Wide{Hi: 1, Lo: 1 << 63}, true},
		{api.Wide{Lo: top}, 64, api.Wide{Hi: top}, true},
		{api.Wide{Hi: 1, Lo: 7}, 64, api.Wide{Hi: 7}, false},
		{api.Wide{Lo: top}, 65, api.Wide{Hi: top - 1}, false},
		{api.Wide{Lo: 1}, 127, api.Wide{Hi: 1 << 63}, true},
		{api.Wide{Lo: 2}, 127, api.Wide{}, false},
		{api.Wide{Lo: 3}, 127, api.Wide{Hi: 1 << 63}, false},
		{api.Wide{Hi: 1}, 127, api.Wide{}, false},
		{api.Wide{}, 127, api.Wide{}, true},
	} {
		if got, ok := wide.Shift(c.a, c.n); got != c.want || ok != c.ok {
			t.Errorf("Shift(%v, %d) = %v, %v, want %v, %v", c.a, c.n, got, ok, c.want, c.ok)
		}
	}
	for _, a := range wides() {
		for n := range 128 {
			want, beyond := below(new(big.Int).Lsh(value(a), uint(n)))
			if got, ok := wide.Shift(a, n); got != want || ok == beyond {
				t.Errorf("Shift(%v, %d) = %v, %v, want %v, %v", a, n, got, ok, want, !beyond)
			}
		}
	}
}

// Where a shift may not be, the number itself stands beside the false.
func TestShiftByWhatMayNotBe(t *testing.T) {
	for _, a := range wides() {
		for _, n := range []int{math.MinInt, -128, -64, -1, 128, 129, 192, 256, math.MaxInt} {
			if got, ok := wide.Shift(a, n); got != a || ok {
				t.Errorf("Shift(%v, %d) = %v, %v", a, n, got, ok)
			}
		}
	}
}

// What is divided, times d, with what is left, is a.
func TestThereAndBackByDiv(t *testing.T) {
	for _, a := range wides() {
		for _, d := range words() {
			q, r, e := wide.Div(a, d)
			if e != api.OK {
				continue
			}
			if r >= d {
				t.Errorf("Div(%v, %d) leaves %d", a, d, r)
			}
			high, ok := wide.Shift(wide.Mul(q.Hi, d), 64)
			back, over := wide.Add(high, wide.Mul(q.Lo, d))
			whole, more := wide.Add(back, api.Wide{Lo: r})
			if whole != a || !ok || over || more {
				t.Errorf("Div(%v, %d): back comes %v", a, d, whole)
			}
		}
	}
}

// A square's root is its number, and what is one less than a square has a root of one less.
func TestThereAndBackByRoot(t *testing.T) {
	r := rand.New(rand.NewPCG(3, 4))
	list := words()
	for range 2000 {
		list = append(list, word(r))
	}
	for _, n := range list {
		square := wide.Mul(n, n)
		if got := wide.Root(square); got != n {
			t.Errorf("Root(%d squared) = %d", n, got)
		}
		if n == 0 {
			continue
		}
		less, _ := wide.Add(square, api.Wide{Hi: top, Lo: top})
		if got := wide.Root(less); got != n-1 {
			t.Errorf("Root(%d squared, less 1) = %d", n, got)
		}
	}
}

// answers is what all calls answer to some arguments.
type answers struct {
	mul, sum, q, shifted api.Wide
	over, less, ok       bool
	r, round, root       uint64
	div, rounded         api.Errno
}

func ask(a, b api.Wide, d uint64, n int) answers {
	var s answers
	s.mul = wide.Mul(a.Lo, d)
	s.sum, s.over = wide.Add(a, b)
	s.less = wide.Less(a, b)
	s.q, s.r, s.div = wide.Div(a, d)
	s.round, s.rounded = wide.Round(a, d)
	s.root = wide.Root(a)
	s.shifted, s.ok = wide.Shift(a, n)
	return s
}

// Nothing is kept from call to call: asked once more, in another order, all answer as before.
func TestAnswersHangOnArgumentsAlone(t *testing.T) {
	list := wides()
	shifts := []int{math.MinInt, -1, 0, 1, 63, 64, 65, 127, 128, math.MaxInt}
	first := make([]answers, len(list))
	for i, a := range list {
		first[i] = ask(a, list[len(list)-1-i], a.Hi, shifts[i%len(shifts)])
	}
	for i := len(list) - 1; i >= 0; i-- {
		again := ask(list[i], list[len(list)-1-i], list[i].Hi, shifts[i%len(shifts)])
		if again != first[i] {
			t.Errorf("%v: %v, then %v", list[i], first[i], again)
		}
	}
}
