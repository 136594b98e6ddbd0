package needle_test

import (
	"math"
	"math/rand/v2"
	"strings"

	"isobar/api"
)

// signs are the bytes that mean something in a pattern.
const signs = `^$*[]\-.`

// words are all texts of up to n bytes of an alphabet, the shorter ones first.
func words(alphabet string, n int) []string {
	list := []string{""}
	for from := 0; n > 0; n-- {
		to := len(list)
		for _, w := range list[from:to] {
			for i := range len(alphabet) {
				list = append(list, w+alphabet[i:i+1])
			}
		}
		from = to
	}
	return list
}

// some is a text of up to n bytes of an alphabet, by a seed.
func some(r *rand.Rand, alphabet string, n int) string {
	b := make([]byte, r.IntN(n+1))
	for i := range b {
		b[i] = alphabet[r.IntN(len(alphabet))]
	}
	return string(b)
}

// bytesOf are n bytes, from one on.
func bytesOf(n, from int) string {
	b := make([]byte, n)
	for i := range b {
		b[i] = byte(from + i)
	}
	return string(b)
}

// someAtom is an atom, by a seed, that now and then is none.
func someAtom(r *rand.Rand, alphabet string) string {
	one := func() string { return string(alphabet[r.IntN(len(alphabet))]) }
	switch r.IntN(6) {
	case 0:
		return "."
	case 1:
		return `\` + some(r, alphabet+signs, 1)
	case 2, 3:
		var b strings.Builder
		b.WriteString("[" + []string{"", "^"}[r.IntN(2)])
		for range 1 + r.IntN(3) {
			b.WriteString(one() + []string{"", "-" + one()}[r.IntN(2)])
		}
		return b.String() + []string{"", "-", "^", `\`}[r.IntN(4)] + "]"
	}
	return one()
}

// somePattern is a pattern of up to n items, by a seed, that now and then is none.
func somePattern(r *rand.Rand, alphabet string, n int) string {
	var b strings.Builder
	b.WriteString([]string{"", "^"}[r.IntN(2)])
	for range r.IntN(n + 1) {
		b.WriteString(someAtom(r, alphabet) + []string{"", "", "*"}[r.IntN(3)])
	}
	return b.String() + []string{"", "$"}[r.IntN(2)]
}

// only is the item that fits just these bytes.
func only(bytes string, star bool) api.Item {
	i := api.Item{Star: star}
	for _, b := range []byte(bytes) {
		i.Set[b/64] |= 1 << (b % 64)
	}
	return i
}

// each is the item that fits each byte.
func each(star bool) api.Item {
	return api.Item{Set: [4]uint64{math.MaxUint64, math.MaxUint64, math.MaxUint64, math.MaxUint64}, Star: star}
}

// someItem is an item, by a seed: of no byte, of all, of a few, of any.
func someItem(r *rand.Rand) api.Item {
	star := r.IntN(2) == 0
	switch r.IntN(7) {
	case 0:
		return api.Item{Star: star}
	case 1:
		return each(star)
	case 2:
		return api.Item{Set: [4]uint64{r.Uint64(), r.Uint64(), r.Uint64(), r.Uint64()}, Star: star}
	}
	return only(some(r, "ab\x00\xff", 3), star)
}

// ends are all that a needle may be bound to, with items.
func ends(items ...api.Item) []api.Needle {
	var list []api.Needle
	for k := range 4 {
		list = append(list, api.Needle{Start: k&1 == 1, End: k&2 == 2, Items: items})
	}
	return list
}

// needles are some that no pattern makes, among others: no items, sets of no byte and of all, items in all orders of a few, each of Start and End.
func needles() []api.Needle {
	kinds := []api.Item{{}, {Star: true}, each(false), each(true), only("a", false), only("a", true), only("b", false), only("ab", true)}
	list := append(ends(), ends([]api.Item{}...)...)
	for _, a := range kinds {
		list = append(list, ends(a)...)
		for _, b := range kinds {
			list = append(list, ends(a, b)...)
			for _, c := range kinds {
				list = append(list, ends(a, b, c)...)
			}
		}
	}
	return list
}
