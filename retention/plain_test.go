package retention_test

import (
	"fmt"
	"math/big"
	"regexp"
	"slices"
	"strings"
	"testing"

	"isobar/api"
	"isobar/retention"
)

// The chapter's words as regular expressions.
const (
	spanForm = `(?:[0-9]+[smhdwy])`
	eachForm = `(?:` + spanForm + `|[0-9]+)`
	rungForm = ` *` + eachForm + `:` + eachForm + ` *`
)

var (
	wholeSpan = regexp.MustCompile(`\A` + spanForm + `\z`)
	wholeList = regexp.MustCompile(`\A` + rungForm + `(?:,` + rungForm + `)*\z`)
	eachRung  = regexp.MustCompile(`(` + eachForm + `):(` + eachForm + `)`)
)

// latest is 2^40.
var latest = new(big.Int).Lsh(big.NewInt(1), 40)

// whole is a whole number of any length.
func whole(digits string) *big.Int {
	n, ok := new(big.Int).SetString(digits, 10)
	if !ok {
		panic(digits)
	}
	return n
}

// told is what a span's text tells in seconds, or digits alone, and whether it is a span's.
func told(s string) (*big.Int, bool) {
	seconds := map[byte]int64{'s': 1, 'm': 60, 'h': 60 * 60, 'd': 24 * 60 * 60, 'w': 7 * 24 * 60 * 60, 'y': 365 * 24 * 60 * 60}
	unit, is := seconds[s[len(s)-1]]
	if !is {
		return whole(s), false
	}
	return new(big.Int).Mul(whole(s[:len(s)-1]), big.NewInt(unit)), true
}

// together is whether rungs go together, as the chapter's words say it, in numbers of any length.
func together(l []api.Rung) bool {
	if len(l) < 1 || len(l) > 4 {
		return false
	}
	for _, r := range l {
		if r.Step < 1 || r.Step > 86400 || r.Count < 1 || r.Count > 400 {
			return false
		}
	}
	for i := range len(l) - 1 {
		r, next := l[i], l[i+1]
		greater, multiple := next.Step > r.Step, next.Step%r.Step == 0
		further := next.Step*next.Count > r.Step*r.Count
		// Such a slot is made of the slots whose times begin within it.
		parts := 0
		for at := 0; at < next.Step; at += r.Step {
			parts++
		}
		if !greater || !multiple || !further || r.Count < parts {
			return false
		}
	}
	return true
}

// spanned is what Span says, as the chapter's words have it.
func spanned(s string) (int, api.Errno) {
	if !wholeSpan.MatchString(s) {
		return 0, api.ErrNumber
	}
	n, _ := told(s)
	if n.Cmp(latest) > 0 {
		return 0, api.ErrRange
	}
	return int(n.Int64()), api.OK
}

// parsed is what Parse says, as the chapter's words have it.
func parsed(s string) ([]api.Rung, api.Errno) {
	if !wholeList.MatchString(s) {
		return nil, api.ErrForm
	}
	var l []api.Rung
	ranged := false
	for _, m := range eachRung.FindAllStringSubmatch(s, -1) {
		step, _ := told(m[1])
		length, seconds := told(m[2])
		if step.Sign() == 0 || step.Cmp(latest) > 0 || length.Cmp(latest) > 0 {
			ranged = true
			continue
		}
		if seconds {
			length.Div(length, step)
		}
		l = append(l, api.Rung{Step: int(step.Int64()), Count: int(length.Int64())})
	}
	switch {
	case ranged:
		return nil, api.ErrRange
	case len(l) > 4:
		return nil, api.ErrMany
	case !together(l):
		return nil, api.ErrArg
	}
	return l, api.OK
}

// printed is what Print says, as the chapter's words have it.
func printed(l []api.Rung) (string, api.Errno) {
	if !together(l) {
		return "", api.ErrArg
	}
	var b strings.Builder
	for i, r := range l {
		if i > 0 {
			b.WriteString(",")
		}
		fmt.Fprintf(&b, "%d:%d", r.Step, r.Count)
	}
	return b.String(), api.OK
}

// reached is what Reach says, as the chapter's words have it.
func reached(r api.Rung) int {
	if r.Step >= 1 && r.Step <= 86400 && r.Count >= 1 && r.Count <= 400 {
		return r.Step * r.Count
	}
	return 0
}

// brief is what a test tells of a text: what is long would bury the rest.
func brief(s string) string {
	if len(s) > 200 {
		return fmt.Sprintf("%q... (%d bytes)", s[:200], len(s))
	}
	return fmt.Sprintf("%q", s)
}

// spans holds Span of a text to the chapter's words.
func spans(t *testing.T, s string) {
	t.Helper()
	want, wanted := spanned(s)
	if n, e := retention.Span(s); n != want || e != wanted {
		t.Fatalf("Span(%s) = %d, %d, want %d, %d", brief(s), n, e, want, wanted)
	}
}

// parses holds Parse of a text to the chapter's words, and answers its error.
func parses(t *testing.T, s string) api.Errno {
	t.Helper()
	want, wanted := parsed(s)
	if l, e := retention.Parse(s); !slices.Equal(l, want) || e != wanted {
		t.Fatalf("Parse(%s) = %v, %d, want %v, %d", brief(s), l, e, want, wanted)
	}
	return wanted
}

// lists holds all that is asked of rungs to the chapter's words, and answers whether they go together.
func lists(t *testing.T, l []api.Rung) bool {
	t.Helper()
	is := together(l)
	if got := retention.Together(l); got != is {
		t.Fatalf("Together(%v) = %t, want %t", l, got, is)
	}
	want, wanted := printed(l)
	if s, e := retention.Print(l); s != want || e != wanted {
		t.Fatalf("Print(%v) = %q, %d, want %q, %d", l, s, e, want, wanted)
	}
	for _, r := range l {
		if n := retention.Reach(r); n != reached(r) {
			t.Fatalf("Reach(%v) = %d, want %d", r, n, reached(r))
		}
	}
	return is
}

// becomes holds Parse of a text to rungs, or to an error, that are told by hand; the tests' own reading too.
func becomes(t *testing.T, s string, want []api.Rung, wanted api.Errno) {
	t.Helper()
	if l, e := retention.Parse(s); !slices.Equal(l, want) || e != wanted {
		t.Errorf("Parse(%s) = %v, %d, want %v, %d", brief(s), l, e, want, wanted)
	}
	if l, e := parsed(s); !slices.Equal(l, want) || e != wanted {
		t.Errorf("%s is %v, %d by the tests' own reading, want %v, %d", brief(s), l, e, want, wanted)
	}
}

// lasts holds Span of a text to seconds, or to an error, that are told by hand; the tests' own reading too.
func lasts(t *testing.T, s string, want int, wanted api.Errno) {
	t.Helper()
	if n, e := retention.Span(s); n != want || e != wanted {
		t.Errorf("Span(%s) = %d, %d, want %d, %d", brief(s), n, e, want, wanted)
	}
	if n, e := spanned(s); n != want || e != wanted {
		t.Errorf("%s is %d, %d by the tests' own reading, want %d, %d", brief(s), n, e, want, wanted)
	}
}
