package line_test

import (
	"math/rand/v2"
	"slices"
	"strings"
	"testing"

	"isobar/api"
	"isobar/line"
)

// TestNewMemory: a list that is answered, its spare room too, shares nothing with what was answered ahead, or is later.
func TestNewMemory(t *testing.T) {
	r := rand.New(rand.NewPCG(219, 220))
	list := []string{"a", "a 1 2", "a b c d e f g h i j k l m n o p q r s t u v w x y z", strings.Repeat("a ", 1000)}
	for range 200 {
		list = append(list, someLine(r))
	}
	for _, s := range list {
		want := pieces(s)
		first, second := line.Words(s), line.Words(s)
		room := first[:cap(first)]
		for i := range room {
			room[i] = "spoilt"
		}
		if third := line.Words(s); !slices.Equal(second, want) || !slices.Equal(third, want) {
			t.Fatalf("Words(%s): a change of one answer changes another: %s, %s", brief(s), brief(second), brief(third))
		}
	}
}

// answers are what all calls answer to a line, and to what it says.
type answers struct {
	words   string
	said    api.Sample
	saidE   api.Errno
	printed string
	printE  api.Errno
	stamped api.Sample
}

func ask(s string) answers {
	var a answers
	a.words = strings.Join(line.Words(s), "\x00")
	a.said, a.saidE = line.Parse(s)
	a.printed, a.printE = line.Print(a.said)
	a.stamped = line.Stamp(a.said, len(s))
	return a
}

// Nothing is kept from call to call: asked once more, in another order, and behind errors, all answer as before.
func TestAnswersHangOnArgumentsAlone(t *testing.T) {
	r := rand.New(rand.NewPCG(221, 222))
	first := map[string]answers{}
	list := []string{"", "a", "a 1 2", "a 1 -1", "a..b 1 2", "a nan 1", "a 1 nan", "a 1 2 3", strings.Repeat("a ", 300)}
	for range 3000 {
		list = append(list, oneOf(r, someLine(r), spoilt(r, someLine(r))))
	}
	for _, s := range list {
		first[s] = ask(s)
	}
	for range 2 {
		slices.Reverse(list)
		for _, s := range list {
			if again := ask(s); again != first[s] {
				t.Fatalf("%s: %+v, and before %+v", brief(s), again, first[s])
			}
		}
	}
}
