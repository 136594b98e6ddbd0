package config_test

import (
	"math/rand/v2"
	"slices"
	"strings"
	"testing"

	"isobar/api"
	"isobar/config"
)

// TestWords: all short texts of the signs that mean something.
func TestWords(t *testing.T) {
	met := map[api.Errno]int{}
	for _, s := range words([]string{"[", "]", "a", "=", "\n", " "}, 6) {
		met[reads(t, s)]++
	}
	for _, signs := range [][]string{
		{"[", "]", "a", "=", "\n", " ", "\r"},
		{"[a]", "x", "=", "\n", "\t", "#", ";"},
		{"[a]\n", "[b]\n", "x=1\n", "y = 2\r\n", "#\n", " ", "z"},
		{"[", "]", "[]", "a", "\n[a]\n"},
	} {
		for _, s := range words(signs, 5) {
			met[reads(t, s)]++
		}
	}
	for _, s := range words([]string{"[a]", "\n", "x="}, 8) {
		met[reads(t, s)]++
	}
	for _, s := range words([]string{"a", "\r", " ", "\n"}, 7) {
		met[reads(t, s)]++
	}
	for _, e := range []api.Errno{api.OK, api.ErrForm, api.ErrExist} {
		if met[e] < 500 {
			t.Errorf("error %d only %d times", e, met[e])
		}
	}
}

// TestBytes: each byte, alone, and put at each place of what is right.
func TestBytes(t *testing.T) {
	for b := range 256 {
		c := string([]byte{byte(b)})
		reads(t, c)
		for _, s := range []string{"[ab]\nx = 1 2\n", "#\n [a]\t\r\n;\nx=\r\n\ty =[b]"} {
			for at := range len(s) + 1 {
				reads(t, s[:at]+c+s[at:])
				reads(t, s[:at]+c+s[min(at+1, len(s)):])
			}
		}
		for _, s := range []string{c, c + "a", "a" + c, "a" + c + "b"} {
			lists(t, list(one(s, "x", "1")))
			lists(t, list(one("a", s, "1")))
			lists(t, list(one("a", "x", s)))
		}
	}
}

// TestSeeded: texts by a fixed seed, as they stand and spoilt.
func TestSeeded(t *testing.T) {
	r := rand.New(rand.NewPCG(117, 118))
	met := map[api.Errno]int{}
	for range 8000 {
		s := dressed(r, someSections(r))
		met[reads(t, s)]++
		for range 1 + r.IntN(3) {
			s = spoilt(r, s)
		}
		met[reads(t, s)]++
	}
	for _, e := range []api.Errno{api.OK, api.ErrForm, api.ErrExist, api.ErrMany} {
		if met[e] < 100 {
			t.Errorf("error %d only %d times", e, met[e])
		}
	}
	if met[api.ErrLong] == 0 {
		t.Error("no text was too long")
	}
}

// TestSeededLists: sections by a fixed seed, that may be, or have one thing that mostly may not be.
func TestSeededLists(t *testing.T) {
	r := rand.New(rand.NewPCG(119, 120))
	met := map[bool]int{}
	for range 15000 {
		met[lists(t, someSections(r))]++
		met[lists(t, spoiltSections(r, someSections(r)))]++
	}
	if met[true] < 1000 || met[false] < 1000 {
		t.Errorf("too few of a kind: %v", met)
	}
}

// TestThereAndBack: P11.2, what is printed, if it has at most 4096 bytes, is parsed as it was.
func TestThereAndBack(t *testing.T) {
	r := rand.New(rand.NewPCG(121, 122))
	some, longer := 0, 0
	for range 30000 {
		l := someSections(r)
		s, e := config.Print(l)
		if e != api.OK {
			continue
		}
		back, e := config.Parse(s)
		switch {
		case len(s) > 4096:
			longer++
			if e != api.ErrLong || len(back) != 0 {
				t.Fatalf("%s is parsed as %s, %d", brief(s), brief(back), e)
			}
		case e != api.OK || !same(back, l):
			t.Fatalf("%s is printed as %s, that is parsed as %s, %d", brief(l), brief(s), brief(back), e)
		default:
			some++
		}
	}
	if some < 1000 || longer == 0 {
		t.Errorf("%d are parsed, %d are too long", some, longer)
	}
}

// TestParsedMayBe: P11.2, what is parsed of a text without carriage returns may be, and is parsed again out of what is printed of it.
func TestParsedMayBe(t *testing.T) {
	r := rand.New(rand.NewPCG(123, 124))
	some := 0
	for range 30000 {
		s := spoilt(r, dressed(r, someSections(r)))
		for r.IntN(2) == 0 {
			s = spoilt(r, s)
		}
		l, e := config.Parse(strings.ReplaceAll(s, "\r", oneOf(r, "", " ", "x")))
		if e != api.OK {
			continue
		}
		some++
		text, e := config.Print(l)
		if !config.Right(l) || e != api.OK {
			t.Fatalf("%s is parsed as %s, that may not be, %d", brief(s), brief(l), e)
		}
		if back, e := config.Parse(text); len(text) <= 4096 && (e != api.OK || !same(back, l)) {
			t.Fatalf("%s is parsed as %s, %d", brief(text), brief(back), e)
		}
	}
	if some < 5000 {
		t.Errorf("only %d are parsed", some)
	}
	// With a carriage return it need not be.
	for _, text := range []string{"[a\rb]", "[a]\nx = 1\r2", "[a]\nx = 1\r\r\n"} {
		if l, e := config.Parse(text); e != api.OK || config.Right(l) {
			t.Errorf("%q is parsed as %q, %d", text, l, e)
		}
	}
}

// TestIdleChangesNothing: P11.3, blanks around lines and around =, and idle lines, change neither what is parsed nor the error.
func TestIdleChangesNothing(t *testing.T) {
	r := rand.New(rand.NewPCG(125, 126))
	met := map[api.Errno]int{}
	for range 30000 {
		l := someSections(r)
		bare := ""
		for _, s := range l {
			bare += "[" + s.Name + "]\n"
			for _, p := range s.Keys {
				bare += p.Key + "=" + p.Value + "\n"
			}
		}
		more := dressed(r, l)
		if r.IntN(4) == 0 {
			wrong := oneOf(r, "no", "= 1", "[", "[]", "x1 = 1", "[a] x")
			bare, more = bare+wrong, more+"\n"+someBlanks(r)+wrong+someBlanks(r)+"\n"+someIdle(r)
		}
		if len(bare) > 4096 || len(more) > 4096 {
			continue
		}
		want, wanted := config.Parse(bare)
		if got, e := config.Parse(more); !same(got, want) || e != wanted {
			t.Fatalf("%s is parsed as %s, %d, but %s as %s, %d", brief(bare), brief(want), wanted, brief(more), brief(got), e)
		}
		met[wanted]++
	}
	for _, e := range []api.Errno{api.OK, api.ErrForm, api.ErrExist, api.ErrMany} {
		if met[e] < 100 {
			t.Errorf("error %d only %d times", e, met[e])
		}
	}
}

// TestLinesAgain: the lines of a text, joined by line feeds, have just these lines, as long as none ends with a carriage return.
func TestLinesAgain(t *testing.T) {
	r := rand.New(rand.NewPCG(127, 128))
	for range 20000 {
		s := strings.ReplaceAll(spoilt(r, dressed(r, someSections(r))), "\r", oneOf(r, "", "\r\n", " "))
		l := config.Lines(s)
		for _, ends := range []string{"\n", "\r\n", " \n", "\n\t", "\n#\n"} {
			if again := config.Lines(strings.Join(l, ends)); !slices.Equal(again, l) {
				t.Fatalf("%s of %s become %s", brief(l), brief(s), brief(again))
			}
		}
	}
}
