package config_test

import (
	"fmt"
	"regexp"
	"slices"
	"strings"
	"testing"

	"isobar/api"
	"isobar/config"
)

// The chapter's words as regular expressions, of texts whose bytes are a rune each.
var (
	bareLine  = regexp.MustCompile(`(?s)\A[ \t]*(.*?)[ \t]*\r?\z`)
	idleLine  = regexp.MustCompile(`(?s)\A(?:[#;].*)?\z`)
	beginLine = regexp.MustCompile(`(?s)\A\[([^\]]{1,32})\]\z`)
	keyLine   = regexp.MustCompile(`(?s)\A[ \t]*([a-zA-Z]{1,32})[ \t]*=[ \t]*(.*?)[ \t]*\z`)
	rightName = regexp.MustCompile(`\A[^\]\r\n]{1,32}\z`)
	rightKey  = regexp.MustCompile(`\A[a-zA-Z]{1,32}\z`)
	rightText = regexp.MustCompile(`\A(?:[^ \t\r\n](?:[^\r\n]*[^ \t\r\n])?)?\z`)
)

// wide is a text with a rune for each byte: an expression counts runes.
func wide(s string) string {
	runes := make([]rune, len(s))
	for i := range len(s) {
		runes[i] = rune(s[i])
	}
	return string(runes)
}

// narrow is the text that became wide.
func narrow(s string) string {
	var b []byte
	for _, r := range s {
		b = append(b, byte(r))
	}
	return string(b)
}

// fits is whether the whole of a text is as an expression says it.
func fits(form *regexp.Regexp, s string) bool { return form.MatchString(wide(s)) }

// parts are the parts of a text that is as an expression says it; nil, if it isn't.
func parts(form *regexp.Regexp, s string) []string {
	m := form.FindStringSubmatch(wide(s))
	for i := range m {
		m[i] = narrow(m[i])
	}
	return m
}

// lined is what Lines says, as the chapter's words have it.
func lined(text string) []string {
	var l []string
	for _, piece := range strings.Split(text, "\n") {
		if line := parts(bareLine, piece)[1]; !fits(idleLine, line) {
			l = append(l, line)
		}
	}
	return l
}

// parsed is what Parse says, as the chapter's words have it.
func parsed(text string) ([]api.Section, api.Errno) {
	if len(text) > 4096 {
		return nil, api.ErrLong
	}
	var l []api.Section
	names := map[string]int{}
	keys := map[[2]string]int{}
	for _, line := range lined(text) {
		begins, says := parts(beginLine, line), parts(keyLine, line)
		switch {
		case begins == nil && says == nil, says != nil && len(l) == 0:
			return nil, api.ErrForm
		case begins != nil:
			names[begins[1]]++
			if names[begins[1]] > 1 {
				return nil, api.ErrExist
			}
			l = append(l, api.Section{Name: begins[1]})
			if len(l) > 16 {
				return nil, api.ErrMany
			}
		default:
			last := &l[len(l)-1]
			keys[[2]string{last.Name, says[1]}]++
			if keys[[2]string{last.Name, says[1]}] > 1 {
				return nil, api.ErrExist
			}
			last.Keys = append(last.Keys, api.Pair{Key: says[1], Value: says[2]})
			if len(last.Keys) > 16 {
				return nil, api.ErrMany
			}
		}
	}
	return l, api.OK
}

// maybe is what Right says, as the chapter's words have it.
func maybe(l []api.Section) bool {
	names := map[string]int{}
	for _, s := range l {
		names[s.Name]++
		if !fits(rightName, s.Name) || len(s.Keys) > 16 {
			return false
		}
		keys := map[string]int{}
		for _, p := range s.Keys {
			keys[p.Key]++
			if !fits(rightKey, p.Key) || !fits(rightText, p.Value) {
				return false
			}
		}
		if len(keys) < len(s.Keys) {
			return false
		}
	}
	return len(l) <= 16 && len(names) == len(l)
}

// printed is what Print says, as the chapter's words have it.
func printed(l []api.Section) (string, api.Errno) {
	if !maybe(l) {
		return "", api.ErrArg
	}
	text := ""
	for _, s := range l {
		text += fmt.Sprintf("[%s]\n", s.Name)
		for _, p := range s.Keys {
			if p.Value == "" {
				text += fmt.Sprintf("%s =\n", p.Key)
			} else {
				text += fmt.Sprintf("%s = %s\n", p.Key, p.Value)
			}
		}
	}
	return text, api.OK
}

// got is what Get says, as the chapter's words have it.
func got(s api.Section, key string) (string, bool) {
	values := []string{}
	for _, p := range s.Keys {
		if p.Key == key {
			values = append(values, p.Value)
		}
	}
	if len(values) == 0 {
		return "", false
	}
	return values[0], true
}

// same is whether two lists of sections hold the same.
func same(a, b []api.Section) bool {
	return slices.EqualFunc(a, b, func(s, t api.Section) bool { return s.Name == t.Name && slices.Equal(s.Keys, t.Keys) })
}

// brief is what a test tells of something: what is long would bury the rest.
func brief(v any) string {
	s := fmt.Sprintf("%q", v)
	if len(s) > 300 {
		return fmt.Sprintf("%s... (%d)", s[:300], len(s))
	}
	return s
}

// reads holds Lines and Parse of a text to the chapter's words, and answers its error.
func reads(t *testing.T, text string) api.Errno {
	t.Helper()
	if l, want := config.Lines(text), lined(text); !slices.Equal(l, want) {
		t.Fatalf("Lines(%s) = %s, want %s", brief(text), brief(l), brief(want))
	}
	want, wanted := parsed(text)
	if l, e := config.Parse(text); !same(l, want) || e != wanted {
		t.Fatalf("Parse(%s) = %s, %d, want %s, %d", brief(text), brief(l), e, brief(want), wanted)
	}
	return wanted
}

// lists holds all that is asked of sections to the chapter's words, and answers whether they may be.
func lists(t *testing.T, l []api.Section) bool {
	t.Helper()
	is := maybe(l)
	if got := config.Right(l); got != is {
		t.Fatalf("Right(%s) = %t, want %t", brief(l), got, is)
	}
	want, wanted := printed(l)
	if s, e := config.Print(l); s != want || e != wanted {
		t.Fatalf("Print(%s) = %s, %d, want %s, %d", brief(l), brief(s), e, brief(want), wanted)
	}
	for _, s := range l {
		for _, p := range append(s.Keys[:len(s.Keys):len(s.Keys)], api.Pair{}, api.Pair{Key: "other"}) {
			gives(t, s, p.Key)
		}
	}
	return is
}

// gives holds Get of a key to the chapter's words.
func gives(t *testing.T, s api.Section, key string) {
	t.Helper()
	want, wanted := got(s, key)
	if v, ok := config.Get(s, key); v != want || ok != wanted {
		t.Fatalf("Get(%s, %s) = %s, %t, want %s, %t", brief(s), brief(key), brief(v), ok, brief(want), wanted)
	}
}

// becomes holds Parse of a text to sections, or to an error, that are told by hand; the tests' own reading too.
func becomes(t *testing.T, text string, want []api.Section, wanted api.Errno) {
	t.Helper()
	if l, e := config.Parse(text); !same(l, want) || e != wanted {
		t.Errorf("Parse(%s) = %s, %d, want %s, %d", brief(text), brief(l), e, brief(want), wanted)
	}
	if l, e := parsed(text); !same(l, want) || e != wanted {
		t.Errorf("%s is %s, %d by the tests' own reading, want %s, %d", brief(text), brief(l), e, brief(want), wanted)
	}
}

// errs holds Parse of a text to an error that is told by hand.
func errs(t *testing.T, text string, want api.Errno) {
	t.Helper()
	becomes(t, text, nil, want)
}

// cut holds Lines of a text to lines that are told by hand; the tests' own reading too.
func cut(t *testing.T, text string, want ...string) {
	t.Helper()
	if l := config.Lines(text); !slices.Equal(l, want) {
		t.Errorf("Lines(%s) = %s, want %s", brief(text), brief(l), brief(want))
	}
	if l := lined(text); !slices.Equal(l, want) {
		t.Errorf("the lines of %s are %s by the tests' own reading, want %s", brief(text), brief(l), brief(want))
	}
}

// prints holds Print of sections to a text that is told by hand, and what is parsed of it to these sections; the tests' own reading too.
func prints(t *testing.T, l []api.Section, want string) {
	t.Helper()
	if !config.Right(l) || !maybe(l) {
		t.Errorf("%s may not be", brief(l))
	}
	if s, e := config.Print(l); s != want || e != api.OK {
		t.Errorf("Print(%s) = %s, %d, want %s", brief(l), brief(s), e, brief(want))
	}
	if s, e := printed(l); s != want || e != api.OK {
		t.Errorf("%s is printed as %s, %d by the tests' own reading, want %s", brief(l), brief(s), e, brief(want))
	}
	if len(want) <= 4096 {
		becomes(t, want, l, api.OK)
	}
}

// mayNot holds Right and Print to refusing sections; the tests' own reading too.
func mayNot(t *testing.T, l []api.Section) {
	t.Helper()
	if config.Right(l) || maybe(l) {
		t.Errorf("%s may be", brief(l))
	}
	for _, call := range []func([]api.Section) (string, api.Errno){config.Print, printed} {
		if s, e := call(l); s != "" || e != api.ErrArg {
			t.Errorf("%s is printed as %s, %d", brief(l), brief(s), e)
		}
	}
}
