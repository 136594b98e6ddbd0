package config_test

import (
	"math/rand/v2"
	"strings"

	"isobar/api"
)

// words are all texts of up to n signs, the shorter ones first.
func words(signs []string, n int) []string {
	list := []string{""}
	for from := 0; n > 0; n-- {
		to := len(list)
		for _, w := range list[from:to] {
			for _, sign := range signs {
				list = append(list, w+sign)
			}
		}
		from = to
	}
	return list
}

// letters are n letters, others for each number.
func letters(n, number int) string {
	b := []byte(strings.Repeat("k", n))
	b[0], b[n-1] = "abcdefghijklmnopqrstuvwxyz"[number%26], "ABCDEFGHIJKLMNOPQRSTUVWXYZ"[number/26%26]
	return string(b)
}

// sections are n sections of names of their own, each with that many keys.
func sections(n, keys int) []api.Section {
	var l []api.Section
	for i := range n {
		s := api.Section{Name: letters(2, i)}
		for k := range keys {
			s.Keys = append(s.Keys, api.Pair{Key: letters(3, k), Value: letters(1, k)})
		}
		l = append(l, s)
	}
	return l
}

// long are right sections that are printed with that many bytes, at most 7000.
func long(size int) []api.Section {
	l := sections(1, 16)
	text, _ := printed(l)
	l[0].Keys[7].Value += strings.Repeat("v", size-len(text))
	return l
}

// oneOf is one of some things, by a seed.
func oneOf[T any](r *rand.Rand, list ...T) T { return list[r.IntN(len(list))] }

// someOf are up to n of some texts, one behind the other, by a seed.
func someOf(r *rand.Rand, n int, list ...string) string {
	text := ""
	for range r.IntN(n + 1) {
		text += oneOf(r, list...)
	}
	return text
}

// someName is a name that may be, by a seed.
func someName(r *rand.Rand) string {
	name := oneOf(r, "a", "b", "all", "[", "=", "#", " ", "\t", "x = 1", "é", "\xff", "\x00") + someOf(r, 5, "a", "b", " ", "\t", "[", "=", ";", "\x80")
	if r.IntN(20) == 0 {
		return name + strings.Repeat("n", 32-len(name))
	}
	return name
}

// someKey is a key that may be, by a seed.
func someKey(r *rand.Rand) string {
	if r.IntN(20) == 0 {
		return letters(32, r.IntN(50))
	}
	return oneOf(r, "a", "b", "Z", "x", "pattern", "retentions", "xFilesFactor") + someOf(r, 2, "a", "z", "A", "Z")
}

// someValue is a value that may be, by a seed; now and then a long one.
func someValue(r *rand.Rand) string {
	ends := []string{"a", "1", "=", "[", "]", "#", ";", ".*", "60s:1h", "é", "\xff", "\x00", "\v", "\u00a0"}
	switch r.IntN(8) {
	case 0:
		return ""
	case 1:
		return oneOf(r, ends...) + strings.Repeat("v", r.IntN(oneOf(r, 10, 10, 100, 100, 2000)))
	}
	return oneOf(r, ends...) + someOf(r, 3, " ", "\t", "=", "a") + oneOf(r, ends...)
}

// someSections are sections by a seed, that mostly may be: there may be one too many, and a name or a key may be there twice.
func someSections(r *rand.Rand) []api.Section {
	n, keys := r.IntN(oneOf(r, 4, 4, 18)), oneOf(r, 4, 4, 4, 18)
	l := sections(n, 0)
	for i := range l {
		if r.IntN(2) == 0 {
			l[i].Name = someName(r)
		}
		l[i].Keys = sections(1, r.IntN(keys))[0].Keys
		for k := range l[i].Keys {
			p := &l[i].Keys[k]
			if r.IntN(4) == 0 {
				p.Key = someKey(r)
			}
			if r.IntN(2) == 0 {
				p.Value = someValue(r)
			}
		}
	}
	return l
}

// someWrong is a text that may stand for a name, a key or a value, and seldom is one that may be, by a seed.
func someWrong(r *rand.Rand) string {
	return oneOf(r, "", " ", "\t", " a", "a ", "a\t", "\ta", "a\n", "\na", "a\nb", "a\r", "a\rb", "\r", "a]", "]", "a]b", "a1", "a b", "a.b", "é", "\x00", "[", "a[", "=", "a=b", "@", "Z", "`", "{", letters(32, 3), letters(33, 3), strings.Repeat("\xc3\xa9", 16), strings.Repeat("\xc3\xa9", 17))
}

// spoiltSections are sections of which one thing became another, by a seed.
func spoiltSections(r *rand.Rand, l []api.Section) []api.Section {
	if len(l) == 0 {
		return []api.Section{{}}
	}
	s := &l[r.IntN(len(l))]
	if len(s.Keys) == 0 || r.IntN(3) == 0 {
		s.Name = someWrong(r)
		return l
	}
	p := &s.Keys[r.IntN(len(s.Keys))]
	if r.IntN(2) == 0 {
		p.Key = someWrong(r)
	} else {
		p.Value = someWrong(r)
	}
	return l
}

// someBlanks are blanks and tabs, by a seed: mostly none.
func someBlanks(r *rand.Rand) string { return someOf(r, 2*r.IntN(2), " ", "\t", "   ") }

// someIdle is a line that is idle, by a seed.
func someIdle(r *rand.Rand) string {
	return someBlanks(r) + oneOf(r, "", "", "#", ";", "# x = 1", ";[a]", "#]", ";\r", "#\r\r", ";;", "#\xff") + someBlanks(r)
}

// dressed are the lines of right sections with blanks and idle lines wherever they may stand, by a seed.
func dressed(r *rand.Rand, l []api.Section) string {
	ends := oneOf(r, "\n", "\r\n")
	var lines []string
	idle := func() {
		for range r.IntN(3) * r.IntN(2) {
			lines = append(lines, someIdle(r))
		}
	}
	for _, s := range l {
		idle()
		lines = append(lines, someBlanks(r)+"["+s.Name+"]"+someBlanks(r))
		for _, p := range s.Keys {
			idle()
			lines = append(lines, someBlanks(r)+p.Key+someBlanks(r)+"="+someBlanks(r)+p.Value+someBlanks(r))
		}
	}
	idle()
	return strings.Join(lines, ends) + oneOf(r, "", ends)
}

// spoilt is a text of which a byte went, came, or became another, by a seed.
func spoilt(r *rand.Rand, s string) string {
	at := r.IntN(len(s) + 1)
	c := oneOf(r, "[", "]", "=", "#", ";", "\n", "\r", " ", "\t", "a", "Z", "1", ".", "\x00", "\xff", "é", "\n[a]\n", "\na=1\n", "]\n")
	switch {
	case at < len(s) && r.IntN(3) == 0:
		return s[:at] + s[at+1:]
	case at < len(s) && r.IntN(2) == 0:
		return s[:at] + c + s[at+1:]
	}
	return s[:at] + c + s[at:]
}
