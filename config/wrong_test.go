package config_test

import (
	"strings"
	"testing"

	"isobar/api"
)

// wrongLines are lines, told by hand, that aren't idle, and neither begin a section nor say a key.
func wrongLines() []string {
	return []string{
		// [ without ], ] without [, one or both of them the wrong way round, twice, in the middle
		"[", "]", "[a", "a]", "[ a", "a ]", "[]", "[[", "]]", "[]]", "][", "]a[", "[a]]", "[a][", "[a][b]", "[a]b]", "[a]b[", "x[a]", "a[", "]a",
		// something ahead of [, or behind ]
		"[a]x", "[a] x", "[a] # x", "[a] ;", "[a]#", "[a].", "[a]\x00", "x [a]", ".[a]", "\v[a]", "\xff[a]", "[a]\xff",
		// a section and a key in one
		"[a] = 1", "[a]x = 1", "[a] x = 1", "1 [a]", "[a] =", "[a=1", "1]", "[a = 1",
		// no =
		"x", "x 1", "x: 1", "x:1", "pattern .*", "1", "x\t1", "\"x\"", "é", "\xff", "\x00", "*", "-", "/", "// x", "x #", "x;y", "x, y",
		// nothing ahead of =
		"=", "==", "= 1", "=1", "=x", "= x = 1", "==1",
		// no key ahead of =
		"1 = 1", "x1 = 1", "1x = 1", "x y = 1", "x.y = 1", "x. = 1", "x-y = 1", "x_y = 1", "x: = 1", "\"x\" = 1", "x+ = 1", "x! = 1", "é = 1", "x\xff = 1", "x\x00 = 1", "x[ = 1", "x] = 1", "(x) = 1", "x, y = 1", "x\v = 1", "x\u00a0= 1", "ｘ = 1", "x# = 1", "x; = 1",
		// a name, or a key, of more than 32 bytes
		"[" + strings.Repeat("n", 33) + "]", strings.Repeat("k", 33) + " = 1", strings.Repeat("k", 33) + "=",
	}
}

func TestWrongLines(t *testing.T) {
	for _, line := range wrongLines() {
		cut(t, line, line)
		for _, around := range []string{"", " ", "\t"} {
			wrong := around + line + around
			errs(t, wrong, api.ErrForm)
			errs(t, wrong+"\n", api.ErrForm)
			errs(t, wrong+"\r\n", api.ErrForm)
			errs(t, "#\n\n"+wrong, api.ErrForm)
			errs(t, wrong+"\n[s]\ny = 1", api.ErrForm)
			errs(t, "[s]\n"+wrong, api.ErrForm)
			errs(t, "[s]\ny = 1\n"+wrong+"\nz = 1", api.ErrForm)
			errs(t, "[s]\ny = 1\n[r]\n\n"+wrong+"\r\n", api.ErrForm)
		}
	}
}

// TestAhead: a key ahead of any section; nothing mends it that comes behind.
func TestAhead(t *testing.T) {
	for _, line := range []string{"x = 1", "x=", " x = 1 ", "\tpattern = .*", "x = [a]", "x==", strings.Repeat("k", 32) + "="} {
		errs(t, line, api.ErrForm)
		errs(t, line+"\n", api.ErrForm)
		errs(t, "\n#\n;[a]\n"+line, api.ErrForm)
		errs(t, line+"\n[a]\n", api.ErrForm)
		errs(t, line+"\n"+line+"\n[a]\n[a]", api.ErrForm)
	}
}

// TestTwice: a name, and a key, that was there already, next to the first one and far from it.
func TestTwice(t *testing.T) {
	for _, text := range []string{
		"[a]\n[a]", "[a]\n[b]\n[a]", "[b]\n[a]\n[a]", "[a]\nx = 1\n[a]\ny = 1", "[a]\nx = 1\n[b]\n[c]\n [a] ", "[ ]\n[ ]", "[[]\n[[]", "[\xff]\n[\xff]",
		"[a]\nx = 1\nx = 1", "[a]\nx = 1\nx = 2", "[a]\nx =\nx =", "[a]\nx = 1\ny = 2\nx = 3", "[b]\nx = 1\n[a]\nx = 1\nx = 2", "[a]\nx=1\n\tx\t=\t1", "[a]\n" + strings.Repeat("k", 32) + "=\n" + strings.Repeat("k", 32) + "=",
	} {
		errs(t, text, api.ErrExist)
		errs(t, text+"\r\n", api.ErrExist)
		errs(t, text+"\nno line", api.ErrExist)
	}
	mayNot(t, list(one("a"), one("a")))
	mayNot(t, list(one("a"), one("b"), one("a")))
	mayNot(t, list(one("b"), one("a", "x", "1"), one("a", "y", "1")))
	mayNot(t, list(one("a", "x", "1", "x", "1")))
	mayNot(t, list(one("a", "x", "1", "y", "2", "x", "3")))
	mayNot(t, list(one("b", "x", "1"), one("a", "y", "", "x", "1", "x", "2")))
}

// TestWhichFirst: in one line the error that the chapter names first; of two lines that of the first one; a text's length ahead of all.
func TestWhichFirst(t *testing.T) {
	full, keyed := "", "[k]\n"
	for _, s := range sections(16, 0) {
		full += "[" + s.Name + "]\n"
	}
	for _, p := range sections(1, 16)[0].Keys {
		keyed += p.Key + "=\n"
	}
	name, key := sections(16, 0)[9].Name, sections(1, 16)[0].Keys[9].Key
	// One line: no form, there already, too many.
	errs(t, full+"["+name+"]", api.ErrExist)
	errs(t, full+"[more]", api.ErrMany)
	errs(t, full+"[more", api.ErrForm)
	errs(t, full+"[]", api.ErrForm)
	errs(t, keyed+key+" = 1", api.ErrExist)
	errs(t, keyed+"more = 1", api.ErrMany)
	errs(t, keyed+"m.re = 1", api.ErrForm)
	errs(t, keyed+key, api.ErrForm)
	errs(t, keyed+key+"1 = 1", api.ErrForm)
	errs(t, keyed+"[k]", api.ErrExist)
	becomes(t, full+"x = 1", append(sections(15, 0), one(sections(16, 0)[15].Name, "x", "1")), api.OK)
	becomes(t, keyed+"[more]\n"+key+" = 1", list(one("k", pairs(16)...), one("more", key, "1")), api.OK)
	// Two lines.
	lines := []struct {
		text string
		want api.Errno
	}{{"[" + name + "]\n", api.ErrExist}, {"[more]\n", api.ErrMany}, {"no\n", api.ErrForm}, {"= 1\n", api.ErrForm}}
	for _, a := range lines {
		for _, b := range lines {
			errs(t, full+a.text+b.text, a.want)
			errs(t, full+"#\n\n"+a.text+"\n;\n"+b.text, a.want)
		}
	}
	lines[0].text, lines[1].text = key+" = 1\n", "more = 1\n"
	for _, a := range lines {
		for _, b := range lines {
			errs(t, keyed+a.text+b.text, a.want)
			errs(t, keyed+a.text+full+"[k]\n"+b.text, a.want)
		}
	}
	errs(t, "no\n[a]\n[a]", api.ErrForm)
	errs(t, "[a]\n[a]\nno", api.ErrExist)
	errs(t, "[a]\nx=\nx=\nno", api.ErrExist)
	errs(t, "x=\n[a]\n[a]", api.ErrForm)
	// The text's length.
	for _, text := range []string{"no\n", "x = 1\n", "[a]\n[a]\n", full + "[more]\n", keyed + "more =\n", ""} {
		errs(t, text+strings.Repeat("\n", 4097-len(text)), api.ErrLong)
		errs(t, strings.Repeat("\n", 4097-len(text))+text, api.ErrLong)
	}
	for _, a := range lines {
		text := keyed + a.text
		errs(t, text+strings.Repeat("\n", 4096-len(text)), a.want)
	}
}

// pairs are n keys, each ahead of a value of no bytes.
func pairs(n int) []string {
	var l []string
	for _, p := range sections(1, n)[0].Keys {
		l = append(l, p.Key, "")
	}
	return l
}

// TestWrongLists: what may not be, told by hand, alone and beside what may.
func TestWrongLists(t *testing.T) {
	for _, s := range []api.Section{
		{},
		one("", "x", "1"),
		one("a]"), one("]"), one("[a]"), one("a\n"), one("\n"), one("a\nb"), one("\na"), one("a\r"), one("\r"), one("a\rb"), one("\r\n"), one("a]\nx = 1\n[b"),
		one(strings.Repeat("n", 33)), one(strings.Repeat("n", 100000)),
		one("a", "", ""), one("a", "", "1"), one("a", "x1", "1"), one("a", "x", "1", "", "1"), one("a", "x = 1\ny", "1"), one("a", "#", "1"), one("a", "[b]", ""),
		one("a", "x", " "), one("a", "x", "1", "y", "2 "), one("a", "x", "1\n"), one("a", "x", "1\n[b]"), one("a", "x", "1\r\n"),
	} {
		mayNot(t, list(s))
		mayNot(t, list(one("first"), s))
		mayNot(t, list(s, one("last")))
		mayNot(t, list(one("first", "x", "1"), s, one("last", "x", "1")))
		full := sections(16, 1)
		full[15] = s
		mayNot(t, full)
	}
}
