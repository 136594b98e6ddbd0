package config_test

import (
	"slices"
	"strings"
	"testing"

	"isobar/api"
	"isobar/config"
)

// one is a section of a name and some keys, each ahead of its value.
func one(name string, pairs ...string) api.Section {
	s := api.Section{Name: name}
	for i := 0; i < len(pairs); i += 2 {
		s.Keys = append(s.Keys, api.Pair{Key: pairs[i], Value: pairs[i+1]})
	}
	return s
}

// list is a list of sections.
func list(l ...api.Section) []api.Section { return l }

func TestExamples(t *testing.T) {
	becomes(t, "[a]\nx = 1", list(one("a", "x", "1")), api.OK)
	errs(t, "x = 1", api.ErrForm)
	errs(t, "[a]\n[a]", api.ErrExist)
}

// TestNothing: texts without a line that isn't idle.
func TestNothing(t *testing.T) {
	for _, text := range []string{"", "\n", "\n\n", "\n\n\n", "\r", "\r\n", "\r\n\r\n", " ", "\t", " \t ", " \n\t\n", "\t\r\n \r\n", "#", ";", "#\n", ";\n", " #", "\t;", "#\n;\n\n", "# x = 1", ";[a]", "#[a]\n;x = 1\n", "##", ";#", "#\r", "#\r\r", ";\x00\xff", strings.Repeat("\n", 4096), strings.Repeat(" ", 4096), "#" + strings.Repeat("[", 4095), strings.Repeat("\r\n", 2048)} {
		cut(t, text)
		becomes(t, text, nil, api.OK)
	}
}

// TestLineFeeds: lines with a line feed at their end and without, and many of them between.
func TestLineFeeds(t *testing.T) {
	cut(t, "a", "a")
	cut(t, "a\n", "a")
	cut(t, "\na", "a")
	cut(t, "\n\na\n\n", "a")
	cut(t, "a\nb", "a", "b")
	cut(t, "a\nb\n", "a", "b")
	cut(t, "a\n\n\nb\n\n", "a", "b")
	cut(t, "b\na\nb", "b", "a", "b")
	cut(t, "a\x00b\nc\vd\fe\u0085f\u2028g\nh", "a\x00b", "c\vd\fe\u0085f\u2028g", "h")
	cut(t, strings.Repeat("a\n", 5000), slices.Repeat([]string{"a"}, 5000)...)
	cut(t, strings.Repeat("a", 5000), strings.Repeat("a", 5000))
	becomes(t, "[a]", list(one("a")), api.OK)
	becomes(t, "[a]\n", list(one("a")), api.OK)
	becomes(t, "\n[a]", list(one("a")), api.OK)
	becomes(t, "[a]\n\n\nx=1\n\n[b]", list(one("a", "x", "1"), one("b")), api.OK)
	becomes(t, "[b]\n[a]\n", list(one("b"), one("a")), api.OK)
	becomes(t, "[a]\ny=1\nx=2\n", list(one("a", "y", "1", "x", "2")), api.OK)
}

// TestCarriageReturns: one at a line's end goes, ahead of what blanks are let go; others stay.
func TestCarriageReturns(t *testing.T) {
	cut(t, "a\r", "a")
	cut(t, "a\r\n", "a")
	cut(t, "a\r\nb\r\n", "a", "b")
	cut(t, "a\r\nb\r", "a", "b")
	cut(t, "a\nb\r\nc", "a", "b", "c")
	cut(t, "a\r\r", "a\r")
	cut(t, "a\r\r\n", "a\r")
	cut(t, "a\r\r\r\n", "a\r\r")
	cut(t, "\r\r", "\r")
	cut(t, "\r\r\r", "\r\r")
	cut(t, "\ra", "\ra")
	cut(t, "a\rb", "a\rb")
	cut(t, "a\rb\r\n", "a\rb")
	cut(t, "\n\r", nil...)
	cut(t, "a\n\rb", "a", "\rb")
	cut(t, "a \r\n", "a")
	cut(t, "a \t\r", "a")
	cut(t, " a\t\r\n", "a")
	cut(t, " \r\r \r\n", "\r\r")
	cut(t, "a\r \n", "a\r")
	cut(t, "a\r\t", "a\r")
	cut(t, "a\r \r\n", "a\r")
	cut(t, " \r \n", "\r")
	cut(t, "\r#", "\r#")
	cut(t, "\r\r#\n", "\r\r#")
	becomes(t, "[a]\r\nx = 1\r\n", list(one("a", "x", "1")), api.OK)
	becomes(t, "[a]\r\nx = 1 \t\r", list(one("a", "x", "1")), api.OK)
	becomes(t, "[a]\nx =\r\n", list(one("a", "x", "")), api.OK)
	becomes(t, "[a]\nx = \r\n", list(one("a", "x", "")), api.OK)
	becomes(t, "[a]\nx = 1\r\r\n", list(one("a", "x", "1\r")), api.OK)
	becomes(t, "[a]\nx = 1\r2\n", list(one("a", "x", "1\r2")), api.OK)
	becomes(t, "[a]\nx = \r1\n", list(one("a", "x", "\r1")), api.OK)
	becomes(t, "[a]\nx = 1\r \n", list(one("a", "x", "1\r")), api.OK)
	becomes(t, "[a]\nx = \r \r\n", list(one("a", "x", "\r")), api.OK)
	becomes(t, "[a\rb]\n[\r]\n[c\r]\r\n", list(one("a\rb"), one("\r"), one("c\r")), api.OK)
	errs(t, "[a]\r\r\n", api.ErrForm)
	errs(t, "\r\r\n[a]", api.ErrForm)
	errs(t, "\r[a]", api.ErrForm)
	errs(t, "[a]\nx\r = 1", api.ErrForm)
	errs(t, "[a]\n\rx = 1", api.ErrForm)
	errs(t, "[a]\rx = 1", api.ErrForm)
}

// TestBlanks: blanks and tabs ahead of, behind and around a line, and around = are let go; nothing else is.
func TestBlanks(t *testing.T) {
	blanks := []string{"", " ", "\t", "  ", "\t\t", " \t ", "\t \t", strings.Repeat(" ", 500)}
	for _, a := range blanks {
		for _, b := range blanks {
			cut(t, a+"a b"+b, "a b")
			cut(t, a+"a\tb"+b+"\r\n", "a\tb")
			cut(t, a+"\n"+b+"\r\n"+a+"#"+b+"\n"+b+";")
			becomes(t, a+"[a]"+b+"\n"+b+"[b]"+a, list(one("a"), one("b")), api.OK)
			becomes(t, a+"[a b]"+b+"\r\n", list(one("a b")), api.OK)
			if len(b) < 32 {
				becomes(t, a+"["+b+"n]"+a, list(one(b+"n")), api.OK)
			} else {
				errs(t, a+"["+b+"n]"+a, api.ErrForm)
			}
			for _, c := range blanks[:5] {
				becomes(t, "[s]\n"+a+"x"+b+"="+c+"1 2"+a+"\n"+b+"y"+c+"="+a, list(one("s", "x", "1 2", "y", "")), api.OK)
			}
		}
	}
	for _, other := range []string{"\v", "\f", "\x00", "\u00a0", "\u0085", "\u3000", "\xa0", "\x1f"} {
		cut(t, other+"a"+other+"\n"+other, other+"a"+other, other)
		becomes(t, "[s]\nx ="+other, list(one("s", "x", other)), api.OK)
		becomes(t, "[s]\nx = "+other+"1"+other+" ", list(one("s", "x", other+"1"+other)), api.OK)
		errs(t, "[s]\nx"+other+"=1", api.ErrForm)
		errs(t, "[s]\n"+other+"x=1", api.ErrForm)
		errs(t, other+"[s]", api.ErrForm)
		errs(t, "[s]"+other, api.ErrForm)
		errs(t, "[s]\n"+other+"# ", api.ErrForm)
	}
}

// TestIdle: idle lines of each kind, ahead of others, between and behind; # and ; within a line are bytes as others.
func TestIdle(t *testing.T) {
	for _, idle := range []string{"", " ", "\t ", "\r", " \r", "#", ";", "#x", "; x = 1", "#[a]", "  # x", "\t;x", "#\r", "; \r", "#]", ";=", "##", "#;", "#\r\r", "#\x00\xff"} {
		cut(t, idle+"\na\n"+idle+"\n"+idle+"\nb\n"+idle, "a", "b")
		becomes(t, idle+"\n[a]\n"+idle+"\nx = 1\n"+idle+"\n"+idle+"\ny = 2\n"+idle+"\n[b]\n"+idle, list(one("a", "x", "1", "y", "2"), one("b")), api.OK)
		errs(t, idle+"\nx = 1", api.ErrForm)
		errs(t, idle+"\n[a]\n"+idle+"\n[a]", api.ErrExist)
		errs(t, "[a]\nx = 1\n"+idle+"\nx = 2", api.ErrExist)
	}
	cut(t, "a#b\na #\na;\nx = # 1\n[#]\n", "a#b", "a #", "a;", "x = # 1", "[#]")
	becomes(t, "[#]\nx = #\ny = ;1\nz = a # b\n[;a]\nx=#=\n[a;#]", list(one("#", "x", "#", "y", ";1", "z", "a # b"), one(";a", "x", "#="), one("a;#")), api.OK)
	errs(t, "[a] # x", api.ErrForm)
	errs(t, "[a] ;", api.ErrForm)
	errs(t, "[a]\nx # = 1", api.ErrForm)
	errs(t, "[a]\nx; = 1", api.ErrForm)
	becomes(t, "[a]\n#x = 1\n;y = 1", list(one("a")), api.OK)
}

// TestNames: of 1 to 32 bytes, whatever they are, but ] and a line feed.
func TestNames(t *testing.T) {
	names := []string{"a", "[", "[[", "[a", "a[b", " ", "\t", " a ", "a b", "=", "x = 1", "a=b", "#", ";", "# a", "\xff", "\x80\xfe", "é", "\x00", "1", ".*", "\"", "(", "日本"}
	names = append(names, strings.Repeat("n", 31), strings.Repeat("n", 32), strings.Repeat(" ", 32), strings.Repeat("[", 32), strings.Repeat("é", 16), strings.Repeat("\xff", 32))
	for i, name := range names {
		becomes(t, "["+name+"]", list(one(name)), api.OK)
		becomes(t, " ["+name+"]\t\r\nx = 1", list(one(name, "x", "1")), api.OK)
		prints(t, list(one(name)), "["+name+"]\n")
		prints(t, list(one(name, "x", "1")), "["+name+"]\nx = 1\n")
		errs(t, "["+name+"]\n["+name+"]", api.ErrExist)
		errs(t, "["+name+"]]", api.ErrForm)
		other := names[(i+1)%len(names)]
		prints(t, list(one(name), one(other)), "["+name+"]\n["+other+"]\n")
	}
	for _, name := range []string{"", "]", "a]", "]a", "a]b", "[]", "][", strings.Repeat("n", 33), strings.Repeat("n", 34), strings.Repeat(" ", 33), strings.Repeat("é", 17), strings.Repeat("n", 4000)} {
		errs(t, "["+name+"]", api.ErrForm)
		errs(t, "[a]\n["+name+"]\n", api.ErrForm)
		mayNot(t, list(one(name)))
		mayNot(t, list(one("a"), one(name)))
	}
	// Names are others by their case, by blanks, by a byte.
	becomes(t, "[a]\n[A]\n[ a]\n[a ]\n[a\t]\n[aa]\n[á]\n[a\u0301]", list(one("a"), one("A"), one(" a"), one("a "), one("a\t"), one("aa"), one("á"), one("a\u0301")), api.OK)
}

// TestKeys: of 1 to 32 letters; of nothing else.
func TestKeys(t *testing.T) {
	keys := []string{"a", "z", "A", "Z", "aZ", "xFilesFactor", strings.Repeat("k", 31), strings.Repeat("k", 32), strings.Repeat("Z", 32)}
	for _, key := range keys {
		becomes(t, "[s]\n"+key+"=", list(one("s", key, "")), api.OK)
		becomes(t, "[s]\n"+key+" = 1", list(one("s", key, "1")), api.OK)
		becomes(t, "[s]\n  "+key+"\t=1 \r\n", list(one("s", key, "1")), api.OK)
		prints(t, list(one("s", key, "1")), "[s]\n"+key+" = 1\n")
		prints(t, list(one("s", key, "")), "[s]\n"+key+" =\n")
		errs(t, key+" = 1", api.ErrForm)
		errs(t, "[s]\n"+key+" = 1\n"+key+"=1", api.ErrExist)
	}
	for _, key := range []string{"", " ", "a1", "1a", "1", "a b", "a\tb", "a.b", ".a", "a.", "a-b", "a_b", "a:", "\"a\"", "[a", "[a]", "]", "é", "aé", "\xff", "a\xffb", "a\x00", "@", "[", "`", "{", "a@b", "a[b", "a`b", "a{b", "ａ", "ſ", "\u212a", strings.Repeat("k", 33), strings.Repeat("k", 34), strings.Repeat("k", 4000)} {
		errs(t, "[s]\n"+key+"=1", api.ErrForm)
		errs(t, "[s]\n"+key+" = 1\nx = 1", api.ErrForm)
		errs(t, "[s]\nx = 1\n "+key+"\t= 1", api.ErrForm)
		mayNot(t, list(one("s", key, "1")))
		mayNot(t, list(one("s", "x", "1", key, "1")))
	}
	for _, key := range []string{" a", "a ", "\ta", "a\t", "a\n", "\na", "a\r", "\ra", "a=", "=a", "="} {
		mayNot(t, list(one("s", key, "1")))
	}
	becomes(t, "[s]\nx = 1\nX = 2\nxx = 3\nxX = 4", list(one("s", "x", "1", "X", "2", "xx", "3", "xX", "4")), api.OK)
	// One key in two sections is no error; its values are each section's own.
	becomes(t, "[a]\nx = 1\n[b]\nx = 2\ny = 3\n[c]\nx = 1", list(one("a", "x", "1"), one("b", "x", "2", "y", "3"), one("c", "x", "1")), api.OK)
	prints(t, list(one("a", "x", "1"), one("b", "x", "1")), "[a]\nx = 1\n[b]\nx = 1\n")
}

// TestValues: what stands behind the first =, without blanks and tabs around it.
func TestValues(t *testing.T) {
	for _, v := range []string{"1", "=", "==", "= =", "a=b", "a = b", "=1", "1=", "[", "[a]", "[b", "]", "a[b]", "a b", "a  b", "a\tb", "#", ";", "# x", "1 # x", "\xff", "é", "\x00", "\v", "\u00a0", "y = 2", "\"1\"", ".*", "60s:1h, 1m:1d", strings.Repeat("v", 2000), "a" + strings.Repeat(" ", 2000) + "b"} {
		for _, around := range []string{"", " ", "\t", " \t "} {
			becomes(t, "[s]\nx="+around+v, list(one("s", "x", v)), api.OK)
			becomes(t, "[s]\nx ="+around+v+around+"\ny="+v, list(one("s", "x", v, "y", v)), api.OK)
			becomes(t, "[s]\nx\t="+v+around+"\r\n", list(one("s", "x", v)), api.OK)
		}
		prints(t, list(one("s", "x", v)), "[s]\nx = "+v+"\n")
		prints(t, list(one("s", "x", "", "y", v, "z", "")), "[s]\nx =\ny = "+v+"\nz =\n")
	}
	for _, text := range []string{"x=", "x =", "x= ", "x = ", "\tx\t=\t", "x=\r", "x = \r", "x \t = \t \r\n"} {
		becomes(t, "[s]\n"+text, list(one("s", "x", "")), api.OK)
		becomes(t, "[s]\n"+text+"\ny=", list(one("s", "x", "", "y", "")), api.OK)
	}
	for _, v := range []string{" ", "\t", " 1", "1 ", "\t1", "1\t", " 1 ", "1 2 ", "\n", "1\n", "\n1", "1\n2", "\r", "1\r", "\r1", "1\r2", "\r\n", "1\r\n", "1\ny = 2", "1\n[b]", strings.Repeat("v", 3000) + " ", strings.Repeat("v", 3000) + "\n"} {
		mayNot(t, list(one("s", "x", v)))
		mayNot(t, list(one("s", "w", "", "x", v, "y", "1")))
		mayNot(t, list(one("r"), one("s", "x", v), one("t")))
	}
}

// TestHowLong: a text of 4096 bytes is parsed, one of a byte more isn't, whatever it holds; Lines has no such bound.
func TestHowLong(t *testing.T) {
	for _, tail := range []string{"\n", " ", "\n#", "\n;", "\r\n", "\t\n"} {
		for _, size := range []int{4095, 4096, 4097, 5000, 100000} {
			text := "[a]\nx = 1\n"
			text += strings.Repeat(tail, size)[:size-len(text)]
			cut(t, text, "[a]", "x = 1")
			if size <= 4096 {
				becomes(t, text, list(one("a", "x", "1")), api.OK)
			} else {
				errs(t, text, api.ErrLong)
			}
		}
	}
	value := strings.Repeat("v", 4096-len("[a]\nx="))
	becomes(t, "[a]\nx="+value, list(one("a", "x", value)), api.OK)
	errs(t, "[a]\nx="+value+"v", api.ErrLong)
	errs(t, "[a]\nx="+value+"\n", api.ErrLong)
	errs(t, strings.Repeat("x", 4096), api.ErrForm)
	errs(t, strings.Repeat("x", 4097), api.ErrLong)
	errs(t, strings.Repeat("[a]\n", 1024), api.ErrExist)
	errs(t, strings.Repeat("[a]\n", 1025), api.ErrLong)
	errs(t, strings.Repeat("x = 1\n", 700), api.ErrLong)
	// What is printed may be longer than what is parsed.
	for size := 4090; size <= 4100; size++ {
		l := long(size)
		s, e := config.Print(l)
		if e != api.OK || len(s) != size {
			t.Errorf("Print of %d bytes: %d, %d", size, len(s), e)
		}
		if size <= 4096 {
			becomes(t, s, l, api.OK)
		} else {
			errs(t, s, api.ErrLong)
		}
	}
	huge := sections(16, 16)
	for i := range huge {
		for k := range huge[i].Keys {
			huge[i].Keys[k].Value = strings.Repeat("v", 5000)
		}
	}
	lists(t, huge)
}

// TestMany: 16 sections and 17, 16 keys in a section and 17.
func TestMany(t *testing.T) {
	for _, n := range []int{0, 1, 2, 15, 16, 17, 18, 40} {
		for _, keys := range []int{0, 1, 15, 16, 17, 18, 40} {
			l := sections(n, keys)
			may := n == 0 || n <= 16 && keys <= 16
			if lists(t, l) != may {
				t.Errorf("%d sections of %d keys: %t by the tests' own reading", n, keys, !may)
			}
			text := ""
			for _, s := range l {
				text += "[" + s.Name + "]\n"
				for _, p := range s.Keys {
					text += p.Key + "=" + p.Value + "\n"
				}
			}
			switch {
			case len(text) > 4096:
				errs(t, text, api.ErrLong)
			case may:
				becomes(t, text, l, api.OK)
			default:
				errs(t, text, api.ErrMany)
			}
		}
	}
	// The keys of one section don't count in the next one.
	becomes(t, "[a]\nx=\ny=\nz=\n[b]\nx=\ny=\nz=\n", list(one("a", "x", "", "y", "", "z", ""), one("b", "x", "", "y", "", "z", "")), api.OK)
	two := sections(2, 16)
	s, _ := config.Print(two)
	becomes(t, s, two, api.OK)
	for _, i := range []int{0, 1} {
		l := sections(2, 16)
		l[i].Keys = append(l[i].Keys, api.Pair{Key: "more"})
		mayNot(t, l)
	}
	mayNot(t, sections(17, 0))
	mayNot(t, slices.Repeat(sections(1, 1), 100000))
	mayNot(t, sections(1, 17))
	mayNot(t, list(api.Section{Name: "a", Keys: slices.Repeat(sections(1, 1)[0].Keys, 100000)}))
}

// TestPrint: lists that may be, told by hand.
func TestPrint(t *testing.T) {
	prints(t, nil, "")
	prints(t, list(), "")
	prints(t, list(one("a")), "[a]\n")
	prints(t, list(api.Section{Name: "a", Keys: []api.Pair{}}), "[a]\n")
	prints(t, list(one("b"), one("a")), "[b]\n[a]\n")
	prints(t, list(one("all", "pattern", ".*", "retentions", "60s:10m")), "[all]\npattern = .*\nretentions = 60s:10m\n")
	prints(t, list(one("a", "y", "2", "x", ""), one("b"), one("c", "x", "= 1")), "[a]\ny = 2\nx =\n[b]\n[c]\nx = = 1\n")
	prints(t, list(one(" a\t", "x", "1")), "[ a\t]\nx = 1\n")
}

// TestGet: a key that is there once, more often, and not; of sections that may not be, too.
func TestGet(t *testing.T) {
	for _, c := range []struct {
		s     api.Section
		key   string
		value string
		ok    bool
	}{
		{one("a", "x", "1"), "x", "1", true},
		{one("a", "x", "1", "y", "2", "z", "3"), "x", "1", true},
		{one("a", "x", "1", "y", "2", "z", "3"), "y", "2", true},
		{one("a", "x", "1", "y", "2", "z", "3"), "z", "3", true},
		{one("a", "x", ""), "x", "", true},
		{one("a", "x", "", "x", "1"), "x", "", true},
		{one("a", "x", "1", "x", "2"), "x", "1", true},
		{one("a", "y", "0", "x", "1", "x", "2", "x", "3"), "x", "1", true},
		{one("a", "x", "1"), "y", "", false},
		{one("a", "x", "1"), "X", "", false},
		{one("a", "x", "1"), "xx", "", false},
		{one("a", "xx", "1"), "x", "", false},
		{one("a", "x", "1"), "", "", false},
		{one("a", "x", "1"), "a", "", false},
		{one("a", "x", "1"), "1", "", false},
		{one("a", "x", "1"), " x", "", false},
		{one("a", "x", "1"), "x ", "", false},
		{one("a"), "x", "", false},
		{one("a"), "", "", false},
		{api.Section{}, "", "", false},
		{api.Section{}, "x", "", false},
		{api.Section{Name: "x", Keys: []api.Pair{}}, "x", "", false},
		{one("", "", "1"), "", "1", true},
		{one("a", "1 2", " 3\n"), "1 2", " 3\n", true},
		{one("a", "\xff", "\r"), "\xff", "\r", true},
		{one("a", "\xff", "1"), "\xfe", "", false},
		{one("a", strings.Repeat("k", 5000), "1"), strings.Repeat("k", 5000), "1", true},
		{one("a", strings.Repeat("k", 5000), "1"), strings.Repeat("k", 4999), "", false},
	} {
		if v, ok := config.Get(c.s, c.key); v != c.value || ok != c.ok {
			t.Errorf("Get(%s, %q) = %q, %t, want %q, %t", brief(c.s), c.key, v, ok, c.value, c.ok)
		}
		gives(t, c.s, c.key)
	}
	many := api.Section{Keys: append(slices.Repeat([]api.Pair{{Key: "y", Value: "1"}}, 100000), api.Pair{Key: "x", Value: "2"})}
	gives(t, many, "x")
	gives(t, many, "y")
	gives(t, many, "z")
	l, _ := config.Parse("[a]\nx = 1\ny =\n[b]\nx = 2\n")
	for i, want := range []string{"1", "2"} {
		if v, ok := config.Get(l[i], "x"); v != want || !ok {
			t.Errorf("x of section %d is %q, %t", i, v, ok)
		}
	}
	if v, ok := config.Get(l[0], "y"); v != "" || !ok {
		t.Errorf("y is %q, %t", v, ok)
	}
	if v, ok := config.Get(l[1], "y"); v != "" || ok {
		t.Errorf("y of the second section is %q, %t", v, ok)
	}
}
