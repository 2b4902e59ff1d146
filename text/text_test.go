package text_test

import (
	"math"
	"strings"
	"testing"

	"boulter/text"
)

func many(n int) string { return strings.Repeat("d", n) }

// P2.1: a field's text.
func TestRead(t *testing.T) {
	for field, want := range map[string]string{
		"":                     "",
		"a":                    "a",
		"ab":                   "ab",
		"ab\x00\x00":           "ab",
		"ab\x00x":              "ab",
		"ab\x00x\x00y":         "ab",
		"\x00":                 "",
		"\x00ab":               "",
		" a/b \x00":            " a/b ",
		"\xff\x80\x00":         "\xff\x80",
		"\u00e4\x00":           "\u00e4",
		many(100):              many(100),
		many(511) + "\x00":     many(511),
		many(5000) + "\x00abc": many(5000),
	} {
		if s := text.Read(field); s != want {
			t.Errorf("Read(%q): %q; want %q", field, s, want)
		}
	}
}

// P2.1: a text in so many bytes.
func TestWrite(t *testing.T) {
	for _, x := range []struct {
		s    string
		n    int
		want string
	}{
		{"ab", 4, "ab\x00\x00"},
		{"ab", 3, "ab\x00"},
		{"ab", 2, "ab"},
		{"", 0, ""},
		{"", 1, "\x00"},
		{"", 512, strings.Repeat("\x00", 512)},
		{"\xff", 2, "\xff\x00"},
		{"\u00e4", 2, "\u00e4"},
		{many(512), 512, many(512)},
		{many(511), 512, many(511) + "\x00"},
	} {
		if s, ok := text.Write(x.s, x.n); s != x.want || !ok {
			t.Errorf("Write(%q, %d): %q, %v; want %q", x.s, x.n, s, ok, x.want)
		}
	}
}

// P2.1: what has no such field; nothing stands beside the false.
func TestWriteWrong(t *testing.T) {
	for _, x := range []struct {
		s string
		n int
	}{
		{"ab", 1},
		{"a", 0},
		{"\u00e4", 1},
		{many(513), 512},
		{"\x00", 1},
		{"\x00", 4},
		{"a\x00", 4},
		{"a\x00b", 4},
		{"ab\x00", 2},
		{"", -1},
		{"a", -1},
		{"", 513},
		{"a", 513},
		{many(513), 513},
		{"", math.MaxInt},
		{"", math.MinInt},
	} {
		if s, ok := text.Write(x.s, x.n); s != "" || ok {
			t.Errorf("Write(%q, %d): %q, %v", x.s, x.n, s, ok)
		}
	}
}

// P2.1: a name in two fields, at the edges of both.
func TestPart(t *testing.T) {
	for _, x := range []struct{ name, prefix, base string }{
		{"", "", ""},
		{"a", "", "a"},
		{"a/b", "", "a/b"},
		{"/", "", "/"},
		{many(100), "", many(100)},
		{many(49) + "/" + many(50), "", many(49) + "/" + many(50)},
		{many(99) + "/", "", many(99) + "/"},
		{many(60) + "/" + many(60), many(60), many(60)},
		{many(50) + "/" + many(50), many(50), many(50)},
		{"a/" + many(99), "a", many(99)},
		{"a/" + many(100), "a", many(100)},
		{many(155) + "/b", many(155), "b"},
		{many(155) + "/" + many(100), many(155), many(100)},
		{many(155) + "//" + many(99), many(155), "/" + many(99)},
		{many(154) + "//" + many(100), many(154) + "/", many(100)},
		{"/a/" + many(98), "/a", many(98)},
		{"//" + many(100), "/", many(100)},
		{many(60) + "/" + many(60) + "/", many(60), many(60) + "/"},
		{many(60) + "/" + many(60) + "/b", many(60) + "/" + many(60), "b"},
		{"a/" + many(155) + "/b", "", ""},
		{many(50) + "/" + many(70) + "/" + many(70), many(50) + "/" + many(70), many(70)},
		{many(90) + "/" + many(90) + "/a", many(90), many(90) + "/a"},
		{strings.Repeat("/", 101), strings.Repeat("/", 99), "/"},
		{strings.Repeat("/", 256), strings.Repeat("/", 155), strings.Repeat("/", 100)},
		{"\xff/" + many(100), "\xff", many(100)},
	} {
		want := x.prefix != "" || len(x.name) <= 100
		if p, b, ok := text.Part(x.name); p != x.prefix || b != x.base || ok != want {
			t.Errorf("Part(%q): %q, %q, %v; want %q, %q", x.name, p, b, ok, x.prefix, x.base)
		}
	}
}

// P2.1: names that have no two fields; nothing stands beside the false.
func TestPartWrong(t *testing.T) {
	for _, name := range []string{
		many(101),
		many(5000),
		"/" + many(100),
		many(100) + "/",
		many(155) + "/",
		"/" + many(150) + "/",
		"a/" + many(101),
		"a/" + many(100) + "/",
		many(156) + "/a",
		many(155) + "/" + many(101),
		many(156) + "/" + many(100),
		"a/b/" + many(200) + "/c",
		strings.Repeat("/", 257),
	} {
		if p, b, ok := text.Part(name); p != "" || b != "" || ok {
			t.Errorf("Part(%q): %q, %q, %v", name, p, b, ok)
		}
	}
}

// rulePart is Part by the chapter's words: each slash is asked, the last one first.
func rulePart(name string) (prefix, base string, ok bool) {
	if len(name) <= 100 {
		return "", name, true
	}
	for at := len(name) - 1; at >= 0; at-- {
		ahead, behind := name[:at], name[at+1:]
		if name[at] == '/' && 1 <= len(ahead) && len(ahead) <= 155 && 1 <= len(behind) && len(behind) <= 100 {
			return ahead, behind, true
		}
	}
	return "", "", false
}

// P2.1, P2.2: names of many lengths with one slash or two, anywhere.
func TestPartByRule(t *testing.T) {
	check := func(name string) {
		prefix, base, ok := rulePart(name)
		p, b, k := text.Part(name)
		if p != prefix || b != base || k != ok {
			t.Fatalf("Part(%q): %q, %q, %v; want %q, %q, %v", name, p, b, k, prefix, base, ok)
		}
		if k && text.Join(p, b) != name {
			t.Fatalf("Join(%q, %q): %q; want %q", p, b, text.Join(p, b), name)
		}
	}
	for _, n := range []int{0, 1, 2, 99, 100, 101, 102, 154, 155, 156, 157, 158, 200, 254, 255, 256, 257, 258, 300} {
		check(many(n))
		for i := range n {
			name := []byte(many(n))
			name[i] = '/'
			check(string(name))
			for k := i + 1; k < n; k += 7 {
				name[k] = '/'
				check(string(name))
				name[k] = 'd'
			}
			name[n-1] = '/'
			check(string(name))
		}
	}
}

// P2.1: the name of two fields, of whatever lengths.
func TestJoin(t *testing.T) {
	for _, x := range []struct{ prefix, base, want string }{
		{"", "", ""},
		{"", "a", "a"},
		{"", "a/b", "a/b"},
		{"d", "a", "d/a"},
		{"d", "", "d/"},
		{"/", "a", "//a"},
		{"d/", "/a", "d///a"},
		{"\x00", "a", "\x00/a"},
		{many(155), many(100), many(155) + "/" + many(100)},
		{many(600), many(600), many(600) + "/" + many(600)},
	} {
		if s := text.Join(x.prefix, x.base); s != x.want {
			t.Errorf("Join(%q, %q): %q; want %q", x.prefix, x.base, s, x.want)
		}
	}
}

// P2.1: are all bytes NUL?
func TestBlank(t *testing.T) {
	nuls := strings.Repeat("\x00", 512)
	for s, want := range map[string]bool{
		"": true, "\x00": true, "\x00\x00": true, nuls: true,
		"a": false, " ": false, "0": false, "\x00a": false, "a\x00": false, "\x00a\x00": false, "\x80": false, "\xff\x00": false,
		nuls + "\x01": false, "\x01" + nuls: false, nuls + "\xff" + nuls: false,
	} {
		if text.Blank(s) != want {
			t.Errorf("Blank(%q): %v", s, !want)
		}
	}
}

// P2.2: Read of Write is the text.
func TestReadOfWrite(t *testing.T) {
	for n := range 513 {
		for _, s := range []string{"", "a", " ", "a/b", "\xff\x01", many(n / 2), many(max(n-1, 0)), many(n)} {
			field, ok := text.Write(s, n)
			if ok != (len(s) <= n) {
				t.Fatalf("Write(%q, %d): %v", s, n, ok)
			}
			if ok && (len(field) != n || text.Read(field) != s) {
				t.Fatalf("Write(%q, %d): %q, read as %q", s, n, field, text.Read(field))
			}
		}
	}
}

// P2.1: what is told stays as it was, and what is handed in, too, whatever is asked behind it.
func TestNothingIsShared(t *testing.T) {
	type told struct{ s, copied string }
	var all []told
	keep := func(s string) { all = append(all, told{s, strings.Clone(s)}) }
	for n := range 300 {
		name := many(n/2) + "/" + many(n-n/2)
		keep(name)
		field, _ := text.Write(name, 301)
		keep(field)
		keep(text.Read(field))
		prefix, base, _ := text.Part(name)
		keep(prefix)
		keep(base)
		keep(text.Join(prefix, base))
		text.Blank(field)
	}
	for _, x := range all {
		if x.s != x.copied {
			t.Fatalf("%q became %q", x.copied, x.s)
		}
	}
}
