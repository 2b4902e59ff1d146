package header_test

import (
	"math"
	"math/big"
	"math/rand"
	"regexp"
	"strconv"
	"strings"
	"testing"

	"boulter/api"
	"boulter/header"
)

const nul = "\x00"

// The three marks.
const (
	posixMark = "ustar\x0000"
	gnuMark   = "ustar  \x00"
	oldMark   = "\x00\x00\x00\x00\x00\x00\x00\x00"
)

var marks = map[int]string{api.Old: oldMark, api.Posix: posixMark, api.Gnu: gnuMark}

// place is where a field begins, and how many bytes it has.
type place struct{ at, n int }

var places = map[string]place{
	"Name": {0, 100}, "Mode": {100, 8}, "Uid": {108, 8}, "Gid": {116, 8}, "Size": {124, 12}, "Time": {136, 12},
	"sum": {148, 8}, "Kind": {156, 1}, "Link": {157, 100}, "mark": {257, 8}, "Uname": {265, 32}, "Gname": {297, 32},
	"Major": {329, 8}, "Minor": {337, 8}, "prefix": {345, 155}, "rest": {500, 12},
}

// numberFields stand in the order of their errors.
var numberFields = []string{"Mode", "Uid", "Gid", "Size", "Time", "Major", "Minor"}

func numberOf(h *api.Head, field string) *int {
	return map[string]*int{"Mode": &h.Mode, "Uid": &h.Uid, "Gid": &h.Gid, "Size": &h.Size, "Time": &h.Time, "Major": &h.Major, "Minor": &h.Minor}[field]
}

var textFields = []string{"Name", "Link", "Uname", "Gname"}

func textOf(h *api.Head, field string) *string {
	return map[string]*string{"Name": &h.Name, "Link": &h.Link, "Uname": &h.Uname, "Gname": &h.Gname}[field]
}

func nuls(n int) string { return strings.Repeat(nul, n) }

func many(n int) string { return strings.Repeat("d", n) }

// with is a block with a field that begins with those bytes.
func with(block, field, bytes string) string {
	p, ok := places[field]
	if !ok || len(bytes) > p.n {
		panic("no such field: " + field + " " + bytes)
	}
	return block[:p.at] + bytes + block[p.at+len(bytes):]
}

func fieldOf(block, field string) string {
	return block[places[field].at:][:places[field].n]
}

// plain is a block without a sum that tells of a file in that form.
func plain(form int) string {
	block := with(nuls(512), "Name", "a")
	block = with(block, "Mode", "0000644\x00")
	block = with(block, "Size", "00000000012\x00")
	return with(with(block, "Kind", "0"), "mark", marks[form])
}

func plainHead(form int) api.Head {
	return api.Head{Name: "a", Kind: '0', Mode: 420, Size: 10, Form: form}
}

// sealed is a block with its sum, as the sums' chapter has it.
func sealed(block string) string {
	return with(block, "sum", inOctal(ruleSum(block, 0), 6)+"\x00 ")
}

func inOctal(v, digits int) string {
	s := strconv.FormatInt(int64(v), 8)
	return strings.Repeat("0", max(digits-len(s), 0)) + s
}

// inBinary is a number in binary, if the field has room for it.
func inBinary(v, n int) string {
	field := make([]byte, n)
	field[0] = 0x80
	if v < 0 {
		field[0] = 0xff
	}
	for at := 1; at < n; at++ {
		field[at] = byte(v >> (8 * min(n-1-at, 7)))
	}
	return string(field)
}

func ruleSum(block string, less int) int {
	all := 0
	for at := 0; at < 512; at++ {
		b := int(block[at])
		if at >= 148 && at < 156 {
			b = ' '
		}
		if b > 127 {
			b -= less
		}
		all += b
	}
	return all
}

var octalField = regexp.MustCompile("^ *([0-7]*)([\x00 ][\x00 ]*)?$")

// ruleOctal tells -1, if the field isn't in octal.
func ruleOctal(field string) int {
	parts := octalField.FindStringSubmatch(field)
	if parts == nil {
		return -1
	}
	v, _ := strconv.ParseInt("0"+parts[1], 8, 64)
	return int(v)
}

// ruleNumber is a field's number by the words of layer 1.
func ruleNumber(field string) (int, api.Errno) {
	if field[0] != 0x80 && field[0] != 0xff {
		if v := ruleOctal(field); v >= 0 {
			return v, api.OK
		}
		return 0, api.ErrForm
	}
	v := new(big.Int).SetBytes([]byte(field[1:]))
	if field[0] == 0xff {
		v.Sub(v, new(big.Int).Exp(big.NewInt(256), big.NewInt(int64(len(field)-1)), nil))
	}
	if new(big.Int).Abs(v).Cmp(big.NewInt(api.MaxNumber)) > 0 {
		return 0, api.ErrRange
	}
	return int(v.Int64()), api.OK
}

func ruleText(field string) string {
	for at := range len(field) {
		if field[at] == 0 {
			return field[:at]
		}
	}
	return field
}

// ruleParse is Parse by the chapter's words.
func ruleParse(block string) (api.Head, api.Errno) {
	if len(block) != 512 {
		return api.Head{}, api.ErrArg
	}
	if v := ruleOctal(fieldOf(block, "sum")); v < 0 || v != ruleSum(block, 0) && v != ruleSum(block, 256) {
		return api.Head{}, api.ErrSum
	}
	h := api.Head{}
	for form, mark := range marks {
		if fieldOf(block, "mark") == mark {
			h.Form = form
		}
	}
	if h.Form == 0 {
		return api.Head{}, api.ErrForm
	}
	for _, field := range numberFields {
		if h.Form == api.Old && field[0] == 'M' && field != "Mode" {
			continue
		}
		v, e := ruleNumber(fieldOf(block, field))
		if e != api.OK {
			return api.Head{}, e
		}
		if v < 0 && field != "Time" {
			return api.Head{}, api.ErrRange
		}
		*numberOf(&h, field) = v
	}
	for _, field := range textFields {
		if h.Form != api.Old || field == "Name" || field == "Link" {
			*textOf(&h, field) = ruleText(fieldOf(block, field))
		}
	}
	if prefix := ruleText(fieldOf(block, "prefix")); h.Form == api.Posix && prefix != "" {
		h.Name = prefix + "/" + h.Name
	}
	h.Kind = block[156]
	if h.Kind == 0 {
		h.Kind = '0'
	}
	return h, api.OK
}

// rulePart goes through all slashes, from the last one on.
func rulePart(name string) (prefix, base string, ok bool) {
	if len(name) <= 100 {
		return "", name, true
	}
	for at := len(name) - 1; at > 0; at-- {
		if base := name[at+1:]; name[at] == '/' && at <= 155 && base != "" && len(base) <= 100 {
			return name[:at], base, true
		}
	}
	return "", "", false
}

// ruleFits is Fits by the chapter's words.
func ruleFits(h api.Head) api.Errno {
	for _, field := range textFields {
		if strings.Contains(*textOf(&h, field), nul) {
			return api.ErrForm
		}
	}
	if _, _, ok := rulePart(h.Name); !ok || len(h.Link) > 100 || len(h.Uname) > 32 || len(h.Gname) > 32 {
		return api.ErrLong
	}
	for _, field := range numberFields {
		v := *numberOf(&h, field)
		if v < 0 || len(strconv.FormatInt(int64(v), 8)) > places[field].n-1 {
			return api.ErrRange
		}
	}
	return api.OK
}

// ruleBuild is Build by the chapter's words.
func ruleBuild(h api.Head) (string, api.Errno) {
	if e := ruleFits(h); e != api.OK {
		return "", e
	}
	block := with(nuls(512), "mark", posixMark)
	prefix, base, _ := rulePart(h.Name)
	block = with(with(block, "prefix", prefix), "Name", base)
	for _, field := range textFields[1:] {
		block = with(block, field, *textOf(&h, field))
	}
	for _, field := range numberFields {
		block = with(block, field, inOctal(*numberOf(&h, field), places[field].n-1))
	}
	kind := "0"
	if h.Kind != 0 {
		kind = string([]byte{h.Kind})
	}
	return sealed(with(block, "Kind", kind)), api.OK
}

func checkParse(t *testing.T, block string, want api.Head, fault api.Errno) {
	t.Helper()
	if h, e := header.Parse(block); h != want || e != fault {
		t.Errorf("Parse(%q): %+v, %d; want %+v, %d", block, h, e, want, fault)
	}
}

func checkParseByRule(t *testing.T, block string) {
	t.Helper()
	h, e := ruleParse(block)
	checkParse(t, block, h, e)
}

// checkBuild also holds Fits against Build.
func checkBuild(t *testing.T, h api.Head, want string, fault api.Errno) {
	t.Helper()
	if s, e := header.Build(h); s != want || e != fault {
		t.Errorf("Build(%+v): %q, %d; want %q, %d", h, s, e, want, fault)
	}
	if e := header.Fits(h); e != fault {
		t.Errorf("Fits(%+v): %d; want %d", h, e, fault)
	}
}

func checkBuildByRule(t *testing.T, h api.Head) {
	t.Helper()
	s, e := ruleBuild(h)
	checkBuild(t, h, s, e)
}

// P5.1: the chapter's example, and a block all of whose bytes are written out.
func TestExamples(t *testing.T) {
	block, e := header.Build(api.Head{Name: "a", Kind: '0', Mode: 420})
	if e != api.OK || block[100:108] != "0000644\x00" {
		t.Errorf("%q, %d", block, e)
	}
	noughts := "0000000\x00"
	checkBuild(t, api.Head{Name: "a", Kind: '0', Mode: 420}, "a"+nuls(99)+"0000644\x00"+noughts+noughts+"00000000000\x0000000000000\x00"+
		"007336\x00 0"+nuls(100)+"ustar\x0000"+nuls(64)+noughts+noughts+nuls(167), api.OK)
	h := api.Head{Name: many(120) + "/" + many(90), Link: "e/f", Kind: '2', Mode: 0o755, Uid: 1000, Gid: 100, Size: 1 << 30, Time: 1234567890,
		Uname: "root", Gname: "wheel", Major: 8, Minor: 0o7777777, Form: api.Gnu}
	whole := sealed(many(90) + nuls(10) + "0000755\x000001750\x000000144\x0010000000000\x0011145401322\x00" + nuls(8) + "2e/f" + nuls(97) +
		"ustar\x0000root" + nuls(28) + "wheel" + nuls(27) + "0000010\x007777777\x00" + many(120) + nuls(47))
	checkBuild(t, h, whole, api.OK)
	h.Form = api.Posix
	checkParse(t, whole, h, api.OK)
}

// P5.1: each text's field, from its first byte to its last one, alone and with all others.
func TestParseTexts(t *testing.T) {
	for form := range marks {
		for _, field := range textFields {
			n := places[field].n
			for _, x := range []struct{ bytes, want string }{
				{nul, ""}, {"x\x00", "x"}, {many(n), many(n)}, {many(n-1) + nul, many(n - 1)}, {many(n/2) + nul + many(n-n/2-1), many(n / 2)},
				{nul + many(n-1), ""}, {"\xff\x80\x00", "\xff\x80"}, {" a/b \x00", " a/b "}, {"\u00e4\n\x00x", "\u00e4\n"},
			} {
				want := plainHead(form)
				if form != api.Old || field == "Name" || field == "Link" {
					*textOf(&want, field) = x.want
				}
				checkParse(t, sealed(with(plain(form), field, x.bytes)), want, api.OK)
			}
		}
		full := plain(form)
		for field, fill := range map[string]string{"Name": "n", "Link": "l", "Uname": "u", "Gname": "g", "prefix": "p", "rest": "r"} {
			full = with(full, field, strings.Repeat(fill, places[field].n))
		}
		want := plainHead(form)
		want.Name, want.Link = strings.Repeat("n", 100), strings.Repeat("l", 100)
		if form != api.Old {
			want.Uname, want.Gname = strings.Repeat("u", 32), strings.Repeat("g", 32)
		}
		if form == api.Posix {
			want.Name = strings.Repeat("p", 155) + "/" + want.Name
		}
		checkParse(t, sealed(full), want, api.OK)
	}
}

// P5.1: of the form Posix alone the name is joined of two fields.
func TestParsePrefix(t *testing.T) {
	for _, x := range []struct{ prefix, base, want string }{
		{"d\x00", "a\x00", "d/a"}, {"d\x00", nul, "d/"}, {nul, "a\x00", "a"}, {nul, nul, ""}, {nul + many(154), "a\x00", "a"}, {"d\x00e", "a\x00b", "d/a"},
		{"d/\x00", "a\x00", "d//a"}, {"/\x00", "/a\x00", "///a"}, {many(155), many(100), many(155) + "/" + many(100)}, {many(155), nul, many(155) + "/"},
		{many(154) + nul, "a\x00", many(154) + "/a"}, {"\xff\x00", "\xfe\x00", "\xff/\xfe"}, {".\x00", ".\x00", "./."},
	} {
		for form := range marks {
			want := plainHead(form)
			want.Name = x.want
			if form != api.Posix {
				want.Name = ruleText(x.base)
			}
			checkParse(t, sealed(with(with(plain(form), "prefix", x.prefix), "Name", x.base)), want, api.OK)
		}
	}
}

// P5.1: each number's field, in octal and in binary, with all others beside it.
func TestParseNumbers(t *testing.T) {
	for form := range marks {
		for _, field := range numberFields {
			if form == api.Old && (field == "Major" || field == "Minor") {
				continue
			}
			n := places[field].n
			for bytes, v := range map[string]int{
				nuls(n):                                 0,
				strings.Repeat(" ", n):                  0,
				inOctal(0o1234567, n-1) + nul:           0o1234567,
				inOctal(0o1234567, n-1) + " ":           0o1234567,
				inOctal(0o1234567, n):                   0o1234567,
				strings.Repeat("7", n-1) + nul:          1<<(3*n-3) - 1,
				strings.Repeat("7", n):                  1<<(3*n) - 1,
				" 12\x00" + nuls(n-4):                   10,
				strings.Repeat(" ", n-1) + "5":          5,
				inBinary(0, n):                          0,
				inBinary(1<<(3*n-3), n):                 1 << (3*n - 3),
				inBinary(api.MaxNumber, n):              api.MaxNumber,
				inBinary(1<<40+12345, n):                1<<40 + 12345,
				"\x80" + nuls(n-8) + inBinary(7, 8)[1:]: 7,
			} {
				want := plainHead(form)
				*numberOf(&want, field) = v
				checkParse(t, sealed(with(plain(form), field, bytes)), want, api.OK)
			}
		}
	}
}

// P5.1: each field stands where it should, whatever stands in all others.
func TestParsePlaces(t *testing.T) {
	for form := range marks {
		block := plain(form)
		want := plainHead(form)
		for at, field := range numberFields {
			block = with(block, field, inOctal(0o1000+at, places[field].n-1)+nul)
			*numberOf(&want, field) = 0o1000 + at
		}
		for _, field := range textFields {
			block = with(block, field, "in "+field)
			*textOf(&want, field) = "in " + field
		}
		if form == api.Old {
			want.Uname, want.Gname, want.Major, want.Minor = "", "", 0, 0
		}
		block, want.Kind = with(block, "Kind", "5"), '5'
		checkParse(t, sealed(block), want, api.OK)
		for at := range 512 {
			for _, b := range []byte{0, '1', '7', ' ', 'x', 0xff, 0x80} {
				checkParseByRule(t, sealed(block[:at]+string([]byte{b})+block[at+1:]))
			}
		}
	}
}

// P5.1: numbers that a field may not tell; nothing stands beside the error.
func TestParseWrongNumbers(t *testing.T) {
	for form := range marks {
		for _, field := range numberFields {
			n := places[field].n
			for bytes, fault := range map[string]api.Errno{
				"8\x00":                              api.ErrForm,
				"x":                                  api.ErrForm,
				"-1\x00":                             api.ErrForm,
				"+1\x00":                             api.ErrForm,
				"\x001":                              api.ErrForm,
				"1\x001":                             api.ErrForm,
				"1 1\x00":                            api.ErrForm,
				"\t1\x00":                            api.ErrForm,
				"\x81" + nuls(n-1):                   api.ErrForm,
				"\xfe" + nuls(n-1):                   api.ErrForm,
				inOctal(1, n-1) + "9":                api.ErrForm,
				inOctal(1, n-1) + "\x80":             api.ErrForm,
				"\x80" + strings.Repeat("\xff", n-1): api.ErrRange,
				"\x80" + strings.Repeat("\x00", n-8) + "\x20\x00\x00\x00\x00\x00\x00": api.ErrRange,
				"\xff" + nuls(n-1):            api.ErrRange,
				inBinary(-api.MaxNumber-1, n): api.ErrRange,
			} {
				block := sealed(with(plain(form), field, bytes))
				if form == api.Old && (field == "Major" || field == "Minor") {
					checkParse(t, block, plainHead(form), api.OK)
					continue
				}
				checkParse(t, block, api.Head{}, fault)
			}
		}
	}
}

// P5.1: of all numbers the time alone may be below 0.
func TestParseBelow(t *testing.T) {
	for form := range marks {
		for _, field := range numberFields {
			for _, v := range []int{-1, -2, -256, -1 << 30, -api.MaxNumber} {
				want, fault := plainHead(form), api.OK
				switch {
				case field == "Time":
					want.Time = v
				case form != api.Old || field[0] != 'M' || field == "Mode":
					want, fault = api.Head{}, api.ErrRange
				}
				checkParse(t, sealed(with(plain(form), field, inBinary(v, places[field].n))), want, fault)
			}
		}
	}
}

// P5.1: what the marks tell, and what is none.
func TestParseMarks(t *testing.T) {
	for form, mark := range marks {
		checkParse(t, sealed(plain(form)), plainHead(form), api.OK)
		for at := range 8 {
			for b := range 256 {
				if mark[at] == byte(b) {
					continue
				}
				other := mark[:at] + string([]byte{byte(b)}) + mark[at+1:]
				checkParse(t, sealed(with(plain(form), "mark", other)), api.Head{}, api.ErrForm)
			}
		}
	}
	for _, mark := range []string{
		"ustar\x00\x00\x00", "ustar   ", "ustar  0", "ustar 00", "ustar000", "ustar\x00 \x00", "ustar\x00  ", "ustar\x0010", "ustar\x0001", "USTAR\x0000", "Ustar  \x00",
		"        ", "00000000", "ustar", "\x00ustar00", "ustar 0\x00", "ustar0\x000", "\xff\xff\xff\xff\xff\xff\xff\xff",
	} {
		checkParse(t, sealed(with(plain(api.Old), "mark", mark)), api.Head{}, api.ErrForm)
	}
}

// P5.1: a kind may be any byte; a NUL counts as 0 in digits.
func TestParseKinds(t *testing.T) {
	for form := range marks {
		for b := range 256 {
			want := plainHead(form)
			want.Kind = byte(b)
			if b == 0 {
				want.Kind = api.File
			}
			checkParse(t, sealed(with(plain(form), "Kind", string([]byte{byte(b)}))), want, api.OK)
		}
	}
}

// P5.1: of the form Old four fields more aren't looked at, of others than Posix the prefix isn't, and the rest never is.
func TestParseNotLookedAt(t *testing.T) {
	for form := range marks {
		unseen := []string{"rest"}
		if form != api.Posix {
			unseen = append(unseen, "prefix")
		}
		if form == api.Old {
			unseen = append(unseen, "Uname", "Gname", "Major", "Minor")
		}
		for _, field := range unseen {
			n := places[field].n
			for _, fill := range []string{"x", "7", " ", "8", "\xff", "\x80", "/"} {
				checkParse(t, sealed(with(plain(form), field, strings.Repeat(fill, n))), plainHead(form), api.OK)
				checkParse(t, sealed(with(plain(form), field, nuls(n-1)+fill)), plainHead(form), api.OK)
			}
		}
	}
}

// P5.1: the signed sum is right, too, and the sum's field may stand in all ways in octal.
func TestParseSums(t *testing.T) {
	for form := range marks {
		want := plainHead(form)
		want.Name = "\xff\xfe"
		block := with(plain(form), "Name", want.Name)
		for _, v := range []int{ruleSum(block, 0), ruleSum(block, 256)} {
			for _, field := range []string{inOctal(v, 6) + "\x00 ", inOctal(v, 7) + nul, inOctal(v, 8), " " + inOctal(v, 6) + " ", inOctal(v, 6) + "  "} {
				checkParse(t, with(block, "sum", field), want, api.OK)
			}
			for _, field := range []string{inOctal(v+1, 6) + "\x00 ", inOctal(v-1, 6) + "\x00 ", inOctal(v+256, 6) + "\x00 ", inBinary(v, 8), inOctal(v, 6) + " x", nuls(8), "        ", "\xff\xff\xff\xff\xff\xff\xff\xff"} {
				checkParse(t, with(block, "sum", field), api.Head{}, api.ErrSum)
			}
		}
	}
	checkParse(t, nuls(512), api.Head{}, api.ErrSum)
	checkParse(t, sealed(nuls(512)), api.Head{Kind: '0', Form: api.Old}, api.OK)
}

// P5.1: a byte that isn't as the sum has it.
func TestParseChanged(t *testing.T) {
	for form := range marks {
		block := sealed(plain(form))
		for at := range 512 {
			for _, bit := range []byte{1, 2, 16, 64} {
				other := block[:at] + string([]byte{block[at] ^ bit}) + block[at+1:]
				checkParseByRule(t, other)
				if at < 148 || at >= 156 {
					checkParse(t, other, api.Head{}, api.ErrSum)
				}
			}
		}
	}
}

// P5.1: what hasn't 512 bytes, right ones among them but for a byte, or for many.
func TestParseWrongSizes(t *testing.T) {
	for form := range marks {
		block := sealed(plain(form))
		for _, s := range []string{block[:511], block[1:], block[:500], block + nul, nul + block, block + block, block[:256], block + nuls(512)} {
			checkParse(t, s, api.Head{}, api.ErrArg)
		}
	}
	for _, n := range []int{0, 1, 8, 100, 256, 257, 265, 345, 500, 511, 513, 1024, 65536} {
		for _, fill := range []string{nul, " ", "a", "\xff"} {
			checkParse(t, strings.Repeat(fill, n), api.Head{}, api.ErrArg)
		}
	}
}

// P5.1: of several errors the one that the chapter names first.
func TestParseOrder(t *testing.T) {
	for form := range marks {
		negative := with(plain(form), "Mode", inBinary(-1, 8))
		noMark := with(negative, "mark", "ustar\x0099")
		noSum := with(noMark, "sum", "0000001\x00")
		checkParse(t, sealed(negative), api.Head{}, api.ErrRange)
		checkParse(t, sealed(noMark), api.Head{}, api.ErrForm)
		checkParse(t, noSum, api.Head{}, api.ErrSum)
		checkParse(t, noSum[:511], api.Head{}, api.ErrArg)
		checkParse(t, with(with(plain(form), "Mode", "x"), "sum", "0000001\x00"), api.Head{}, api.ErrSum)
		checkParse(t, with(with(plain(form), "mark", "x"), "sum", "0000001\x00"), api.Head{}, api.ErrSum)
	}
}

// P5.1: of several wrong numbers the first one's error, each for all its errors.
func TestParseNumbersOrder(t *testing.T) {
	for form := range marks {
		for first, a := range numberFields {
			for _, b := range numberFields[first+1:] {
				beyond := "\x80" + strings.Repeat("\xff", 7)
				for _, x := range []struct {
					a, b  string
					fault api.Errno
				}{
					{"x", beyond, api.ErrForm}, {beyond, "x", api.ErrRange}, {"9", beyond, api.ErrForm}, {"\xff", "\x81", api.ErrRange},
				} {
					block := sealed(with(with(plain(form), a, x.a), b, x.b))
					checkParseByRule(t, block)
					if form != api.Old || a != "Major" {
						checkParse(t, block, api.Head{}, x.fault)
					}
				}
				if a == "Time" {
					continue
				}
				below := with(with(plain(form), a, inBinary(-1, places[a].n)), b, "x")
				checkParseByRule(t, sealed(below))
				checkParseByRule(t, sealed(with(with(plain(form), b, inBinary(-1, places[b].n)), a, "x")))
			}
		}
	}
}

// P5.1: blocks whose fields are of all kinds, some of them wrong, by a fixed seed.
func TestParseByRule(t *testing.T) {
	source := rand.New(rand.NewSource(5))
	heads, faults := 0, map[api.Errno]int{}
	for range 20000 {
		block := someBlock(source)
		checkParseByRule(t, block)
		if _, e := ruleParse(block); e == api.OK {
			heads++
		} else {
			faults[e]++
		}
	}
	if heads < 1000 || faults[api.ErrArg] < 100 || faults[api.ErrSum] < 100 || faults[api.ErrForm] < 1000 || faults[api.ErrRange] < 500 {
		t.Errorf("too few of a kind: %d, %v", heads, faults)
	}
}

func pick(source *rand.Rand, l ...string) string { return l[source.Intn(len(l))] }

func someBlock(source *rand.Rand) string {
	block := nuls(512)
	for field, p := range places {
		if field == "sum" || field == "mark" {
			continue
		}
		block = with(block, field, someBytes(source, p.n))
	}
	for _, field := range numberFields {
		block = with(block, field, someNumber(source, places[field].n))
	}
	block = with(block, "mark", pick(source, oldMark, posixMark, gnuMark, posixMark, gnuMark, oldMark, someBytes(source, 8)))
	switch source.Intn(40) {
	case 0:
		return with(block, "sum", someNumber(source, 8))
	case 1:
		return sealed(block)[:source.Intn(512)]
	case 2:
		return sealed(block) + someBytes(source, 1+source.Intn(512))
	case 3:
		return with(block, "sum", inOctal(max(ruleSum(block, 256), 0), 7)+nul)
	}
	return sealed(block)
}

func someBytes(source *rand.Rand, n int) string {
	bytes := make([]byte, n)
	source.Read(bytes)
	if source.Intn(2) == 0 {
		for at := range bytes {
			bytes[at] = "\x00/ab "[int(bytes[at])%5]
		}
	}
	text := source.Intn(n + 1)
	return string(bytes[:text]) + nuls(n-text)
}

func someNumber(source *rand.Rand, n int) string {
	v := source.Intn(1 << (1 + source.Intn(20)))
	switch source.Intn(60) {
	case 0:
		return someBytes(source, n)
	case 1:
		return inBinary(-v, n)
	case 2:
		return "\x80" + strings.Repeat("\xff", n-1)
	case 3:
		return inBinary(-api.MaxNumber-source.Intn(2), n)
	case 4, 5, 6:
		return inBinary(api.MaxNumber-v, n)
	case 7, 8, 9:
		return nuls(n)
	case 10, 11, 12:
		return strings.Repeat(" ", n-7) + inOctal(v, 7)
	}
	return inOctal(v, n-1) + pick(source, nul, " ")
}

// P5.1: texts that fit, from the empty one to the longest, and those that don't.
func TestFitsTexts(t *testing.T) {
	for _, form := range []int{0, api.Old, api.Posix, api.Gnu, 4, -1, math.MaxInt, math.MinInt} {
		for _, x := range []struct {
			field, s string
			fault    api.Errno
		}{
			{"Name", "", api.OK}, {"Name", "a", api.OK}, {"Name", many(100), api.OK}, {"Name", many(101), api.ErrLong}, {"Name", many(50) + "/" + many(50), api.OK},
			{"Name", "a/" + many(100), api.OK}, {"Name", "a/" + many(101), api.ErrLong}, {"Name", "/" + many(100), api.ErrLong}, {"Name", "//" + many(100), api.OK},
			{"Name", many(155) + "/" + many(100), api.OK}, {"Name", many(156) + "/" + many(100), api.ErrLong}, {"Name", many(155) + "/" + many(101), api.ErrLong},
			{"Name", many(156) + "/a", api.ErrLong}, {"Name", many(100) + "/", api.ErrLong}, {"Name", many(60) + "/" + many(60) + "/", api.OK},
			{"Name", many(4096), api.ErrLong}, {"Name", strings.Repeat("d/", 128), api.OK}, {"Name", strings.Repeat("d/", 129), api.ErrLong},
			{"Name", nul, api.ErrForm}, {"Name", "a\x00", api.ErrForm}, {"Name", "\x00a", api.ErrForm}, {"Name", many(300) + nul, api.ErrForm},
			{"Link", "", api.OK}, {"Link", many(100), api.OK}, {"Link", many(101), api.ErrLong}, {"Link", many(50) + "/" + many(60), api.ErrLong}, {"Link", "a\x00", api.ErrForm},
			{"Link", many(101) + nul, api.ErrForm}, {"Link", nul + many(101), api.ErrForm}, {"Link", "\xff\xfe/", api.OK},
			{"Uname", "", api.OK}, {"Uname", many(31), api.OK}, {"Uname", many(32), api.OK}, {"Uname", many(33), api.ErrLong}, {"Uname", nul, api.ErrForm}, {"Uname", many(33) + nul, api.ErrForm},
			{"Gname", "", api.OK}, {"Gname", many(31), api.OK}, {"Gname", many(32), api.OK}, {"Gname", many(33), api.ErrLong}, {"Gname", "g\x00", api.ErrForm}, {"Gname", many(33) + nul, api.ErrForm},
		} {
			h := plainHead(form)
			*textOf(&h, x.field) = x.s
			block, e := ruleBuild(h)
			if e != x.fault {
				t.Fatalf("%+v: %d; want %d", h, e, x.fault)
			}
			checkBuild(t, h, block, x.fault)
		}
	}
}

// P5.1: each number from 0 to what its field holds in octal, and just beyond.
func TestFitsNumbers(t *testing.T) {
	for _, field := range numberFields {
		most := 1<<21 - 1
		if field == "Size" || field == "Time" {
			most = 1<<33 - 1
		}
		for _, v := range []int{0, 1, 7, 8, 420, most / 2, most - 1, most} {
			h := plainHead(api.Posix)
			*numberOf(&h, field) = v
			block, _ := ruleBuild(h)
			checkBuild(t, h, block, api.OK)
			if s := fieldOf(block, field); s != inOctal(v, len(s)-1)+nul {
				t.Errorf("%s: %q", field, s)
			}
		}
		for _, v := range []int{-1, -8, most + 1, most * 2, most * 8, 1 << 40, api.MaxNumber, api.MaxNumber + 1, -api.MaxNumber, math.MaxInt, math.MinInt, -most, 1 << 62} {
			h := plainHead(api.Posix)
			*numberOf(&h, field) = v
			checkBuild(t, h, "", api.ErrRange)
		}
	}
}

// P5.1: a kind may be any byte; a NUL stands as 0 in digits, and the form never counts.
func TestBuildKindsAndForms(t *testing.T) {
	for b := range 256 {
		for _, form := range []int{0, api.Old, api.Posix, api.Gnu, -7, 99} {
			h := plainHead(form)
			h.Kind = byte(b)
			want := byte(b)
			if b == 0 {
				want = '0'
			}
			block, e := header.Build(h)
			if e != api.OK || len(block) != 512 || block[156] != want || fieldOf(block, "mark") != posixMark {
				t.Errorf("Build(%+v): %q, %d", h, block, e)
			}
			checkBuildByRule(t, h)
		}
	}
	for _, h := range []api.Head{{}, {Kind: '0'}, {Form: api.Gnu}} {
		checkBuild(t, h, sealed(with(with(ruleNoughts(), "mark", posixMark), "Kind", "0")), api.OK)
	}
}

// ruleNoughts is a block of NULs whose numbers are 0.
func ruleNoughts() string {
	block := nuls(512)
	for _, field := range numberFields {
		block = with(block, field, inOctal(0, places[field].n-1))
	}
	return block
}

// P5.1: where several errors apply, a NUL comes first, then what is too long, then numbers, whichever field they are of.
func TestFitsOrder(t *testing.T) {
	for _, a := range textFields {
		for _, b := range textFields {
			for _, c := range numberFields {
				h := plainHead(api.Posix)
				*numberOf(&h, c) = -1
				checkBuild(t, h, "", api.ErrRange)
				*textOf(&h, b) = many(101)
				checkBuild(t, h, "", api.ErrLong)
				*textOf(&h, a) += nul
				checkBuild(t, h, "", api.ErrForm)
			}
		}
	}
}

// P5.1: heads of all kinds, some of them wrong, by a fixed seed. P5.2: those that are built are parsed as they were.
func TestBuildByRule(t *testing.T) {
	source := rand.New(rand.NewSource(55))
	built, faults := 0, map[api.Errno]int{}
	for range 20000 {
		h := someHead(source)
		block, e := ruleBuild(h)
		checkBuild(t, h, block, e)
		if e != api.OK {
			faults[e]++
			continue
		}
		built++
		checkBuiltIsParsed(t, h)
	}
	if built < 5000 || faults[api.ErrForm] < 100 || faults[api.ErrLong] < 500 || faults[api.ErrRange] < 500 {
		t.Errorf("too few of a kind: %d, %v", built, faults)
	}
}

func someHead(source *rand.Rand) api.Head {
	h := api.Head{Kind: byte(source.Intn(256)), Form: source.Intn(6) - 1}
	for _, field := range textFields {
		n := source.Intn(places[field].n + 1)
		switch source.Intn(20) {
		case 0:
			n += source.Intn(250)
		case 1, 2, 3, 4:
			n = source.Intn(4)
		case 5, 6:
			if field == "Name" {
				n = 100 + source.Intn(160)
			}
		}
		letters := pick(source, "ab", "a/b", "a/", "abcdefgh/", "\xff\x80/ ")
		bytes := make([]byte, n)
		for at := range bytes {
			bytes[at] = letters[source.Intn(len(letters))]
		}
		if n > 0 && source.Intn(80) == 0 {
			bytes[source.Intn(n)] = 0
		}
		*textOf(&h, field) = string(bytes)
	}
	for _, field := range numberFields {
		v := source.Intn(1 << (3*places[field].n - 3))
		switch source.Intn(60) {
		case 0:
			v = -v - 1
		case 1:
			v += 1 << (3*places[field].n - 3)
		case 2:
			v = int(source.Uint64())
		}
		*numberOf(&h, field) = v
	}
	return h
}

// checkBuiltIsParsed is P5.2 for a head that fits.
func checkBuiltIsParsed(t *testing.T, h api.Head) {
	t.Helper()
	block, e := header.Build(h)
	if e != api.OK {
		t.Errorf("Build(%+v): %d", h, e)
		return
	}
	h.Form = api.Posix
	if h.Kind == 0 {
		h.Kind = '0'
	}
	checkParse(t, block, h, api.OK)
	checkBuild(t, h, block, api.OK)
}

// P5.2: at the edges of all fields at once, and for each kind.
func TestBuiltIsParsed(t *testing.T) {
	full := api.Head{Name: many(155) + "/" + many(100), Link: many(100), Uname: many(32), Gname: many(32), Kind: 'L',
		Mode: 1<<21 - 1, Uid: 1<<21 - 1, Gid: 1<<21 - 1, Size: 1<<33 - 1, Time: 1<<33 - 1, Major: 1<<21 - 1, Minor: 1<<21 - 1, Form: api.Old}
	checkBuiltIsParsed(t, full)
	checkBuiltIsParsed(t, api.Head{})
	for b := range 256 {
		full.Kind = byte(b)
		checkBuiltIsParsed(t, full)
		checkBuiltIsParsed(t, api.Head{Kind: byte(b), Name: string([]byte{byte(max(b, 1))})})
	}
	for n := range 300 {
		for _, name := range []string{many(n), "/" + many(n), many(n) + "/", many(n) + "/a", many(n) + "//" + many(n/2), many(n/2) + "/" + many(n/2), strings.Repeat("/", n), strings.Repeat("ab/", n/3), strings.Repeat("\xff", n)} {
			h := plainHead(api.Gnu)
			h.Name = name
			checkBuildByRule(t, h)
			if ruleFits(h) == api.OK {
				checkBuiltIsParsed(t, h)
			}
		}
	}
}

// P5.1: each call's answer hangs on its argument alone, and stays as it was, whatever is asked behind it.
func TestNothingIsKept(t *testing.T) {
	source := rand.New(rand.NewSource(555))
	var blocks, copied []string
	var heads, wanted []api.Head
	for range 500 {
		block := someBlock(source)
		h, _ := header.Parse(block)
		want, _ := ruleParse(strings.Clone(block))
		blocks, copied = append(blocks, block), append(copied, strings.Clone(block))
		heads, wanted = append(heads, h), append(wanted, want)
		given := someHead(source)
		built, _ := header.Build(given)
		again, _ := ruleBuild(given)
		blocks, copied = append(blocks, built), append(copied, strings.Clone(again))
		header.Fits(someHead(source))
	}
	for at := range blocks {
		if blocks[at] != copied[at] {
			t.Fatalf("%q became %q", copied[at], blocks[at])
		}
	}
	for at := range heads {
		if heads[at] != wanted[at] {
			t.Fatalf("%+v became %+v", wanted[at], heads[at])
		}
	}
	for at := range copied {
		checkParseByRule(t, copied[at])
	}
}
