package octal_test

import (
	"math"
	"math/big"
	"regexp"
	"strconv"
	"strings"
	"testing"

	"boulter/api"
	"boulter/octal"
)

// sizes are the sizes of fields, what lies beside them, and the ends of all numbers.
var sizes = []int{math.MinInt, -8, -1, 0, 1, 2, 3, 4, 5, 6, 7, 8, 9, 10, 11, 12, 13, 14, 64, math.MaxInt}

// edges are numbers at and beside all places where an answer turns.
func edges() []int {
	var l []int
	beside := func(v int) { l = append(l, v-1, v, v+1, -v-1, -v, -v+1) }
	for bits := 0; bits <= 62; bits++ {
		beside(1 << bits)
	}
	l = append(l, 0, 8, 300, 420, 0o644, math.MaxInt-1, math.MaxInt, math.MinInt, math.MinInt+1)
	beside(api.MaxNumber)
	for v := -1100; v <= 1100; v++ {
		l = append(l, v)
	}
	return l
}

func isField(n int) bool { return 2 <= n && n <= 12 }

func isNumber(v int) bool { return -api.MaxNumber <= v && v <= api.MaxNumber }

var inOctal = regexp.MustCompile(`^ *([0-7]*)([\x00 ][\x00 ]*)?$`)

// ruleRead is Read by the chapter's words, with numbers of any size.
func ruleRead(field string) (int, api.Errno) {
	if !isField(len(field)) {
		return 0, api.ErrArg
	}
	number := new(big.Int)
	if field[0] == 0x80 || field[0] == 0xff {
		number.SetBytes([]byte(field[1:]))
		if field[0] == 0xff {
			number.Sub(number, new(big.Int).Lsh(big.NewInt(1), uint(8*(len(field)-1))))
		}
	} else {
		parts := inOctal.FindStringSubmatch(field)
		if parts == nil {
			return 0, api.ErrForm
		}
		number.SetString("0"+parts[1], 8)
	}
	if new(big.Int).Abs(number).Cmp(big.NewInt(api.MaxNumber)) > 0 {
		return 0, api.ErrRange
	}
	return int(number.Int64()), api.OK
}

// ruleOctal is Octal by the chapter's words.
func ruleOctal(v, n int) (string, bool) {
	if !isField(n) || v < 0 {
		return "", false
	}
	digits := strconv.FormatInt(int64(v), 8)
	if len(digits) > n-1 {
		return "", false
	}
	return strings.Repeat("0", n-1-len(digits)) + digits + "\x00", true
}

// ruleBinary is Binary by the chapter's words.
func ruleBinary(v, n int) (string, bool) {
	if !isField(n) {
		return "", false
	}
	first, number := "\x80", big.NewInt(int64(v))
	all := new(big.Int).Lsh(big.NewInt(1), uint(8*(n-1)))
	if v < 0 {
		first = "\xff"
		number.Add(number, all)
	}
	if number.Sign() < 0 || number.Cmp(all) >= 0 {
		return "", false
	}
	return first + string(number.FillBytes(make([]byte, n-1))), true
}

// ruleWrite is Write by the chapter's words.
func ruleWrite(v, n int) (string, api.Errno) {
	if !isField(n) {
		return "", api.ErrArg
	}
	if !isNumber(v) {
		return "", api.ErrRange
	}
	if field, ok := ruleOctal(v, n); ok {
		return field, api.OK
	}
	if field, ok := ruleBinary(v, n); ok {
		return field, api.OK
	}
	return "", api.ErrRange
}

func checkRead(t *testing.T, field string, number int, fault api.Errno) {
	t.Helper()
	if v, e := octal.Read(field); v != number || e != fault {
		t.Errorf("Read(%q): %d, %d; want %d, %d", field, v, e, number, fault)
	}
}

func checkWrite(t *testing.T, v, n int, field string, fault api.Errno) {
	t.Helper()
	if s, e := octal.Write(v, n); s != field || e != fault {
		t.Errorf("Write(%d, %d): %q, %d; want %q, %d", v, n, s, e, field, fault)
	}
}

// P1.1: fields in octal.
func TestReadOctal(t *testing.T) {
	for field, number := range map[string]int{
		"0000644\x00":               420,
		"00":                        0,
		"07":                        7,
		"7777777":                   2097151,
		"777777777777":              1<<36 - 1,
		"77777777777\x00":           1<<33 - 1,
		"  17 \x00":                 15,
		"           7":              7,
		"17\x00\x00 \x00 ":          15,
		"17 ":                       15,
		"17\x00":                    15,
		"\x00\x00":                  0,
		"  ":                        0,
		" \x00":                     0,
		"\x00 ":                     0,
		" \x00 \x00 ":               0,
		strings.Repeat("\x00", 12):  0,
		"  1" + "\x00 \x00" + "   ": 1,
	} {
		checkRead(t, field, number, api.OK)
	}
}

// P1.1: fields in binary, and how far their numbers may go.
func TestReadBinary(t *testing.T) {
	for field, number := range map[string]int{
		"\x80\x00":                         0,
		"\x80\x08":                         8,
		"\x80\xff":                         255,
		"\x80\x01\x02":                     258,
		"\x80\x00 ":                        32,
		"\x80\x20\x00":                     8192,
		"\xff\xff":                         -1,
		"\xff\x00":                         -256,
		"\xff\x00\x01":                     -65535,
		strings.Repeat("\xff", 8):          -1,
		strings.Repeat("\xff", 12):         -1,
		"\x80\x1f\xff\xff\xff\xff\xff\xff": api.MaxNumber,
		"\x80\x00\x00\x00\x00\x1f\xff\xff\xff\xff\xff\xff": api.MaxNumber,
		"\xff\xe0\x00\x00\x00\x00\x00\x01":                 -api.MaxNumber,
		"\xff\xff\xff\xff\xff\xe0\x00\x00\x00\x00\x00\x01": -api.MaxNumber,
	} {
		checkRead(t, field, number, api.OK)
	}
	for _, field := range []string{
		"\x80\x20\x00\x00\x00\x00\x00\x00",
		"\x80\xff\xff\xff\xff\xff\xff\xff",
		"\x80\x01\x00\x00\x00\x00\x00\x00\x00\x00\x00\x00",
		"\x80\x00\x00\x01\x00\x00\x00\x00\x00\x00\x00\x00",
		"\x80" + strings.Repeat("\xff", 11),
		"\xff\xe0\x00\x00\x00\x00\x00\x00",
		"\xff\x00\x00\x00\x00\x00\x00\x00",
		"\xff\xff\xff\xff\xff\xe0\x00\x00\x00\x00\x00\x00",
		"\xff\xff\xff\xff\x00\x00\x00\x00\x00\x00\x00\x00",
		"\xff" + strings.Repeat("\x00", 11),
	} {
		checkRead(t, field, 0, api.ErrRange)
	}
}

// P1.1: what is no field, and what is of no form.
func TestReadWrong(t *testing.T) {
	for _, field := range []string{
		"8 ", "18", "0x", "-1", "+1", "1 1", "1\x001", "\x001", " \x00 1", "1 \x00a", "a\x00", " a", "7/", "7:",
		"\x811", "\x7f\x00", "\xfe\xff", "\x01\x00", "0\x80", "0\xff", " \x80\x08", "\x00\xff", "\t1", "1\n", "000000000008",
	} {
		checkRead(t, field, 0, api.ErrForm)
	}
	// A field's size is looked at first: these are of no form, or beyond the range, too.
	for _, field := range []string{
		"", "7", " ", "\x00", "\x80", "\xff", "8", "0000000000000", "0000000000008",
		"\x80" + strings.Repeat("\xff", 12), "\xff" + strings.Repeat("\x00", 12), strings.Repeat("7", 512),
	} {
		checkRead(t, field, 0, api.ErrArg)
	}
}

// P1.1: all fields of few bytes, and of many where numbers grow too great.
func TestReadByRule(t *testing.T) {
	check := func(field string) {
		number, fault := ruleRead(field)
		checkRead(t, field, number, fault)
	}
	for i := range 1 << 16 {
		check(string([]byte{byte(i >> 8), byte(i)}))
	}
	const some = " \x00078a\x80\xff"
	for i := range len(some) * len(some) * len(some) * len(some) * len(some) {
		field := make([]byte, 5)
		for at := range field {
			field[at] = some[i%len(some)]
			i /= len(some)
		}
		check(string(field))
	}
	for n := range 15 {
		for _, first := range []string{"", "\x80", "\xff"} {
			for _, many := range []string{"\x00", "\x01", "\x1f", "\x20", "\x7f", "\x80", "\xe0", "\xff", "7", " "} {
				for k := range n {
					for _, last := range []string{"\x00", "\x01", "\x1f", "\x20", "\xdf", "\xe0", "\xff", "0"} {
						check((first + strings.Repeat(many, k) + strings.Repeat(last, n))[:n])
					}
				}
			}
		}
	}
}

// P1.1: the chapter's examples, and the edges of what is written in octal.
func TestWrite(t *testing.T) {
	checkWrite(t, -1, 8, strings.Repeat("\xff", 8), api.OK)
	checkWrite(t, 8, 2, "\x80\x08", api.OK)
	checkWrite(t, 420, 8, "0000644\x00", api.OK)
	checkWrite(t, 0, 2, "0\x00", api.OK)
	checkWrite(t, 7, 2, "7\x00", api.OK)
	checkWrite(t, 255, 2, "\x80\xff", api.OK)
	checkWrite(t, -256, 2, "\xff\x00", api.OK)
	checkWrite(t, 0, 12, "00000000000\x00", api.OK)
	checkWrite(t, 1<<21-1, 8, "7777777\x00", api.OK)
	checkWrite(t, 1<<21, 8, "\x80\x00\x00\x00\x00\x20\x00\x00", api.OK)
	checkWrite(t, 1<<33-1, 12, "77777777777\x00", api.OK)
	checkWrite(t, 1<<33, 12, "\x80\x00\x00\x00\x00\x00\x00\x02\x00\x00\x00\x00", api.OK)
	checkWrite(t, api.MaxNumber, 8, "\x80\x1f\xff\xff\xff\xff\xff\xff", api.OK)
	checkWrite(t, -api.MaxNumber, 8, "\xff\xe0\x00\x00\x00\x00\x00\x01", api.OK)
}

// P1.1: what can't be written.
func TestWriteWrong(t *testing.T) {
	checkWrite(t, 256, 2, "", api.ErrRange)
	checkWrite(t, 300, 2, "", api.ErrRange)
	checkWrite(t, -257, 2, "", api.ErrRange)
	checkWrite(t, api.MaxNumber, 7, "", api.ErrRange)
	checkWrite(t, -api.MaxNumber, 7, "", api.ErrRange)
	checkWrite(t, api.MaxNumber+1, 12, "", api.ErrRange)
	checkWrite(t, -api.MaxNumber-1, 12, "", api.ErrRange)
	checkWrite(t, math.MaxInt, 9, "", api.ErrRange)
	checkWrite(t, math.MinInt, 9, "", api.ErrRange)
	// The size is looked at first.
	for _, n := range sizes {
		if !isField(n) {
			checkWrite(t, 0, n, "", api.ErrArg)
			checkWrite(t, math.MaxInt, n, "", api.ErrArg)
			checkWrite(t, math.MinInt, n, "", api.ErrArg)
		}
	}
}

// P1.1: both ways of writing, at numbers and sizes of all kinds (numbers above MaxNumber have fields of their own, though Write tells none).
func TestWriteByRule(t *testing.T) {
	for _, n := range sizes {
		for _, v := range edges() {
			field, ok := ruleOctal(v, n)
			if s, k := octal.Octal(v, n); s != field || k != ok {
				t.Errorf("Octal(%d, %d): %q, %v; want %q, %v", v, n, s, k, field, ok)
			}
			field, ok = ruleBinary(v, n)
			if s, k := octal.Binary(v, n); s != field || k != ok {
				t.Errorf("Binary(%d, %d): %q, %v; want %q, %v", v, n, s, k, field, ok)
			}
			field, fault := ruleWrite(v, n)
			checkWrite(t, v, n, field, fault)
		}
	}
}

// P1.2: what is written is read as it was.
func TestReadOfWrite(t *testing.T) {
	written := 0
	for _, n := range sizes {
		for _, v := range edges() {
			if s, e := octal.Write(v, n); e == api.OK {
				written++
				checkRead(t, s, v, api.OK)
			}
			if s, ok := octal.Octal(v, n); ok {
				checkRead(t, s, v, api.OK)
			}
			if s, ok := octal.Binary(v, n); ok && isNumber(v) {
				checkRead(t, s, v, api.OK)
			} else if ok {
				checkRead(t, s, 0, api.ErrRange)
			}
		}
	}
	if written < 1000 {
		t.Errorf("only %d numbers were written", written)
	}
}

// P1.1: what is told stays as it was, and what is handed in, too, whatever is asked behind it.
func TestNothingIsShared(t *testing.T) {
	type told struct{ field, copied string }
	var all []told
	keep := func(s string) { all = append(all, told{s, strings.Clone(s)}) }
	for _, n := range sizes {
		for v := -3; v < 30; v++ {
			s, _ := octal.Write(v, n)
			keep(s)
			s, _ = octal.Octal(v, n)
			keep(s)
			s, _ = octal.Binary(v, n)
			keep(s)
			octal.Read(s)
		}
	}
	for _, x := range all {
		if x.field != x.copied {
			t.Fatalf("%q became %q", x.copied, x.field)
		}
	}
}
