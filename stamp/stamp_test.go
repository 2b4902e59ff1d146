package stamp_test

import (
	"math"
	"math/big"
	"math/rand"
	"regexp"
	"strings"
	"testing"

	"boulter/api"
	"boulter/stamp"
)

const (
	most    = api.MaxNumber
	second  = 1000000000
	greatly = 1 << 60
)

func at(sec, nsec int) api.Stamp { return api.Stamp{Sec: sec, Nsec: nsec} }

// seconds lie at and beside all places where an answer turns, and at the ends of all numbers.
func seconds() []int {
	l := []int{math.MinInt, math.MinInt + 1, math.MaxInt - 1, math.MaxInt, 1163980800, -1163980800, 1e15, -1e15, 1e16, 1e17}
	for v := -3; v <= 3; v++ {
		l = append(l, v, most+v, -most+v, second+v, 1<<31+v, -1<<31+v, 1<<62+v, -1<<62+v)
	}
	for ten := 10; ten < most; ten *= 10 {
		l = append(l, ten-1, ten, -ten, 1-ten)
	}
	return l
}

// nanoseconds are likewise, with all numbers of digits and of noughts.
func nanoseconds() []int {
	l := []int{math.MinInt, math.MaxInt, 123456789, 120000000, 500000000, 250000000, 750000000, 102030400, 10, 909090909}
	for v := -2; v <= 2; v++ {
		l = append(l, v, second+v, second/2+v, greatly+v, -greatly+v, -second+v)
	}
	for ten := 1; ten < second; ten *= 10 {
		l = append(l, ten, 9*ten, second-ten)
	}
	return l
}

func stamps() []api.Stamp {
	var l []api.Stamp
	for _, sec := range seconds() {
		for _, nsec := range nanoseconds() {
			l = append(l, at(sec, nsec))
		}
	}
	return l
}

// added are numbers of nanoseconds to add.
func added() []int {
	l := append(nanoseconds(), math.MinInt+1, math.MaxInt-1, 1163980800123456789, -1163980800123456789, 7*second, -7*second)
	for v := -2; v <= 2; v++ {
		l = append(l, 2*second+v, -2*second+v, 1<<31+v, -1<<31+v, 1<<53+v, -1<<53+v)
	}
	return l
}

func isRight(t api.Stamp) bool {
	return t.Sec >= -most && t.Sec <= most && t.Nsec >= 0 && t.Nsec <= 999999999
}

// nanos is a stamp as one number of nanoseconds.
func nanos(t api.Stamp) *big.Int {
	all := new(big.Int).Mul(big.NewInt(int64(t.Sec)), big.NewInt(second))
	return all.Add(all, big.NewInt(int64(t.Nsec)))
}

// stampOf is the stamp of so many nanoseconds; false: there is none.
func stampOf(all *big.Int) (api.Stamp, bool) {
	sec, nsec := new(big.Int).DivMod(all, big.NewInt(second), new(big.Int))
	if new(big.Int).Abs(sec).Cmp(big.NewInt(most)) > 0 {
		return api.Stamp{}, false
	}
	return api.Stamp{Sec: int(sec.Int64()), Nsec: int(nsec.Int64())}, true
}

var inDecimal = regexp.MustCompile(`\A(-?)([0-9]{1,16})(?:\.([0-9]{1,40}))?\z`)

// ruleParse is Parse by the chapter's words, with numbers of any size.
func ruleParse(s string) (api.Stamp, api.Errno) {
	parts := inDecimal.FindStringSubmatch(s)
	if parts == nil {
		return api.Stamp{}, api.ErrForm
	}
	all, _ := new(big.Int).SetString(parts[2]+(parts[3] + "000000000")[:9], 10)
	if parts[1] == "-" {
		all.Neg(all)
	}
	t, ok := stampOf(all)
	if !ok {
		return api.Stamp{}, api.ErrRange
	}
	return t, api.OK
}

// ruleText is Text by the chapter's words.
func ruleText(t api.Stamp) (string, api.Errno) {
	if !isRight(t) {
		return "", api.ErrArg
	}
	s := new(big.Rat).SetFrac(nanos(t), big.NewInt(second)).FloatString(9)
	return strings.TrimSuffix(strings.TrimRight(s, "0"), "."), api.OK
}

// ruleCmp is Cmp by the chapter's words, one number behind the other.
func ruleCmp(a, b api.Stamp) int {
	if c := big.NewInt(int64(a.Sec)).Cmp(big.NewInt(int64(b.Sec))); c != 0 {
		return c
	}
	return big.NewInt(int64(a.Nsec)).Cmp(big.NewInt(int64(b.Nsec)))
}

// ruleAdd is Add by the chapter's words.
func ruleAdd(t api.Stamp, nsec int) (api.Stamp, api.Errno) {
	if !isRight(t) || nsec > greatly || nsec < -greatly {
		return api.Stamp{}, api.ErrArg
	}
	all := nanos(t)
	later, ok := stampOf(all.Add(all, big.NewInt(int64(nsec))))
	if !ok {
		return api.Stamp{}, api.ErrRange
	}
	return later, api.OK
}

func checkParse(t *testing.T, s string, want api.Stamp, fault api.Errno) {
	t.Helper()
	if v, e := stamp.Parse(s); v != want || e != fault {
		t.Errorf("Parse(%q): %v, %d; want %v, %d", s, v, e, want, fault)
	}
}

func checkText(t *testing.T, v api.Stamp, want string, fault api.Errno) {
	t.Helper()
	if s, e := stamp.Text(v); s != want || e != fault {
		t.Errorf("Text(%v): %q, %d; want %q, %d", v, s, e, want, fault)
	}
}

func checkCmp(t *testing.T, a, b api.Stamp, want int) {
	t.Helper()
	if c := stamp.Cmp(a, b); c != want {
		t.Errorf("Cmp(%v, %v): %d; want %d", a, b, c, want)
	}
}

func checkAdd(t *testing.T, v api.Stamp, nsec int, want api.Stamp, fault api.Errno) {
	t.Helper()
	if later, e := stamp.Add(v, nsec); later != want || e != fault {
		t.Errorf("Add(%v, %d): %v, %d; want %v, %d", v, nsec, later, e, want, fault)
	}
}

// P4.1: which stamps may be.
func TestRight(t *testing.T) {
	for _, v := range []api.Stamp{{}, at(0, 1), at(0, 999999999), at(-1, 999999999), at(most, 0), at(most, 999999999), at(-most, 0), at(-most, 999999999), at(1163980800, 5)} {
		if !stamp.Right(v) {
			t.Errorf("Right(%v): false", v)
		}
	}
	for _, v := range []api.Stamp{at(0, -1), at(0, second), at(most+1, 0), at(-most-1, 0), at(-most-1, 999999999), at(most, second), at(math.MaxInt, 0), at(math.MinInt, 0), at(0, math.MaxInt), at(0, math.MinInt)} {
		if stamp.Right(v) {
			t.Errorf("Right(%v): true", v)
		}
	}
	for _, v := range stamps() {
		if stamp.Right(v) != isRight(v) {
			t.Errorf("Right(%v): %v", v, !isRight(v))
		}
	}
}

// P4.1: numbers in decimal, the chapter's examples among them.
func TestParse(t *testing.T) {
	for s, want := range map[string]api.Stamp{
		"1.50":                               at(1, 500000000),
		"-0.25":                              at(-1, 750000000),
		"-1.5":                               at(-2, 500000000),
		"-0":                                 {},
		"0":                                  {},
		"-0.0":                               {},
		"-00.000000000":                      {},
		"7":                                  at(7, 0),
		"-7":                                 at(-7, 0),
		"0.1":                                at(0, 100000000),
		"0.000000001":                        at(0, 1),
		"-0.000000001":                       at(-1, 999999999),
		"-0.999999999":                       at(-1, 1),
		"-1.000000000":                       at(-1, 0),
		"1.000000002":                        at(1, 2),
		"1.0000000029":                       at(1, 2),
		"1.9999999999":                       at(1, 999999999),
		"-1.9999999999":                      at(-2, 1),
		"-0.0000000009":                      {},
		"-5.0000000009":                      at(-5, 0),
		"0.123456789987654321":               at(0, 123456789),
		"1163980800":                         at(1163980800, 0),
		"007":                                at(7, 0),
		"0000000000000000":                   {},
		"0000000000000012.034000":            at(12, 34000000),
		"3." + strings.Repeat("0", 40):       at(3, 0),
		"3." + strings.Repeat("9", 40):       at(3, 999999999),
		"-3." + strings.Repeat("9", 40):      at(-4, 1),
		"-3." + strings.Repeat("0", 9) + "9": at(-3, 0),
		"0000000000000001." + strings.Repeat("12345678", 5): at(1, 123456781),
	} {
		checkParse(t, s, want, api.OK)
	}
}

// P4.1: where the range ends; of digits that don't count no place is beyond it.
func TestParseRange(t *testing.T) {
	for s, want := range map[string]api.Stamp{
		"9007199254740990":             at(most-1, 0),
		"9007199254740991":             at(most, 0),
		"9007199254740991.999999999":   at(most, 999999999),
		"9007199254740991.9999999999":  at(most, 999999999),
		"-9007199254740990.000000001":  at(-most, 999999999),
		"-9007199254740990.999999999":  at(-most, 1),
		"-9007199254740991":            at(-most, 0),
		"-9007199254740991.000000000":  at(-most, 0),
		"-9007199254740991.0000000009": at(-most, 0),
	} {
		checkParse(t, s, want, api.OK)
	}
	for _, s := range []string{
		"9007199254740992", "9007199254740992.0", "9007199254740992.999999999", "-9007199254740992", "-9007199254740991.000000001",
		"-9007199254740991.5", "-9007199254740991.999999999", "-9007199254740992.000000000", "-9007199254740993", "9999999999999999",
		"-9999999999999999", "9999999999999999.9", "-9999999999999999." + strings.Repeat("9", 40), "9223372036854775",
	} {
		checkParse(t, s, api.Stamp{}, api.ErrRange)
	}
}

// P4.1: what isn't in decimal, whether or not a number in it is beyond the range.
func TestParseForm(t *testing.T) {
	for _, s := range []string{
		"", "-", ".", "-.", ".5", "-.5", "1.", "-1.", "1.-5", "1..5", "1.5.", "1.5.5", "1.5-", "--1", "+1", "-+1", "+-1", "1-", "1 ", " 1",
		"1. 5", "1.5 ", "- 1", "1e5", "1E5", "1.5e1", "0x1", "1_0", "1,5", "a", "1a", "a1", "1.a", "1.5a", "1\n", "1.5\n", "\n1", "1\x00", "\x001", "1.5\x00",
		"1/", "1:", "/1", ":1", "1./", "1.:", "\xff", "1\xff", "1.\xff", "\u0661", "1.\u0661", "\u22121", "inf", "NaN", "nan", "-inf",
		"00000000000000000", "12345678901234567", "-12345678901234567", "99999999999999999", "00000000000000001.5",
		"1." + strings.Repeat("0", 41), "1." + strings.Repeat("5", 41), "-1." + strings.Repeat("5", 41),
		"1.000000000x", "1.0000000000x", "1.000000000 ", "1.000000000.", "1." + strings.Repeat("0", 39) + "x", "1.000000000-",
		"9999999999999999x", "9999999999999999.", "9999999999999999.x", "9007199254740992." + strings.Repeat("1", 41), "-9007199254740992.",
		"9223372036854775808", "18446744073709551616", "-9223372036854775809", strings.Repeat("1", 5000), strings.Repeat("0", 5000), "1." + strings.Repeat("1", 5000),
	} {
		checkParse(t, s, api.Stamp{}, api.ErrForm)
	}
}

// P4.1: all short texts of a few bytes, and how many digits there may be.
func TestParseByRule(t *testing.T) {
	check := func(s string) {
		want, fault := ruleParse(s)
		checkParse(t, s, want, fault)
	}
	for b := range 256 {
		one := string([]byte{byte(b)})
		check(one)
		for _, beside := range []string{"1", "-", ".", "1.", "-1.", "1.5"} {
			check(beside + one)
			check(one + beside)
			check(beside + one + "2")
		}
	}
	const some = "-.0159 +a"
	for i := range len(some) * len(some) * len(some) * len(some) * len(some) {
		s := make([]byte, 5)
		for at := range s {
			s[at] = some[i%len(some)]
			i /= len(some)
		}
		check(string(s))
	}
	for _, minus := range []string{"", "-"} {
		for ahead := range 20 {
			for behind := range 44 {
				for _, digit := range []string{"0", "1", "8", "9"} {
					check(minus + strings.Repeat(digit, ahead) + "." + strings.Repeat(digit, behind))
					check(minus + strings.Repeat("0", ahead) + digit + "." + strings.Repeat("0", behind) + digit)
				}
			}
			check(minus + strings.Repeat("1", ahead))
			check(minus + strings.Repeat("9", ahead))
		}
		for _, ahead := range []string{"9007199254740990", "9007199254740991", "9007199254740992", "0"} {
			for place := range 12 {
				check(minus + ahead + "." + strings.Repeat("0", place) + "1")
				check(minus + ahead + "." + strings.Repeat("9", place+1))
			}
		}
	}
}

// P4.1: how a stamp is written, the chapter's examples among them.
func TestText(t *testing.T) {
	for want, v := range map[string]api.Stamp{
		"1.5":                         at(1, 500000000),
		"-0.25":                       at(-1, 750000000),
		"-1.5":                        at(-2, 500000000),
		"0":                           {},
		"7":                           at(7, 0),
		"-7":                          at(-7, 0),
		"10":                          at(10, 0),
		"-100":                        at(-100, 0),
		"0.1":                         at(0, 100000000),
		"0.000000001":                 at(0, 1),
		"0.00000001":                  at(0, 10),
		"0.01":                        at(0, 10000000),
		"0.999999999":                 at(0, 999999999),
		"-0.000000001":                at(-1, 999999999),
		"-0.999999999":                at(-1, 1),
		"-0.9":                        at(-1, 100000000),
		"-1.999999999":                at(-2, 1),
		"10.0102":                     at(10, 10200000),
		"1.000000002":                 at(1, 2),
		"1163980800":                  at(1163980800, 0),
		"9007199254740991":            at(most, 0),
		"9007199254740991.999999999":  at(most, 999999999),
		"-9007199254740991":           at(-most, 0),
		"-9007199254740990.999999999": at(-most, 1),
		"-9007199254740990.000000001": at(-most, 999999999),
	} {
		checkText(t, v, want, api.OK)
	}
	for _, v := range []api.Stamp{at(0, -1), at(0, second), at(1, -500000000), at(most+1, 0), at(-most-1, 0), at(-most-1, 999999999), at(most, second), at(math.MaxInt, math.MaxInt), at(math.MinInt, math.MinInt)} {
		checkText(t, v, "", api.ErrArg)
	}
	for _, v := range stamps() {
		want, fault := ruleText(v)
		checkText(t, v, want, fault)
	}
}

// P4.1: stamps are held against each other by seconds, then by nanoseconds, right or not.
func TestCmp(t *testing.T) {
	checkCmp(t, api.Stamp{}, api.Stamp{}, 0)
	checkCmp(t, at(1, 2), at(1, 2), 0)
	checkCmp(t, at(1, 2), at(1, 3), -1)
	checkCmp(t, at(1, 3), at(1, 2), 1)
	checkCmp(t, at(1, 9), at(2, 3), -1)
	checkCmp(t, at(2, 3), at(1, 9), 1)
	checkCmp(t, at(-1, 0), at(-2, 999999999), 1)
	checkCmp(t, at(-2, 500000000), at(-1, 750000000), -1)
	checkCmp(t, at(0, second), at(1, 0), -1)
	checkCmp(t, at(1, -1), at(0, 999999999), 1)
	checkCmp(t, at(math.MinInt, 0), at(math.MaxInt, 0), -1)
	checkCmp(t, at(math.MaxInt, 0), at(math.MinInt, 0), 1)
	checkCmp(t, at(0, math.MinInt), at(0, math.MaxInt), -1)
	checkCmp(t, at(0, math.MaxInt), at(0, -2), 1)
	var some []api.Stamp
	for i, v := range stamps() {
		if i%7 == 0 {
			some = append(some, v)
		}
	}
	for _, a := range some {
		for _, b := range some {
			if a.Sec == b.Sec || a.Nsec == b.Nsec || a.Sec > 0 {
				checkCmp(t, a, b, ruleCmp(a, b))
			}
		}
	}
}

// P4.1: a stamp some nanoseconds later, or earlier.
func TestAdd(t *testing.T) {
	checkAdd(t, api.Stamp{}, 0, api.Stamp{}, api.OK)
	checkAdd(t, at(1, 2), 3, at(1, 5), api.OK)
	checkAdd(t, at(1, 2), -2, at(1, 0), api.OK)
	checkAdd(t, at(1, 2), -3, at(0, 999999999), api.OK)
	checkAdd(t, api.Stamp{}, -1, at(-1, 999999999), api.OK)
	checkAdd(t, at(-1, 999999999), 1, api.Stamp{}, api.OK)
	checkAdd(t, at(0, 1), 999999999, at(1, 0), api.OK)
	checkAdd(t, at(0, 1), second, at(1, 1), api.OK)
	checkAdd(t, at(0, 1), -second, at(-1, 1), api.OK)
	checkAdd(t, at(5, 0), -5*second, api.Stamp{}, api.OK)
	checkAdd(t, api.Stamp{}, greatly, at(1152921504, 606846976), api.OK)
	checkAdd(t, api.Stamp{}, -greatly, at(-1152921505, 393153024), api.OK)
	checkAdd(t, at(0, 999999999), greatly, at(1152921505, 606846975), api.OK)
	// The ends of the range.
	checkAdd(t, at(most, 999999999), 0, at(most, 999999999), api.OK)
	checkAdd(t, at(most, 999999998), 1, at(most, 999999999), api.OK)
	checkAdd(t, at(most, 999999999), 1, api.Stamp{}, api.ErrRange)
	checkAdd(t, at(most, 0), second, api.Stamp{}, api.ErrRange)
	checkAdd(t, at(most, 0), greatly, api.Stamp{}, api.ErrRange)
	checkAdd(t, at(-most, 0), 0, at(-most, 0), api.OK)
	checkAdd(t, at(-most, 1), -1, at(-most, 0), api.OK)
	checkAdd(t, at(-most, 0), -1, api.Stamp{}, api.ErrRange)
	checkAdd(t, at(-most, 0), -greatly, api.Stamp{}, api.ErrRange)
}

// P4.1: what can't be added, or not to this; that is looked at ahead of the range.
func TestAddWrong(t *testing.T) {
	for _, nsec := range []int{greatly + 1, -greatly - 1, math.MaxInt, math.MinInt} {
		for _, v := range []api.Stamp{{}, at(1, 2), at(most, 999999999), at(-most, 0), at(0, -1)} {
			checkAdd(t, v, nsec, api.Stamp{}, api.ErrArg)
		}
	}
	for _, v := range []api.Stamp{at(0, -1), at(0, second), at(most+1, 0), at(-most-1, 0), at(-most-1, 999999999), at(math.MaxInt, math.MaxInt), at(math.MinInt, math.MinInt)} {
		for _, nsec := range []int{0, 1, -1, second, -second, greatly, -greatly} {
			checkAdd(t, v, nsec, api.Stamp{}, api.ErrArg)
		}
	}
}

// P4.1: stamps of all kinds, and numbers of all kinds added to them.
func TestAddByRule(t *testing.T) {
	for _, v := range stamps() {
		for _, nsec := range added() {
			if !isRight(v) {
				checkAdd(t, v, nsec, api.Stamp{}, api.ErrArg)
				continue
			}
			want, fault := ruleAdd(v, nsec)
			checkAdd(t, v, nsec, want, fault)
		}
	}
}

// P4.2: what is written is read as it was.
func TestParseOfText(t *testing.T) {
	all := stamps()
	source := rand.New(rand.NewSource(4))
	for range 20000 {
		all = append(all, api.Stamp{Sec: source.Intn(2*most+1) - most, Nsec: source.Intn(second)}, api.Stamp{Sec: source.Intn(9) - 4, Nsec: source.Intn(second)})
	}
	written := 0
	for _, v := range all {
		s, e := stamp.Text(v)
		if isRight(v) != (e == api.OK) {
			t.Errorf("Text(%v): %q, %d", v, s, e)
		}
		if e == api.OK {
			written++
			checkParse(t, s, v, api.OK)
		}
	}
	if written < 40000 {
		t.Errorf("only %d stamps were written", written)
	}
}

// P4.1: each call's answer hangs on its arguments alone, and stays as it was, whatever is asked behind it.
func TestNothingIsKept(t *testing.T) {
	type told struct{ text, copied string }
	var all []told
	for range 3 {
		for _, v := range stamps() {
			s, fault := ruleText(v)
			checkText(t, v, s, fault)
			answer, _ := stamp.Text(v)
			all = append(all, told{answer, strings.Clone(answer)})
			checkParse(t, "x", api.Stamp{}, api.ErrForm)
			if fault == api.OK {
				checkParse(t, s, v, api.OK)
			}
			checkText(t, at(0, -1), "", api.ErrArg)
			checkCmp(t, v, v, 0)
		}
	}
	for _, x := range all {
		if x.text != x.copied {
			t.Fatalf("%q became %q", x.copied, x.text)
		}
	}
}
