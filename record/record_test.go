package record_test

import (
	"math/rand"
	"regexp"
	"slices"
	"strconv"
	"strings"
	"testing"

	"boulter/api"
	"boulter/record"
)

func pair(key, value string) api.Pair { return api.Pair{Key: key, Value: value} }

func many(n int) string { return strings.Repeat("v", n) }

// everyByte is each byte once, from 0 on.
func everyByte() string {
	var s []byte
	for b := range 256 {
		s = append(s, byte(b))
	}
	return string(s)
}

// times is so many of one record.
func times(n int, p api.Pair) []api.Pair { return slices.Repeat([]api.Pair{p}, n) }

// fullHeader is as many records as there may be, of as many bytes: all but one have 247.
func fullHeader() []api.Pair {
	return append(times(255, pair("k", many(240))), pair("k", many(65536-255*247-len("2551 k=\n"))))
}

// ruleSize goes through all numbers, the least one first.
func ruleSize(p api.Pair) int {
	rest := len(" " + p.Key + "=" + p.Value + "\n")
	for n := rest; ; n++ {
		if len(strconv.Itoa(n))+rest == n {
			return n
		}
	}
}

func ruleRight(p api.Pair) bool {
	return p.Key != "" && strings.Count(p.Key, "=") == 0
}

// rulePrint is Print by the chapter's words.
func rulePrint(l []api.Pair) (string, api.Errno) {
	if len(l) > 256 {
		return "", api.ErrFull
	}
	s := ""
	for _, p := range l {
		if !ruleRight(p) {
			return "", api.ErrForm
		}
		s += strconv.Itoa(ruleSize(p)) + " " + p.Key + "=" + p.Value + "\n"
	}
	if len(s) > 65536 {
		return "", api.ErrLong
	}
	return s, api.OK
}

var ahead = regexp.MustCompile(`^([1-9][0-9]{0,5}) `)

// ruleParse is Parse by the chapter's words.
func ruleParse(s string) ([]api.Pair, api.Errno) {
	if len(s) > 65536 {
		return nil, api.ErrLong
	}
	var l []api.Pair
	for at := 0; at < len(s); {
		if len(l) == 256 {
			return nil, api.ErrFull
		}
		found := ahead.FindStringSubmatch(s[at:])
		if found == nil {
			return nil, api.ErrForm
		}
		n, _ := strconv.Atoi(found[1])
		if len(s)-at < n {
			return nil, api.ErrShort
		}
		if n <= len(found[0]) || s[at+n-1] != '\n' {
			return nil, api.ErrForm
		}
		between := s[at+len(found[0]) : at+n-1]
		is := strings.IndexByte(between, '=')
		if is < 1 {
			return nil, api.ErrForm
		}
		l = append(l, pair(between[:is], between[is+1:]))
		at += n
	}
	return l, api.OK
}

func shown(s string) string {
	if len(s) > 60 {
		return strconv.Quote(s[:60]) + " and so on, " + strconv.Itoa(len(s)) + " bytes"
	}
	return strconv.Quote(s)
}

func checkPrint(t *testing.T, l []api.Pair, want string, fault api.Errno) {
	t.Helper()
	before := slices.Clone(l)
	got, e := record.Print(l)
	if got != want || e != fault {
		t.Errorf("Print of %d records: %s, %d, not %s, %d", len(l), shown(got), e, shown(want), fault)
	}
	if !slices.Equal(l, before) {
		t.Errorf("Print of %d records changed them", len(l))
	}
}

func checkParse(t *testing.T, s string, want []api.Pair, fault api.Errno) {
	t.Helper()
	got, e := record.Parse(s)
	if !slices.Equal(got, want) || e != fault {
		t.Errorf("Parse(%s): %d records, %d, not %d, %d", shown(s), len(got), e, len(want), fault)
	}
}

// P6.1: the records of the example, and more of them, one behind the other.
func TestPlainRecords(t *testing.T) {
	path, user := pair("path", "a"), pair("uname", "me and you")
	if record.Size(path) != 9 || record.Size(user) != 20 {
		t.Error(record.Size(path), record.Size(user))
	}
	checkPrint(t, nil, "", api.OK)
	checkPrint(t, []api.Pair{}, "", api.OK)
	checkPrint(t, []api.Pair{path}, "9 path=a\n", api.OK)
	checkPrint(t, []api.Pair{path, user, path}, "9 path=a\n20 uname=me and you\n9 path=a\n", api.OK)
	checkParse(t, "", nil, api.OK)
	checkParse(t, "9 path=a\n", []api.Pair{path}, api.OK)
	checkParse(t, "9 path=a\n20 uname=me and you\n9 path=a\n", []api.Pair{path, user, path}, api.OK)
}

// P6.1: the digits count themselves, and turn where one more of them is needed.
func TestSize(t *testing.T) {
	for _, x := range []struct{ value, size int }{
		{0, 5}, {3, 8}, {4, 9}, {5, 11}, {6, 12}, {92, 98}, {93, 99}, {94, 101}, {95, 102},
		{991, 998}, {992, 999}, {993, 1001}, {9990, 9998}, {9991, 9999}, {9992, 10001},
		{99989, 99998}, {99990, 99999}, {99991, 100001}, {999989, 999999}, {999990, 1000001},
	} {
		p := pair("k", many(x.value))
		if got := record.Size(p); got != x.size {
			t.Errorf("Size with a value of %d bytes: %d, not %d", x.value, got, x.size)
		}
		if got := record.Size(pair(many(x.value)+"k", "")); got != x.size {
			t.Errorf("Size with a key of %d bytes: %d, not %d", x.value+1, got, x.size)
		}
		if x.size > api.MaxHead {
			continue
		}
		checkPrint(t, []api.Pair{p}, strconv.Itoa(x.size)+" k="+many(x.value)+"\n", api.OK)
	}
}

// P6.1: the size of any pair, one that isn't right too.
func TestSizeOfAnyPair(t *testing.T) {
	for _, p := range []api.Pair{{}, pair("", "a"), pair("=", ""), pair("a=b", "="), pair("\n", "\n"), pair(everyByte(), everyByte())} {
		if got := record.Size(p); got != ruleSize(p) {
			t.Errorf("Size(%q): %d, not %d", p, got, ruleSize(p))
		}
	}
	for n := range 1200 {
		p := pair(many(n/3), many(n-n/3))
		if got := record.Size(p); got != ruleSize(p) {
			t.Errorf("Size of %d bytes: %d, not %d", n, got, ruleSize(p))
		}
	}
}

// P6.1: a key isn't empty and has no "="; all else may be a key, and everything a value.
func TestRight(t *testing.T) {
	for _, key := range []string{"a", "path", " ", "\n", "\x00", "9", "\xff\xfe", "a b\nc", strings.ReplaceAll(everyByte(), "=", "")} {
		for _, value := range []string{"", "a", "=", "\n", everyByte()} {
			if !record.Right(pair(key, value)) {
				t.Errorf("Right(%q, %q) is false", key, value)
			}
		}
	}
	for _, key := range []string{"", "=", "a=", "=a", "a=b", "a==b", everyByte()} {
		for _, value := range []string{"", "a"} {
			if record.Right(pair(key, value)) {
				t.Errorf("Right(%q, %q) is true", key, value)
			}
		}
	}
}

// P6.1: a key and a value are any bytes, but for the first "=".
func TestAnyBytes(t *testing.T) {
	key := strings.ReplaceAll(everyByte(), "=", "")
	for _, p := range []api.Pair{
		pair("k", everyByte()), pair(key, ""), pair(key, everyByte()), pair("\n", "\n"), pair(" ", " "), pair("1", "1"),
		pair("a", "=b=c"), pair("a", "\n9 path=a\n"), pair("a\n9 path", "a"), pair("\x00", "\x00"),
	} {
		want := strconv.Itoa(ruleSize(p)) + " " + p.Key + "=" + p.Value + "\n"
		checkPrint(t, []api.Pair{p, p}, want+want, api.OK)
		checkParse(t, want+want, []api.Pair{p, p}, api.OK)
	}
}

// P6.1: what Print refuses, and the order of its errors.
func TestPrintErrors(t *testing.T) {
	wrong, big := pair("a=b", ""), pair("k", many(70000))
	checkPrint(t, []api.Pair{{}}, "", api.ErrForm)
	checkPrint(t, []api.Pair{wrong}, "", api.ErrForm)
	checkPrint(t, []api.Pair{pair("a", "b"), pair("", "a")}, "", api.ErrForm)
	checkPrint(t, append(times(255, pair("a", "b")), wrong), "", api.ErrForm)
	checkPrint(t, times(256, pair("a", "b")), strings.Repeat("6 a=b\n", 256), api.OK)
	checkPrint(t, times(257, pair("a", "b")), "", api.ErrFull)
	checkPrint(t, times(257, wrong), "", api.ErrFull)
	checkPrint(t, times(257, big), "", api.ErrFull)
	checkPrint(t, []api.Pair{big}, "", api.ErrLong)
	checkPrint(t, []api.Pair{big, wrong}, "", api.ErrForm)
	checkPrint(t, []api.Pair{wrong, big}, "", api.ErrForm)
	checkPrint(t, []api.Pair{big, pair("", many(70000))}, "", api.ErrForm)
}

// P6.1: exactly so many bytes as a header may have, and one more, in one record and in several.
func TestPrintMostBytes(t *testing.T) {
	one := []api.Pair{pair("k", many(65527))}
	checkPrint(t, one, "65536 k="+many(65527)+"\n", api.OK)
	one[0].Value += "v"
	checkPrint(t, one, "", api.ErrLong)
	all := fullHeader()
	want, fault := rulePrint(all)
	if fault != api.OK || len(want) != 65536 {
		t.Fatal(len(want), fault)
	}
	checkPrint(t, all, want, api.OK)
	all[3].Value += "v"
	checkPrint(t, all, "", api.ErrLong)
}

// P6.1: a number may have one digit more than it needs where the digits turn, and never a nought ahead.
func TestParseMoreDigits(t *testing.T) {
	checkParse(t, "10 path=a\n", []api.Pair{pair("path", "a")}, api.OK)
	checkParse(t, "09 path=a\n", nil, api.ErrForm)
	checkParse(t, "010 path=a\n", nil, api.ErrForm)
	for _, bytes := range []int{100, 1000, 10000} {
		value := many(bytes - len(strconv.Itoa(bytes)) - len(" k=\n"))
		p := pair("k", value)
		if record.Size(p) != bytes-1 {
			t.Fatal(bytes, record.Size(p))
		}
		checkParse(t, strconv.Itoa(bytes)+" k="+value+"\n", []api.Pair{p}, api.OK)
		checkParse(t, strconv.Itoa(bytes-1)+" k="+value+"\n", []api.Pair{p}, api.OK)
	}
}

// P6.1: each way in which the beginning of a record isn't one, behind none and behind one.
func TestParseForm(t *testing.T) {
	for _, s := range []string{
		"x", " ", "\n", "\x00", "=", "9", "12", "123456", "9\npath=a\n", "9\tpath=a\n", "9path=a\n", " 9 path=a\n",
		"0 ", "0", "09 path=a\n", "00 path=a\n", "+9 path=a\n", "-9 path=a\n", "9x path=a\n", "x9 path=a\n", "9_0 path=a\n",
		"1234567 a=b\n", "12345678901234567890 a=b\n", "123456x a=b\n", "\xb9 path=a\n", "9\x00path=a\n", "path=a\n", "9. a=b\n",
		// They end in no line's end.
		"9 path=ab", "9 path=ab\n", "8 path=a\n", "9 path=a\x00", "9 path=a\r", "6 a=b\xff",
		// They don't reach behind the blank.
		"1 ", "2 ", "1 a=b\n", "2 a=b\n", "2 \n", "1 \n",
		// Nothing, no "=", or nothing ahead of it.
		"3 \n", "4 a\n", "8 patha\n", "4 =\n", "5 =a\n", "9 =path=\n",
	} {
		checkParse(t, s, nil, api.ErrForm)
		checkParse(t, "9 path=a\n"+s, nil, api.ErrForm)
	}
}

// P6.1: fewer bytes than they tell, and the least records.
func TestParseShort(t *testing.T) {
	for _, s := range []string{"9 ", "9 path=a", "10 path=a", "7 a=b\n", "10 ", "3 ", "999999 ", "999999 a=b\n", "100000 a=b\n", "5 ", "4 =", "9 patha"} {
		checkParse(t, s, nil, api.ErrShort)
		checkParse(t, "9 path=a\n"+s, nil, api.ErrShort)
	}
	checkParse(t, "5 a=\n", []api.Pair{pair("a", "")}, api.OK)
	checkParse(t, "5 a=\n5 b=\n", []api.Pair{pair("a", ""), pair("b", "")}, api.OK)
	checkParse(t, "6 a==\n", []api.Pair{pair("a", "=")}, api.OK)
	checkParse(t, "6 a=\n\n", []api.Pair{pair("a", "\n")}, api.OK)
	checkParse(t, "6  a=\n", []api.Pair{pair(" a", "")}, api.OK)
}

// P6.1: 256 records are parsed, and whatever stands behind them isn't looked at.
func TestParseMostRecords(t *testing.T) {
	most := strings.Repeat("6 a=b\n", 256)
	checkParse(t, most, times(256, pair("a", "b")), api.OK)
	for _, more := range []string{"6 a=b\n", "x", "9 ", "\x00", "2 \n"} {
		checkParse(t, most+more, nil, api.ErrFull)
		checkParse(t, "x"+most+more, nil, api.ErrForm)
		checkParse(t, most[:255*6]+"7"+most[255*6+1:]+more, nil, api.ErrForm)
	}
}

// P6.1: exactly so many bytes as a header may have, and one more.
func TestParseMostBytes(t *testing.T) {
	most := "65536 k=" + many(65527) + "\n"
	checkParse(t, most, []api.Pair{pair("k", many(65527))}, api.OK)
	checkParse(t, "65537 k="+many(65528)+"\n", nil, api.ErrLong)
	checkParse(t, most+"x", nil, api.ErrLong)
	checkParse(t, strings.Repeat("x", 65536), nil, api.ErrForm)
	checkParse(t, strings.Repeat("x", 65537), nil, api.ErrLong)
	checkParse(t, strings.Repeat("6 a=b\n", 10922)+"9 x=", nil, api.ErrFull)
	checkParse(t, strings.Repeat("6 a=b\n", 10923), nil, api.ErrLong)
}

// P6.1: of several errors that of the first record is told, and of one record that which the chapter names first.
func TestParseOrder(t *testing.T) {
	checkParse(t, "9 path=ab7 a=b\n", nil, api.ErrForm)
	checkParse(t, "99 path=a\nx", nil, api.ErrShort)
	checkParse(t, "x99 path=a\n", nil, api.ErrForm)
	checkParse(t, "11 =path\nx", nil, api.ErrShort)
	checkParse(t, "0999999 a", nil, api.ErrForm)
	checkParse(t, "99 =", nil, api.ErrShort)
	checkParse(t, "8 patha\n99 ", nil, api.ErrForm)
}

// P6.1: what a call told stands, whatever is called afterwards.
func TestNothingKept(t *testing.T) {
	first, _ := record.Parse("9 path=a\n6 a=b\n")
	second, _ := record.Parse("9 path=a\n6 a=b\n")
	first[0] = pair("x", "y")
	_ = append(first[:1], pair("z", "z"))
	if second[0] != pair("path", "a") || second[1] != pair("a", "b") {
		t.Error(second)
	}
	l := []api.Pair{pair("a", "b"), pair("spare", "room")}
	if s, e := record.Print(l[:1]); s != "6 a=b\n" || e != api.OK || l[1] != pair("spare", "room") {
		t.Error(s, e, l)
	}
	checkParse(t, "9 path=a\n6 a=b\n", []api.Pair{pair("path", "a"), pair("a", "b")}, api.OK)
}

// drawn is bytes of a header that are often right, or nearly so.
func drawn(r *rand.Rand) string {
	s := ""
	for range r.Intn(4) {
		p := pair([]string{"a", "path", "", "a=b", "\n", "9 "}[r.Intn(6)], many(r.Intn(12))+[]string{"", "=", "\n", "1 "}[r.Intn(4)])
		if r.Intn(40) == 0 {
			p.Value += many(80 + r.Intn(30))
		}
		n := ruleSize(p) + []int{0, 0, 0, 0, 0, 0, 1, -1}[r.Intn(8)]
		s += strconv.Itoa(n) + " " + p.Key + "=" + p.Value + "\n"
	}
	switch at := r.Intn(len(s) + 1); r.Intn(12) {
	case 0:
		return s[:at]
	case 1:
		return s[:at] + string([]byte{"0189 =\n\x00x"[r.Intn(9)]}) + s[at:]
	case 2:
		return s[:at] + s[min(at+1, len(s)):]
	}
	return s
}

// P6.1, P6.2: many headers, held against the words of the chapter; what is parsed and printed is parsed as the same, and has no more bytes.
func TestParseByRule(t *testing.T) {
	r := rand.New(rand.NewSource(6))
	seen := map[api.Errno]int{}
	fewer := 0
	for range 60000 {
		s := drawn(r)
		want, fault := ruleParse(s)
		seen[fault]++
		checkParse(t, s, want, fault)
		if fault != api.OK {
			continue
		}
		printed, e := record.Print(want)
		if e != api.OK || len(printed) > len(s) {
			t.Errorf("Print of Parse(%s): %s, %d", shown(s), shown(printed), e)
		}
		if len(printed) < len(s) {
			fewer++
		}
		checkParse(t, printed, want, api.OK)
	}
	if seen[api.OK] < 9000 || seen[api.ErrForm] < 9000 || seen[api.ErrShort] < 900 || fewer < 9 {
		t.Error("too few of a kind", seen, fewer)
	}
}

// P6.1, P6.2: many lists, held against the words of the chapter; what is printed is parsed as it was.
func TestPrintByRule(t *testing.T) {
	r := rand.New(rand.NewSource(62))
	seen := map[api.Errno]int{}
	for range 3000 {
		var l []api.Pair
		for range r.Intn(20) + r.Intn(2)*r.Intn(260) {
			value := make([]byte, r.Intn(20)+r.Intn(2)*r.Intn(500))
			r.Read(value)
			l = append(l, pair(string([]byte{byte(r.Intn(256)), 'k'}), string(value)))
		}
		want, fault := rulePrint(l)
		seen[fault]++
		checkPrint(t, l, want, fault)
		if fault == api.OK {
			checkParse(t, want, l, api.OK)
		}
	}
	if seen[api.OK] < 900 || seen[api.ErrForm] < 90 || seen[api.ErrFull] < 9 {
		t.Error("too few of a kind", seen)
	}
}

// P6.2: records where the digits turn, and the greatest header, there and back.
func TestThereAndBack(t *testing.T) {
	for n := range 1100 {
		l := []api.Pair{pair("k", many(n)), pair(many(n+1), "\n")}
		s, e := record.Print(l)
		if want, fault := rulePrint(l); s != want || e != fault {
			t.Fatal(n, shown(s), e)
		}
		checkParse(t, s, l, api.OK)
	}
	most := fullHeader()
	s, e := record.Print(most)
	if len(s) != 65536 || e != api.OK {
		t.Fatal(len(s), e)
	}
	checkParse(t, s, most, api.OK)
}
