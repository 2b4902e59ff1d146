package attrs_test

import (
	"math"
	"math/big"
	"math/rand"
	"reflect"
	"regexp"
	"slices"
	"strconv"
	"strings"
	"testing"

	"boulter/api"
	"boulter/attrs"
	"boulter/header"
)

// known are the known keys, rising.
var known = []string{"gid", "gname", "linkpath", "mtime", "path", "size", "uid", "uname"}

const (
	most      = 1<<53 - 1
	mostShort = 1<<21 - 1 // in 8 bytes in octal
	mostLong  = 1<<33 - 1 // in 12 bytes in octal
)

func pair(key, value string) api.Pair { return api.Pair{Key: key, Value: value} }

// pairs are keys and values by turns.
func pairs(s ...string) []api.Pair {
	var l []api.Pair
	for at := 0; at < len(s); at += 2 {
		l = append(l, pair(s[at], s[at+1]))
	}
	return l
}

func at(sec, nsec int) api.Stamp { return api.Stamp{Sec: sec, Nsec: nsec} }

func many(n int) string { return strings.Repeat("n", n) }

// plain is a member each of whose fields has a value that fits a block.
func plain() api.Member {
	return api.Member{Name: "d/a", Link: "l", Kind: api.Soft, Mode: 420, Uid: 1, Gid: 2, Uname: "u", Gname: "g", Major: 3, Minor: 4, Time: at(5, 0), Extra: pairs("a", "b", "z", "\x00")}
}

// with is the plain member, but for what change sets.
func with(change func(m *api.Member)) api.Member {
	m := plain()
	change(&m)
	return m
}

func plainHead() api.Head {
	return api.Head{Name: "d/a", Link: "l", Kind: api.Soft, Mode: 420, Uid: 1, Gid: 2, Size: 6, Time: 5, Uname: "u", Gname: "g", Major: 3, Minor: 4, Form: api.Posix}
}

func headWith(change func(h *api.Head)) api.Head {
	h := plainHead()
	change(&h)
	return h
}

// same takes no records and an empty list of them for one.
func same(a, b api.Member) bool {
	if len(a.Extra) == 0 && len(b.Extra) == 0 {
		a.Extra, b.Extra = nil, nil
	}
	return reflect.DeepEqual(a, b)
}

// ruleMerge is Merge by the chapter's words.
func ruleMerge(global, local []api.Pair) []api.Pair {
	var keys []string
	for _, p := range slices.Concat(global, local) {
		if !slices.Contains(keys, p.Key) {
			keys = append(keys, p.Key)
		}
	}
	slices.Sort(keys)
	var l []api.Pair
	for _, key := range keys {
		from := local
		if !slices.ContainsFunc(local, func(p api.Pair) bool { return p.Key == key }) {
			from = global
		}
		value := ""
		for _, p := range from {
			if p.Key == key {
				value = p.Value
			}
		}
		if value != "" {
			l = append(l, pair(key, value))
		}
	}
	return l
}

var (
	digits  = regexp.MustCompile(`^[0-9]{1,16}$`)
	decimal = regexp.MustCompile(`^(-?)([0-9]{1,16})(?:\.([0-9]{1,40}))?$`)
)

func ruleNumber(value string) (int, api.Errno) {
	if !digits.MatchString(value) {
		return 0, api.ErrForm
	}
	n, _ := strconv.ParseUint(value, 10, 64)
	if n > most {
		return 0, api.ErrRange
	}
	return int(n), api.OK
}

// ruleTime is a time's record by the words of the stamps' chapter.
func ruleTime(value string) (api.Stamp, api.Errno) {
	found := decimal.FindStringSubmatch(value)
	if found == nil {
		return api.Stamp{}, api.ErrForm
	}
	n, _ := new(big.Int).SetString(found[1]+found[2]+(found[3] + "000000000")[:9], 10)
	sec, nsec := new(big.Int).DivMod(n, big.NewInt(1000000000), new(big.Int))
	if sec.Cmp(big.NewInt(most)) > 0 || sec.Cmp(big.NewInt(-most)) < 0 {
		return api.Stamp{}, api.ErrRange
	}
	return at(int(sec.Int64()), int(nsec.Int64())), api.OK
}

// ruleApply is Apply by the chapter's words.
func ruleApply(h api.Head, l []api.Pair) (api.Member, int, api.Errno) {
	m := api.Member{Name: h.Name, Link: h.Link, Kind: h.Kind, Mode: h.Mode, Uid: h.Uid, Gid: h.Gid, Uname: h.Uname, Gname: h.Gname, Major: h.Major, Minor: h.Minor, Time: at(h.Time, 0)}
	size, fault := h.Size, api.OK
	for _, p := range l {
		switch p.Key {
		case "gid":
			m.Gid, fault = ruleNumber(p.Value)
		case "size":
			size, fault = ruleNumber(p.Value)
		case "uid":
			m.Uid, fault = ruleNumber(p.Value)
		case "mtime":
			m.Time, fault = ruleTime(p.Value)
		case "gname":
			m.Gname = p.Value
		case "linkpath":
			m.Link = p.Value
		case "path":
			m.Name = p.Value
		case "uname":
			m.Uname = p.Value
		default:
			m.Extra = append(m.Extra, p)
			continue
		}
		if fault == api.OK && strings.Contains(p.Value, "\x00") {
			fault = api.ErrForm
		}
		if fault != api.OK {
			return api.Member{}, 0, fault
		}
	}
	return m, size, api.OK
}

// ruleRight is Right by the chapter's words.
func ruleRight(m api.Member) api.Errno {
	if strings.Contains(m.Name+m.Link+m.Uname+m.Gname, "\x00") || m.Name == "" {
		return api.ErrForm
	}
	for n, p := range m.Extra {
		if p.Key == "" || p.Value == "" || strings.Contains(p.Key, "=") || slices.Contains(known, p.Key) || n > 0 && m.Extra[n-1].Key >= p.Key {
			return api.ErrForm
		}
	}
	for _, n := range []int{m.Uid, m.Gid, m.Mode, m.Major, m.Minor} {
		if n < 0 || n > most {
			return api.ErrRange
		}
	}
	if m.Mode > mostShort || m.Major > mostShort || m.Minor > mostShort {
		return api.ErrRange
	}
	if m.Time.Sec < -most || m.Time.Sec > most || m.Time.Nsec < 0 || m.Time.Nsec > 999999999 {
		return api.ErrRange
	}
	return api.OK
}

// rulePart tells whether a block has room for the name.
func rulePart(name string) bool {
	if len(name) <= 100 {
		return true
	}
	for slash := range len(name) {
		if behind := len(name) - slash - 1; name[slash] == '/' && slash >= 1 && slash <= 155 && behind >= 1 && behind <= 100 {
			return true
		}
	}
	return false
}

// ruleText is a time's record as the stamps' chapter has it written.
func ruleText(t api.Stamp) string {
	n := new(big.Int).Add(new(big.Int).Mul(big.NewInt(int64(t.Sec)), big.NewInt(1000000000)), big.NewInt(int64(t.Nsec)))
	s := new(big.Rat).SetFrac(n, big.NewInt(1000000000)).FloatString(9)
	return strings.TrimSuffix(strings.TrimRight(s, "0"), ".")
}

// ruleDivide is Head and Wanted by the chapter's words.
func ruleDivide(m api.Member, size int) (api.Head, []api.Pair, api.Errno) {
	if fault := ruleRight(m); fault != api.OK {
		return api.Head{}, nil, fault
	}
	if size < 0 || size > most {
		return api.Head{}, nil, api.ErrRange
	}
	h := api.Head{Name: m.Name, Link: m.Link, Kind: m.Kind, Mode: m.Mode, Uid: m.Uid, Gid: m.Gid, Size: size, Time: m.Time.Sec, Uname: m.Uname, Gname: m.Gname, Major: m.Major, Minor: m.Minor, Form: 2}
	l := slices.Clone(m.Extra)
	text := func(key string, fits bool, field *string) {
		if !fits {
			l = append(l, pair(key, *field))
			*field = ""
		}
	}
	number := func(key string, fits bool, field *int, value string) {
		if !fits {
			l = append(l, pair(key, value))
			*field = 0
		}
	}
	text("path", rulePart(m.Name), &h.Name)
	text("linkpath", len(m.Link) <= 100, &h.Link)
	text("uname", len(m.Uname) <= 32, &h.Uname)
	text("gname", len(m.Gname) <= 32, &h.Gname)
	number("uid", m.Uid <= mostShort, &h.Uid, strconv.Itoa(m.Uid))
	number("gid", m.Gid <= mostShort, &h.Gid, strconv.Itoa(m.Gid))
	number("size", size <= mostLong, &h.Size, strconv.Itoa(size))
	number("mtime", m.Time.Nsec == 0 && m.Time.Sec >= 0 && m.Time.Sec <= mostLong, &h.Time, ruleText(m.Time))
	slices.SortFunc(l, func(a, b api.Pair) int { return strings.Compare(a.Key, b.Key) })
	return h, l, api.OK
}

func checkMerge(t *testing.T, global, local, want []api.Pair) {
	t.Helper()
	g, l := slices.Clone(global), slices.Clone(local)
	if got := attrs.Merge(global, local); !slices.Equal(got, want) {
		t.Errorf("Merge(%q, %q): %q, not %q", global, local, got, want)
	}
	if !slices.Equal(g, global) || !slices.Equal(l, local) {
		t.Errorf("Merge(%q, %q) changed them", g, l)
	}
}

func checkApply(t *testing.T, h api.Head, l []api.Pair, want api.Member, size int, fault api.Errno) {
	t.Helper()
	before := slices.Clone(l)
	got, n, e := attrs.Apply(h, l)
	if !same(got, want) || n != size || e != fault {
		t.Errorf("Apply(%+v, %q): %+v, %d, %d, not %+v, %d, %d", h, l, got, n, e, want, size, fault)
	}
	if !slices.Equal(l, before) {
		t.Errorf("Apply(%+v, %q) changed the records", h, before)
	}
}

// checkRight holds Right, and Head and Wanted with that error, against what is wanted.
func checkRight(t *testing.T, m api.Member, want api.Errno) {
	t.Helper()
	if got := attrs.Right(m); got != want {
		t.Errorf("Right(%+v): %d, not %d", m, got, want)
	}
	if want == api.OK {
		return
	}
	for _, size := range []int{0, -1, most + 1} {
		checkDivide(t, m, size, api.Head{}, nil, want)
	}
}

func checkDivide(t *testing.T, m api.Member, size int, want api.Head, wanted []api.Pair, fault api.Errno) {
	t.Helper()
	before := slices.Clone(m.Extra)
	if h, e := attrs.Head(m, size); h != want || e != fault {
		t.Errorf("Head(%+v, %d): %+v, %d, not %+v, %d", m, size, h, e, want, fault)
	}
	if l, e := attrs.Wanted(m, size); !slices.Equal(l, wanted) || e != fault {
		t.Errorf("Wanted(%+v, %d): %q, %d, not %q, %d", m, size, l, e, wanted, fault)
	}
	if !slices.Equal(m.Extra, before) {
		t.Errorf("the records of %+v are changed: %q", m, before)
	}
}

// checkBack: Apply of Head and Wanted is the member, and its size; and a block has room for the head.
func checkBack(t *testing.T, m api.Member, size int) {
	t.Helper()
	h, e := attrs.Head(m, size)
	l, fault := attrs.Wanted(m, size)
	if e != api.OK || fault != api.OK || header.Fits(h) != api.OK {
		t.Errorf("%+v, %d: %d, %d, and Fits tells %d", m, size, e, fault, header.Fits(h))
	}
	checkMerge(t, l, nil, l)
	m.Data = ""
	checkApply(t, h, l, m, size, api.OK)
}

// P7.1: of each key the last local record counts, or else the last global one; none whose value is empty; rising by bytes.
func TestMerge(t *testing.T) {
	checkMerge(t, nil, nil, nil)
	checkMerge(t, []api.Pair{}, []api.Pair{}, nil)
	checkMerge(t, pairs("a", "1"), nil, pairs("a", "1"))
	checkMerge(t, nil, pairs("a", "1"), pairs("a", "1"))
	checkMerge(t, pairs("a", "1"), pairs("a", "2"), pairs("a", "2"))
	checkMerge(t, pairs("a", "1", "a", "2"), nil, pairs("a", "2"))
	checkMerge(t, nil, pairs("a", "2", "b", "x", "a", "1"), pairs("a", "1", "b", "x"))
	checkMerge(t, pairs("a", "1", "a", "9"), pairs("a", "3", "a", "2"), pairs("a", "2"))
	checkMerge(t, pairs("b", "1"), pairs("a", "2"), pairs("a", "2", "b", "1"))
	checkMerge(t, pairs("c", "1", "a", "2"), pairs("d", "3", "b", "4"), pairs("a", "2", "b", "4", "c", "1", "d", "3"))
	checkMerge(t, nil, pairs("path", "a", "GNU.x", "b", "\xff", "c", "", "d", "pa", "e", "\x00", "f"), pairs("", "d", "\x00", "f", "GNU.x", "b", "pa", "e", "path", "a", "\xff", "c"))
	checkMerge(t, nil, pairs("a=b", "=", "a", "="), pairs("a", "=", "a=b", "="))
}

// P7.1: an empty value among the local records hides the global one, and so does an empty one behind another among the same.
func TestMergeEmptyValues(t *testing.T) {
	checkMerge(t, pairs("a", ""), nil, nil)
	checkMerge(t, nil, pairs("a", ""), nil)
	checkMerge(t, pairs("a", "1", "b", "2"), pairs("a", ""), pairs("b", "2"))
	checkMerge(t, pairs("a", ""), pairs("a", "1"), pairs("a", "1"))
	checkMerge(t, pairs("a", "1", "a", ""), nil, nil)
	checkMerge(t, pairs("a", "", "a", "1"), nil, pairs("a", "1"))
	checkMerge(t, nil, pairs("a", "1", "a", ""), nil)
	checkMerge(t, nil, pairs("a", "", "a", "1"), pairs("a", "1"))
	checkMerge(t, pairs("a", "9"), pairs("a", "1", "a", ""), nil)
	checkMerge(t, pairs("path", "x"), pairs("path", "", "size", "1"), pairs("size", "1"))
}

// P7.1: many lists, held against the words of the chapter; to merge again changes nothing.
func TestMergeByRule(t *testing.T) {
	r := rand.New(rand.NewSource(7))
	drawn := func() []api.Pair {
		var l []api.Pair
		for range r.Intn(8) {
			l = append(l, pair([]string{"a", "b", "path", "uid", "", "b\x00"}[r.Intn(6)], []string{"", "1", "2", "3", "4"}[r.Intn(5)]))
		}
		return l
	}
	for range 9000 {
		global, local := drawn(), drawn()
		want := ruleMerge(global, local)
		checkMerge(t, global, local, want)
		checkMerge(t, want, nil, want)
		checkMerge(t, want, local, want)
	}
	var up, down []api.Pair
	for n := range 3000 {
		up = append(up, pair(strconv.Itoa(10000+n), "v"))
		down = append(down, pair(strconv.Itoa(12999-n), "v"))
	}
	checkMerge(t, down, nil, up)
	checkMerge(t, down, down, up)
}

// P7.1: with no records a member is as its head tells, which isn't looked at any further.
func TestApplyHead(t *testing.T) {
	m := with(func(m *api.Member) { m.Extra = nil })
	checkApply(t, plainHead(), nil, m, 6, api.OK)
	checkApply(t, plainHead(), []api.Pair{}, m, 6, api.OK)
	for _, form := range []int{api.Old, api.Posix, api.Gnu, 0, -7} {
		checkApply(t, headWith(func(h *api.Head) { h.Form = form }), nil, m, 6, api.OK)
	}
	checkApply(t, api.Head{}, nil, api.Member{}, 0, api.OK)
	all := api.Head{Name: "\x00", Link: "\x00", Kind: 255, Mode: -1, Uid: math.MinInt, Gid: math.MaxInt, Size: -2, Time: -3, Uname: "\x00", Gname: many(99), Major: -4, Minor: most + 1}
	checkApply(t, all, nil, api.Member{Name: "\x00", Link: "\x00", Kind: 255, Mode: -1, Uid: math.MinInt, Gid: math.MaxInt, Time: at(-3, 0), Uname: "\x00", Gname: many(99), Major: -4, Minor: most + 1}, -2, api.OK)
}

// P7.1: each known key sets its field alone; all others are further records.
func TestApplyKeys(t *testing.T) {
	m := with(func(m *api.Member) { m.Extra = nil })
	for key, change := range map[string]func(m *api.Member){
		"gid": func(m *api.Member) { m.Gid = 70 }, "gname": func(m *api.Member) { m.Gname = "70" },
		"linkpath": func(m *api.Member) { m.Link = "70" }, "mtime": func(m *api.Member) { m.Time = at(70, 0) },
		"path": func(m *api.Member) { m.Name = "70" }, "uid": func(m *api.Member) { m.Uid = 70 },
		"uname": func(m *api.Member) { m.Uname = "70" },
	} {
		want := m
		change(&want)
		checkApply(t, plainHead(), pairs(key, "70"), want, 6, api.OK)
	}
	checkApply(t, plainHead(), pairs("size", "70"), m, 70, api.OK)
	all := pairs("gid", "1", "gname", "2", "linkpath", "3", "mtime", "4.5", "path", "6", "size", "7", "uid", "8", "uname", "9")
	checkApply(t, api.Head{Kind: 'q', Mode: 1}, all, api.Member{Name: "6", Link: "3", Kind: 'q', Mode: 1, Uid: 8, Gid: 1, Uname: "9", Gname: "2", Time: at(4, 500000000)}, 7, api.OK)
	others := pairs("", "x", "Path", "x", "comment", "\x00", "gi", "x", "gidd", "x", "mode", "x", "path ", "x", "pathh", "x", "sizes", "-1", "uname\x00", "x")
	checkApply(t, plainHead(), others, with(func(m *api.Member) { m.Extra = others }), 6, api.OK)
	checkApply(t, plainHead(), pairs("a", "b", "path", "\n=", "z", "y"), with(func(m *api.Member) { m.Name, m.Extra = "\n=", pairs("a", "b", "z", "y") }), 6, api.OK)
}

// P7.1: numbers of 1 to 16 digits up to MaxNumber.
func TestApplyNumbers(t *testing.T) {
	for _, x := range []struct {
		value string
		n     int
		fault api.Errno
	}{
		{"0", 0, api.OK}, {"7", 7, api.OK}, {"10", 10, api.OK}, {"0000000000000000", 0, api.OK}, {"0000000000000019", 19, api.OK},
		{"2097151", mostShort, api.OK}, {"2097152", mostShort + 1, api.OK}, {"999999999999999", 999999999999999, api.OK},
		{"9007199254740990", most - 1, api.OK}, {"9007199254740991", most, api.OK},
		{"9007199254740992", 0, api.ErrRange}, {"9999999999999999", 0, api.ErrRange},
		{"", 0, api.ErrForm}, {"00000000000000000", 0, api.ErrForm}, {"00000000000000019", 0, api.ErrForm}, {"10000000000000000", 0, api.ErrForm},
		{"99999999999999999999", 0, api.ErrForm}, {"-1", 0, api.ErrForm}, {"+1", 0, api.ErrForm}, {" 1", 0, api.ErrForm},
		{"1 ", 0, api.ErrForm}, {"1\n", 0, api.ErrForm}, {"1\x00", 0, api.ErrForm}, {"\x00", 0, api.ErrForm}, {"1.0", 0, api.ErrForm},
		{"0x1", 0, api.ErrForm}, {"1_0", 0, api.ErrForm}, {"1e3", 0, api.ErrForm}, {"a", 0, api.ErrForm}, {"/", 0, api.ErrForm},
		{":", 0, api.ErrForm}, {"\xff", 0, api.ErrForm}, {"9999999999999999x", 0, api.ErrForm}, {"999999999999999x", 0, api.ErrForm},
	} {
		if n, e := ruleNumber(x.value); n != x.n || e != x.fault {
			t.Fatal(x.value, n, e)
		}
		for _, key := range []string{"gid", "size", "uid"} {
			m, size, e := ruleApply(plainHead(), pairs(key, x.value))
			checkApply(t, plainHead(), pairs(key, x.value), m, size, e)
			if e != x.fault {
				t.Error(key, x.value, e)
			}
		}
	}
}

// P7.1: times in decimal, with and without nanoseconds.
func TestApplyTimes(t *testing.T) {
	for _, x := range []struct {
		value string
		time  api.Stamp
		fault api.Errno
	}{
		{"0", at(0, 0), api.OK}, {"1.000000002", at(1, 2), api.OK}, {"-0.25", at(-1, 750000000), api.OK}, {"1.50", at(1, 500000000), api.OK},
		{"9007199254740991.999999999", at(most, 999999999), api.OK}, {"-9007199254740991", at(-most, 0), api.OK},
		{"9007199254740992", at(0, 0), api.ErrRange}, {"-9007199254740992", at(0, 0), api.ErrRange},
		{"1.", at(0, 0), api.ErrForm}, {".5", at(0, 0), api.ErrForm}, {"+1", at(0, 0), api.ErrForm}, {"1\x00", at(0, 0), api.ErrForm},
		{"\x00", at(0, 0), api.ErrForm}, {"x", at(0, 0), api.ErrForm}, {"12345678901234567", at(0, 0), api.ErrForm},
	} {
		want, size := api.Member{}, 0
		if x.fault == api.OK {
			want, size = with(func(m *api.Member) { m.Time, m.Extra = x.time, nil }), 6
		}
		checkApply(t, plainHead(), pairs("mtime", x.value), want, size, x.fault)
	}
}

// P7.1: a known key's text has no NUL; beside an error all is zero.
func TestApplyTexts(t *testing.T) {
	for _, key := range []string{"gname", "linkpath", "path", "uname"} {
		for _, value := range []string{"\x00", "a\x00", "\x00a", "a\x00b"} {
			checkApply(t, plainHead(), pairs(key, value), api.Member{}, 0, api.ErrForm)
			checkApply(t, plainHead(), pairs("a", "b", key, value, "z", "z"), api.Member{}, 0, api.ErrForm)
			checkApply(t, plainHead(), pairs(key+"s", value), with(func(m *api.Member) { m.Extra = pairs(key+"s", value) }), 6, api.OK)
		}
		for _, value := range []string{"\x01\xff\n=", " ", many(5000)} {
			m, size, e := ruleApply(plainHead(), pairs(key, value))
			checkApply(t, plainHead(), pairs(key, value), m, size, e)
		}
	}
}

// P7.1: of several errors that of the first key is told.
func TestApplyOrder(t *testing.T) {
	above, wrong := "9007199254740992", "\x00"
	for n, first := range known {
		for _, behind := range known[n+1:] {
			for _, values := range [][2]string{{above, wrong}, {wrong, above}, {above, above}, {"1", wrong}, {"1", above}} {
				l := pairs(first, values[0], behind, values[1])
				m, size, e := ruleApply(plainHead(), l)
				checkApply(t, plainHead(), l, m, size, e)
			}
		}
	}
	checkApply(t, plainHead(), pairs("gid", above, "path", wrong), api.Member{}, 0, api.ErrRange)
	checkApply(t, plainHead(), pairs("path", wrong, "uid", above), api.Member{}, 0, api.ErrForm)
	checkApply(t, plainHead(), pairs("mtime", above, "uid", "x"), api.Member{}, 0, api.ErrRange)
}

// P7.1: which texts, numbers and times a right member may have.
func TestRight(t *testing.T) {
	checkRight(t, plain(), api.OK)
	checkRight(t, api.Member{Name: "a"}, api.OK)
	checkRight(t, api.Member{}, api.ErrForm)
	checkRight(t, with(func(m *api.Member) { m.Name = "" }), api.ErrForm)
	checkRight(t, with(func(m *api.Member) { m.Link, m.Uname, m.Gname = "", "", "" }), api.OK)
	checkRight(t, with(func(m *api.Member) { m.Kind, m.Data = 0, "\x00" }), api.OK)
	for _, kind := range []byte{0, 'x', 'g', 'L', 255} {
		checkRight(t, with(func(m *api.Member) { m.Kind = kind }), api.OK)
	}
	for _, field := range []func(m *api.Member) *string{
		func(m *api.Member) *string { return &m.Name }, func(m *api.Member) *string { return &m.Link },
		func(m *api.Member) *string { return &m.Uname }, func(m *api.Member) *string { return &m.Gname },
	} {
		for _, s := range []string{"\x00", "a\x00", "\x00a", many(300) + "\x00"} {
			checkRight(t, with(func(m *api.Member) { *field(m) = s }), api.ErrForm)
		}
		for _, s := range []string{"\x01", "/", "\xff\n", many(5000)} {
			checkRight(t, with(func(m *api.Member) { *field(m) = s }), api.OK)
		}
	}
}

// P7.1: the ranges of a right member's numbers and times.
func TestRightNumbers(t *testing.T) {
	for n, field := range []func(m *api.Member) *int{
		func(m *api.Member) *int { return &m.Mode }, func(m *api.Member) *int { return &m.Major }, func(m *api.Member) *int { return &m.Minor },
		func(m *api.Member) *int { return &m.Uid }, func(m *api.Member) *int { return &m.Gid },
	} {
		above := mostShort + 1
		if n > 2 {
			above = most + 1
		}
		for _, v := range []int{0, 1, above - 1} {
			checkRight(t, with(func(m *api.Member) { *field(m) = v }), api.OK)
		}
		for _, v := range []int{-1, above, math.MinInt, math.MaxInt} {
			checkRight(t, with(func(m *api.Member) { *field(m) = v }), api.ErrRange)
		}
	}
	for _, time := range []api.Stamp{at(0, 0), at(-most, 0), at(most, 999999999), at(-1, 1)} {
		checkRight(t, with(func(m *api.Member) { m.Time = time }), api.OK)
	}
	for _, time := range []api.Stamp{at(-most-1, 0), at(most+1, 0), at(0, -1), at(0, 1000000000), at(math.MinInt, math.MaxInt)} {
		checkRight(t, with(func(m *api.Member) { m.Time = time }), api.ErrRange)
	}
}

// P7.1: a right member's further records rise, have no known key, and tell something.
func TestRightExtra(t *testing.T) {
	for _, l := range [][]api.Pair{nil, {}, pairs("a", "b"), pairs("a", "b", "b", "a"), pairs("a", "\x00"), pairs("\x00", "="), pairs("Z", "x", "a", "x", "\xff", "x"), pairs("a", "x", "aa", "x"), pairs("pat", "x", "paths", "x")} {
		checkRight(t, with(func(m *api.Member) { m.Extra = l }), api.OK)
	}
	for _, l := range [][]api.Pair{
		pairs("", "x"), pairs("a", ""), pairs("a=", "x"), pairs("=", "x"), pairs("a=b", "x"), pairs("a", "x", "a", "x"), pairs("a", "x", "a", "y"),
		pairs("b", "x", "a", "x"), pairs("a", "x", "Z", "x"), pairs("aa", "x", "a", "x"), pairs("a", "x", "", "x"), pairs("a", "x", "b", ""), pairs("", ""),
		pairs("a", "x", "c", "x", "b", "x"), pairs("a", "x", "b", "x", "a", "x"),
	} {
		checkRight(t, with(func(m *api.Member) { m.Extra = l }), api.ErrForm)
	}
	for _, key := range known {
		checkRight(t, with(func(m *api.Member) { m.Extra = pairs(key, "1") }), api.ErrForm)
		checkRight(t, with(func(m *api.Member) { m.Extra = pairs("a", "b", key, "1", "zz", "1") }), api.ErrForm)
		checkRight(t, with(func(m *api.Member) { m.Extra = pairs(key+"x", "1") }), api.OK)
		checkRight(t, with(func(m *api.Member) { m.Extra = pairs(strings.ToUpper(key), "1") }), api.OK)
	}
}

// P7.1: ErrForm stands ahead of ErrRange, and both ahead of a size that is out of range.
func TestRightOrder(t *testing.T) {
	checkRight(t, with(func(m *api.Member) { m.Uid, m.Gname = -1, "\x00" }), api.ErrForm)
	checkRight(t, with(func(m *api.Member) { m.Mode, m.Extra = -1, pairs("", "") }), api.ErrForm)
	checkRight(t, with(func(m *api.Member) { m.Time, m.Name = at(0, -1), "" }), api.ErrForm)
	checkRight(t, with(func(m *api.Member) { m.Time, m.Extra = at(0, -1), pairs("path", "x") }), api.ErrForm)
	for _, size := range []int{-1, most + 1, math.MinInt, math.MaxInt} {
		checkDivide(t, plain(), size, api.Head{}, nil, api.ErrRange)
		checkDivide(t, with(func(m *api.Member) { m.Link = "\x00" }), size, api.Head{}, nil, api.ErrForm)
	}
}

// P7.1: what fits a block stands in the head, and has no record.
func TestDividePlain(t *testing.T) {
	checkDivide(t, plain(), 6, plainHead(), plain().Extra, api.OK)
	checkDivide(t, with(func(m *api.Member) { m.Extra, m.Data = nil, "data" }), 6, plainHead(), nil, api.OK)
	checkDivide(t, api.Member{Name: "a"}, 0, api.Head{Name: "a", Form: api.Posix}, nil, api.OK)
	checkDivide(t, with(func(m *api.Member) { m.Time = at(1, 2) }), 6, headWith(func(h *api.Head) { h.Time = 0 }), pairs("a", "b", "mtime", "1.000000002", "z", "\x00"), api.OK)
	checkDivide(t, with(func(m *api.Member) { m.Time = at(0, 500000000) }), 6, headWith(func(h *api.Head) { h.Time = 0 }), pairs("a", "b", "mtime", "0.5", "z", "\x00"), api.OK)
	checkDivide(t, with(func(m *api.Member) { m.Time = at(-1, 0) }), 6, headWith(func(h *api.Head) { h.Time = 0 }), pairs("a", "b", "mtime", "-1", "z", "\x00"), api.OK)
	checkDivide(t, plain(), mostLong, headWith(func(h *api.Head) { h.Size = mostLong }), plain().Extra, api.OK)
	checkDivide(t, plain(), mostLong+1, headWith(func(h *api.Head) { h.Size = 0 }), pairs("a", "b", "size", "8589934592", "z", "\x00"), api.OK)
	checkDivide(t, plain(), most, headWith(func(h *api.Head) { h.Size = 0 }), pairs("a", "b", "size", "9007199254740991", "z", "\x00"), api.OK)
}

// edges are members one of whose fields just fits a block, or just doesn't.
func edges() []api.Member {
	l := []api.Member{plain()}
	add := func(change func(m *api.Member)) { l = append(l, with(change)) }
	for _, n := range []int{99, 100, 101, 155, 156, 157, 255, 256, 257, 300} {
		add(func(m *api.Member) { m.Name = many(n) })
		for _, slash := range []int{0, 1, 99, 100, 101, 154, 155, 156, 157, n - 102, n - 101, n - 100, n - 2, n - 1} {
			if slash >= 0 && slash < n {
				add(func(m *api.Member) { m.Name = many(slash) + "/" + many(n-slash-1) })
				add(func(m *api.Member) { m.Name = many(slash) + "/" + strings.Repeat("/", n-slash-1) })
			}
		}
	}
	for _, n := range []int{0, 31, 32, 33, 99, 100, 101, 4096} {
		add(func(m *api.Member) { m.Link = many(n) })
		add(func(m *api.Member) { m.Uname = many(n) })
		add(func(m *api.Member) { m.Gname = many(n) })
	}
	for _, n := range []int{0, mostShort, mostShort + 1, mostLong, most} {
		add(func(m *api.Member) { m.Uid = n })
		add(func(m *api.Member) { m.Gid = n })
	}
	for _, n := range []int{0, mostShort} {
		add(func(m *api.Member) { m.Mode, m.Major, m.Minor = n, n, n })
	}
	for _, sec := range []int{-most, -mostLong, -1, 0, 1, mostShort + 1, mostLong, mostLong + 1, most} {
		for _, nsec := range []int{0, 1, 500000000, 999999999} {
			add(func(m *api.Member) { m.Time = at(sec, nsec) })
		}
	}
	return l
}

// P7.1, P7.2: members one of whose fields just fits, or just doesn't: held against the words of the chapter, and told anew.
func TestDivideEdges(t *testing.T) {
	for _, m := range edges() {
		for _, size := range []int{0, mostLong, mostLong + 1, most} {
			h, l, e := ruleDivide(m, size)
			checkDivide(t, m, size, h, l, e)
			checkBack(t, m, size)
		}
	}
}

// P7.1, P7.2: members with many fields that don't fit at once.
func TestDivideMany(t *testing.T) {
	m := api.Member{Name: many(300), Link: many(200), Kind: 'q', Mode: mostShort, Uid: most, Gid: most - 1, Uname: many(33), Gname: many(34), Major: mostShort, Minor: 1, Time: at(-1, 1), Extra: pairs("b", "x", "h", "x", "n", "x", "pat", "x", "paths", "x", "t", "x", "ubu", "x", "z", "x"), Data: "data"}
	wanted := pairs("b", "x", "gid", "9007199254740990", "gname", many(34), "h", "x", "linkpath", many(200), "mtime", "-0.999999999", "n", "x", "pat", "x", "path", many(300), "paths", "x", "size", "9007199254740991", "t", "x", "ubu", "x", "uid", "9007199254740991", "uname", many(33), "z", "x")
	checkDivide(t, m, most, api.Head{Kind: 'q', Mode: mostShort, Major: mostShort, Minor: 1, Form: api.Posix}, wanted, api.OK)
	checkBack(t, m, most)
	r := rand.New(rand.NewSource(72))
	l := edges()
	for range 3000 {
		m, from := l[r.Intn(len(l))], l[r.Intn(len(l))]
		m.Link, m.Uid, m.Time = from.Link, from.Uid, l[r.Intn(len(l))].Time
		from = l[r.Intn(len(l))]
		m.Gid, m.Uname, m.Gname = from.Gid, from.Uname, l[r.Intn(len(l))].Gname
		size := []int{0, 5, mostLong + 1, most, -1}[r.Intn(5)]
		h, records, e := ruleDivide(m, size)
		checkDivide(t, m, size, h, records, e)
		if e == api.OK {
			checkBack(t, m, size)
		}
	}
}

// P7.1: many heads and records, held against the words of the chapter; what is so told by a right head is a right member.
func TestApplyByRule(t *testing.T) {
	r := rand.New(rand.NewSource(71))
	values := []string{"1", "70", "9007199254740991", "9007199254740992", "12345678901234567", "-1", "1.5", "a", "\x00", many(120), "1\n"}
	weights := []int{0, 0, 0, 0, 1, 1, 1, 2, 3, 4, 5, 6, 7, 8, 9, 10}
	seen := map[api.Errno]int{}
	for range 9000 {
		var l []api.Pair
		for range r.Intn(6) {
			key := append([]string{"a", "pati", "zz", "mode"}, known...)[r.Intn(12)]
			l = append(l, pair(key, values[weights[r.Intn(len(weights))]]))
		}
		l = ruleMerge(nil, l)
		m, size, e := ruleApply(plainHead(), l)
		seen[e]++
		checkApply(t, plainHead(), l, m, size, e)
		if e == api.OK {
			checkRight(t, m, ruleRight(m))
			checkBack(t, m, size)
		}
	}
	if seen[api.OK] < 900 || seen[api.ErrForm] < 900 || seen[api.ErrRange] < 300 {
		t.Error("too few of a kind", seen)
	}
}

// P7.1: what is told shares nothing with what was handed in, nor with what is told later.
func TestNewMemory(t *testing.T) {
	m := plain()
	first, _ := attrs.Wanted(m, 0)
	second, _ := attrs.Wanted(m, 0)
	first[0] = pair("x", "x")
	if m.Extra[0] != pair("a", "b") || second[0] != pair("a", "b") {
		t.Error("Wanted shares its records", m.Extra, second)
	}
	l := pairs("a", "b", "c", "d")
	merged := attrs.Merge(l, nil)
	merged[0] = pair("x", "x")
	if l[0] != pair("a", "b") {
		t.Error("Merge shares its records", l)
	}
	applied, _, _ := attrs.Apply(plainHead(), l)
	again, _, _ := attrs.Apply(plainHead(), l)
	applied.Extra[0] = pair("x", "x")
	if l[0] != pair("a", "b") || again.Extra[0] != pair("a", "b") {
		t.Error("Apply shares its records", l, again.Extra)
	}
	room := pairs("a", "b", "c", "d")
	m.Extra = room[:1]
	m.Uid = most
	if l, e := attrs.Wanted(m, 0); len(l) != 2 || e != api.OK || room[1] != pair("c", "d") {
		t.Error("Wanted writes into the spare room", l, e, room)
	}
}
