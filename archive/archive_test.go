package archive_test

import (
	"fmt"
	"math/rand"
	"reflect"
	"slices"
	"strings"
	"testing"

	"boulter/api"
	"boulter/archive"
	"boulter/reader"
	"boulter/sums"
)

// P12.1: the chapter's example: no members.
func TestNoMembers(t *testing.T) {
	for _, l := range [][]api.Member{nil, {}} {
		if s, fault := archive.Encode(l); s != nuls(1024) || fault != api.OK {
			t.Error(len(s), fault)
		}
	}
	checkDecode(t, nuls(1024), wide(), nil, api.OK, 0)
	if !archive.Equal(nil, []api.Member{}) || !archive.Equal([]api.Member{}, nil) {
		t.Error("nil and empty lists are one")
	}
}

// P12.1: the members' bytes stand one behind the other, and the end behind all.
func TestEncode(t *testing.T) {
	one := file("a", many(3))
	s := checkEncode(t, []api.Member{one}, api.OK)
	if len(s) != 512+512+1024 || s[512:] != many(3)+nuls(509)+nuls(1024) {
		t.Errorf("%d bytes", len(s))
	}
	checkDecode(t, s, wide(), []api.Member{one}, api.OK, 0)
	two := checkEncode(t, []api.Member{one, dir("d"), one}, api.OK)
	if two != s[:1024]+checkEncode(t, []api.Member{dir("d")}, api.OK)[:512]+s {
		t.Errorf("%d bytes", len(two))
	}
}

// P12.1, P12.2: members of each kind, with data and without, with records and without.
func TestKinds(t *testing.T) {
	var l []api.Member
	for _, kind := range []byte{0, '0', '1', '2', '3', '4', '5', '6', '7'} {
		for _, extra := range [][]api.Pair{nil, pairs("a", "\x00", "k", "v=\n")} {
			m := full()
			m.Kind, m.Extra = kind, extra
			if kind != 0 && kind != api.File && kind != api.Solid {
				m.Data = "x"
				checkEncode(t, []api.Member{m}, api.ErrRange)
				m.Data = ""
			}
			checkBack(t, []api.Member{m})
			l = append(l, m)
		}
	}
	checkBack(t, l)
}

// P12.1, P12.2: data of no byte, of whole blocks, of a byte more or less, of several chunks.
func TestData(t *testing.T) {
	random := rand.New(rand.NewSource(1))
	var l []api.Member
	for _, n := range []int{0, 1, 511, 512, 513, 1023, 1024, 1025, 65535, 65536, 65537, 65536 - 512, 65537 - 512, 200000} {
		bytes := make([]byte, n)
		random.Read(bytes)
		checkBack(t, []api.Member{file("a", string(bytes))})
		checkBack(t, []api.Member{file("a", nuls(n)), file("b", many(n))})
		l = append(l, file(fmt.Sprint(n), string(bytes)))
	}
	checkBack(t, l)
}

// P12.1, P12.2: as many members as may be, and one more.
func TestMostMembers(t *testing.T) {
	var l []api.Member
	for at := range mostMembers {
		l = append(l, file(fmt.Sprint("f", at), many(at%3)))
	}
	checkBack(t, l)
	s, _ := archive.Encode(l)
	s = s[:len(s)-1024]
	more, _ := archive.Encode([]api.Member{file("b", many(513))})
	at := len(s) / 512
	// One more, which isn't whole, doesn't count.
	checkDecode(t, s, wide(), l, api.ErrShort, at)
	checkDecode(t, s+more[:512+512], wide(), l, api.ErrShort, at+2)
	checkDecode(t, s+"x"+nuls(511), wide(), l, api.ErrSum, at)
	// As soon as it is whole, it does, whatever comes behind it.
	checkDecode(t, s+more[:512+513], wide(), nil, api.ErrCap, 0)
	checkDecode(t, s+more, wide(), nil, api.ErrCap, 0)
	checkDecode(t, s+more[:3*512]+"x"+nuls(511), wide(), nil, api.ErrCap, 0)
	checkDecode(t, s+s+nuls(1024), wide(), nil, api.ErrCap, 0)
	checkDecode(t, s+more, reader.Caps{}, nil, api.ErrRange, 0)
	checkEncode(t, append(l, file("b", "")), api.ErrFull)
	checkEncode(t, append(l, file("", "")), api.ErrFull)
	l[mostMembers-1].Name = ""
	checkEncode(t, l, api.ErrForm)
}

// P12.1: the first member with an error tells it, and of its errors the first one.
func TestEncodeErrors(t *testing.T) {
	right := []api.Member{file("a", "b"), dir("d")}
	long := full()
	long.Extra = pairs("k", many(65536))
	for name, row := range map[string]struct {
		m     api.Member
		fault api.Errno
	}{
		"no name":         {file("", ""), api.ErrForm},
		"an owner":        {api.Member{Name: "a", Kind: api.File, Uid: -1}, api.ErrRange},
		"a kind":          {api.Member{Name: "a", Kind: api.Local}, api.ErrType},
		"a dir with data": {api.Member{Name: "a", Kind: api.Dir, Data: "b"}, api.ErrRange},
		"a long record":   {long, api.ErrLong},
		"many records":    {api.Member{Name: "a", Kind: api.File, Extra: keyed(257)}, api.ErrFull},
		"form, then kind": {api.Member{Name: "", Kind: 'x', Data: "b"}, api.ErrForm},
		"kind, then size": {api.Member{Name: "a", Kind: 'x', Data: "b", Extra: keyed(257)}, api.ErrType},
		"size, then more": {api.Member{Name: "a", Kind: api.Dir, Data: "b", Extra: keyed(257)}, api.ErrRange},
	} {
		t.Run(name, func(t *testing.T) {
			checkEncode(t, []api.Member{row.m}, row.fault)
			checkEncode(t, slices.Concat(right, []api.Member{row.m}, right), row.fault)
			checkEncode(t, slices.Concat(right, []api.Member{row.m, {Name: "a", Kind: 'y'}, {}}), row.fault)
			checkEncode(t, slices.Concat([]api.Member{{Name: "a", Kind: 'y'}}, right, []api.Member{row.m}), api.ErrType)
		})
	}
}

// keyed are so many records with keys of their own, rising.
func keyed(n int) []api.Pair {
	var l []api.Pair
	for at := range n {
		l = append(l, api.Pair{Key: fmt.Sprintf("k%04d", at), Value: "v"})
	}
	return l
}

// P12.1: a cap that may not be goes ahead of all.
func TestDecodeCaps(t *testing.T) {
	right, _ := archive.Encode([]api.Member{file("a", "b")})
	for _, s := range []string{"", "x", many(512), nuls(1024), right} {
		for _, c := range []reader.Caps{{}, {Head: 1}, {Name: 1}, {Head: 65537, Name: 1}, {Head: 1, Name: 4097}, {Head: -1, Name: 1}, {Head: 1, Name: -1}} {
			checkDecode(t, s, c, nil, api.ErrRange, 0)
		}
	}
	checkDecode(t, right, reader.Caps{Head: 1, Name: 1}, []api.Member{file("a", "b")}, api.OK, 0)
}

// P12.1: members that the caps don't let be are a fault, at their block.
func TestDecodeBeyondCaps(t *testing.T) {
	l := []api.Member{file("a", many(513)), file("bc", "")}
	s := checkEncode(t, l, api.OK)
	checkDecode(t, s, reader.Caps{Head: 1, Name: 2}, l, api.OK, 0)
	checkDecode(t, s, reader.Caps{Head: 1, Name: 1}, l[:1], api.ErrCap, 3)
	l[1].Extra = pairs("k", "v")
	s = checkEncode(t, l, api.OK)
	checkDecode(t, s, reader.Caps{Head: 6, Name: 2}, l, api.OK, 0)
	checkDecode(t, s, reader.Caps{Head: 5, Name: 2}, l[:1], api.ErrCap, 3)
}

// P12.1: what is wrong at a block: the members ahead of it, the error and the block.
func TestDecodeFaults(t *testing.T) {
	l := []api.Member{file("a", many(513)), dir("d"), file("b", "")}
	ahead := checkEncode(t, l, api.OK)
	ahead = ahead[:len(ahead)-1024]
	a := entry(t, api.Head{Name: "c", Kind: api.File}, "data")
	for name, row := range map[string]struct {
		s     string
		fault api.Errno
		block int
	}{
		"a block of anything":  {many(512), api.ErrSum, 0},
		"another mark":         {entry(t, api.Head{Name: "a", Kind: 'V'}, ""), api.ErrType, 0},
		"one blank":            {nuls(512) + a, api.ErrForm, 1},
		"records of no form":   {entry(t, api.Head{Name: "n", Kind: api.Local}, many(600)) + a, api.ErrForm, 0},
		"records of no member": {records(t, api.Local, "k", "v") + nuls(1024), api.ErrOrder, 2},
		"records twice":        {records(t, api.Local, "k", "v") + records(t, api.Local, "k", "v") + a, api.ErrOrder, 2},
		"a dir with a payload": {entry(t, api.Head{Name: "d", Kind: api.Dir}, "x"), api.ErrRange, 0},
		"a record of no time":  {records(t, api.Local, "mtime", "now") + a, api.ErrForm, 2},
		"a name of no byte":    {entry(t, api.Head{Kind: api.File}, ""), api.ErrForm, 0},
		"a name beyond caps":   {entry(t, api.Head{Name: "n", Kind: api.LongName}, many(4097)) + a, api.ErrCap, 0},
	} {
		t.Run(name, func(t *testing.T) {
			checkDecode(t, row.s, wide(), nil, row.fault, row.block)
			checkDecode(t, ahead+row.s, wide(), l, row.fault, len(ahead)/512+row.block)
			checkDecode(t, ahead+row.s+a+nuls(1024), wide(), l, row.fault, len(ahead)/512+row.block)
		})
	}
}

// P12.1: a fault in what follows many chunks, and in the chunk in which the members ahead of it are.
func TestDecodeFaultFarBehind(t *testing.T) {
	for _, n := range []int{1, 65536 - 512, 65536, 3*65536 - 512, 200000} {
		l := []api.Member{file("a", many(n)), file("b", "c")}
		s := checkEncode(t, l, api.OK)
		s = s[:len(s)-1024]
		checkDecode(t, s+many(512), wide(), l, api.ErrSum, len(s)/512)
		checkDecode(t, s+many(512)+many(200000), wide(), l, api.ErrSum, len(s)/512)
		checkDecode(t, s+nuls(1024)+many(200000), wide(), l, api.OK, 0)
	}
}

// P12.1: an archive that ends too soon, wherever it does: the members that are whole, and the block that isn't.
func TestDecodeShort(t *testing.T) {
	l := []api.Member{file("a", many(513)), dir("d"), full(), file("b", "")}
	s := checkEncode(t, l, api.OK)
	// Behind so many bytes each of them is whole: its payload is there, though its last block may not be.
	whole := []int{512 + 513, 3*512 + 512, 7*512 + 1, 8*512 + 512}
	if len(s) != 11*512 {
		t.Fatalf("%d bytes", len(s))
	}
	for n := range len(s) {
		members := 0
		for members < len(whole) && whole[members] <= n {
			members++
		}
		checkDecode(t, s[:n], wide(), l[:members], api.ErrShort, n/512)
	}
	for _, behind := range []string{"x", nuls(1), nuls(512), many(512), s} {
		checkDecode(t, s+behind, wide(), l, api.OK, 0)
	}
}

// P12.1: a payload of which next to nothing comes isn't waited for with room for all of it.
func TestDecodeGreatSize(t *testing.T) {
	block := entry(t, api.Head{Name: "a", Kind: api.File}, "")
	for _, size := range []int{1 << 33, mostData} {
		s := records(t, api.Local, "size", fmt.Sprint(size)) + block + many(1000)
		checkDecode(t, s, wide(), nil, api.ErrShort, len(s)/512)
	}
	s := records(t, api.Local, "size", fmt.Sprint(mostData+1)) + block
	checkDecode(t, s, wide(), nil, api.ErrRange, 2)
}

// anotherOf differs from what it is handed.
func anotherOf(t *testing.T, v reflect.Value) reflect.Value {
	switch old := v.Interface().(type) {
	case string:
		return reflect.ValueOf(old + "x")
	case int:
		return reflect.ValueOf(old + 1)
	case byte:
		return reflect.ValueOf(old + 1)
	}
	t.Fatalf("a field of the type %v", v.Type())
	return v
}

// differing are members each of which differs from the full one in one thing alone.
func differing(t *testing.T) map[string]api.Member {
	l := map[string]api.Member{}
	kind := reflect.TypeFor[api.Member]()
	for at := range kind.NumField() {
		m := full()
		field := reflect.ValueOf(&m).Elem().Field(at)
		switch name := kind.Field(at).Name; name {
		case "Time":
			m.Time.Sec++
			l["Sec"] = m
			m = full()
			m.Time.Nsec++
			l["Nsec"] = m
		case "Extra":
		default:
			field.Set(anotherOf(t, field))
			l[name] = m
		}
	}
	for name, extra := range map[string][]api.Pair{
		"no records":       nil,
		"a record less":    pairs("j", "v"),
		"the first less":   pairs("k", "w"),
		"a record more":    pairs("j", "v", "k", "w", "l", "x"),
		"another key":      pairs("j", "v", "l", "w"),
		"another value":    pairs("j", "v", "k", "v"),
		"the first key":    pairs("i", "v", "k", "w"),
		"the first value":  pairs("j", "w", "k", "w"),
		"another order":    pairs("k", "w", "j", "v"),
		"keys in exchange": pairs("k", "v", "j", "w"),
		"one twice":        pairs("j", "v", "j", "v"),
	} {
		m := full()
		m.Extra = extra
		l[name] = m
	}
	return l
}

// P12.1: two members are the same just if all fields are.
func TestSame(t *testing.T) {
	rows := differing(t)
	rows["full"] = full()
	rows["none"] = api.Member{}
	rows["no kind"] = api.Member{Name: "a"}
	rows["file"] = api.Member{Name: "a", Kind: api.File}
	for first, a := range rows {
		for second, b := range rows {
			if want := first == second; archive.Same(a, b) != want || ruleSame(a, b) != want {
				t.Errorf("Same of %q and %q: %t", first, second, !want)
			}
		}
		b := copied([]api.Member{a})[0]
		if !archive.Same(a, b) || !archive.Same(b, a) {
			t.Errorf("%q isn't the same as a copy of it", first)
		}
	}
	a, b := full(), full()
	a.Extra, b.Extra = nil, []api.Pair{}
	if !archive.Same(a, b) || !archive.Same(b, a) {
		t.Error("nil and empty lists are one")
	}
	b.Extra = full().Extra[:0]
	if !archive.Same(a, b) {
		t.Error("what stands behind a list is none of it")
	}
}

// P12.1: two lists are equal just if they are as long, and each member is the same as the other one's.
func TestEqual(t *testing.T) {
	a, b := file("a", "x"), file("b", "x")
	lists := [][]api.Member{{}, {a}, {b}, {a, a}, {a, b}, {b, a}, {b, b}, {a, b, a}, {{}}, {a, {}}}
	for first, l := range lists {
		for second, m := range lists {
			if want := first == second; archive.Equal(copied(l), copied(m)) != want {
				t.Errorf("Equal of %v and %v: %t", l, m, !want)
			}
		}
	}
	for name, m := range differing(t) {
		ahead, behind := []api.Member{m, a, a}, []api.Member{a, a, m}
		if archive.Equal(ahead, []api.Member{full(), a, a}) || archive.Equal(behind, []api.Member{a, a, full()}) || !archive.Equal(ahead, copied(ahead)) {
			t.Errorf("Equal of lists with %q", name)
		}
	}
}

// P12.1: of several members of a name the last one is found, and none where there is none.
func TestFind(t *testing.T) {
	l := []api.Member{file("a", ""), dir("b"), file("a", "x"), file("", ""), {Name: "c", Link: "d"}, dir("b/")}
	for _, row := range []struct {
		name string
		at   int
		ok   bool
	}{
		{"a", 2, true}, {"b", 1, true}, {"", 3, true}, {"c", 4, true}, {"b/", 5, true},
		{"d", 0, false}, {"A", 0, false}, {"a/", 0, false}, {"a\x00", 0, false}, {"/b", 0, false},
	} {
		before := copied(l)
		if at, ok := archive.Find(l, row.name); at != row.at || ok != row.ok {
			t.Errorf("Find(%q): %d, %t; not %d, %t", row.name, at, ok, row.at, row.ok)
		}
		if !archive.Equal(l, before) {
			t.Error("the list is changed")
		}
	}
	for _, none := range [][]api.Member{nil, {}, l[:0]} {
		if at, ok := archive.Find(none, "a"); at != 0 || ok {
			t.Error(at, ok)
		}
	}
	if at, ok := archive.Find(l[:1], "a"); at != 0 || !ok {
		t.Error(at, ok)
	}
}

func oneOf[T any](random *rand.Rand, l ...T) T { return l[random.Intn(len(l))] }

// anyName is one that a reader lets be.
func anyName(random *rand.Rand) string {
	n := oneOf(random, 1, 2, 3, 99, 100, 101, 155, 156, 256, 257, 4096)
	s := []byte(many(n))
	for range random.Intn(5) {
		s[random.Intn(n)] = oneOf[byte](random, '/', '/', ' ', 255, '\n', '=')
	}
	return string(s)
}

// rightMember is one that may be written and read.
func rightMember(random *rand.Rand) api.Member {
	number := func(most int) int { return oneOf(random, 0, 1, random.Intn(1<<21), 1<<21-1, most) }
	m := api.Member{
		Name: anyName(random), Kind: oneOf[byte](random, 0, '0', '1', '2', '3', '4', '5', '6', '7'),
		Mode: number(0o7777), Uid: number(1 << 21), Gid: number(1<<53 - 1), Uname: many(random.Intn(35)), Gname: many(random.Intn(35)),
		Major: number(7), Minor: number(0),
		Time: api.Stamp{Sec: oneOf(random, 0, 1, -1, 1<<33-1, 1<<33, 1<<53-1, 1-1<<53), Nsec: oneOf(random, 0, 0, 1, 999999999)},
	}
	if random.Intn(2) == 0 {
		m.Link = anyName(random)
	}
	if random.Intn(3) == 0 {
		m.Extra = append(keyed(random.Intn(5)), pairs("m", "a\nb=", "zz", nuls(random.Intn(600)+1))...)
	}
	if m.Kind == 0 || m.Kind == api.File || m.Kind == api.Solid {
		m.Data = strings.Repeat(oneOf(random, "\x00", "v", "\xff"), oneOf(random, 0, 1, 511, 512, 513, 1024, random.Intn(3000), random.Intn(70000)))
	}
	return m
}

// P12.2: what is encoded is decoded as it was.
func TestBack(t *testing.T) {
	random := rand.New(rand.NewSource(2))
	for range 200 {
		var l []api.Member
		for range random.Intn(6) {
			l = append(l, rightMember(random))
		}
		checkBack(t, l)
	}
}

// anyEntry is a member and what stands ahead of it, as others than the writer write them.
func anyEntry(t *testing.T, random *rand.Rand) string {
	h := api.Head{Name: oneOf(random, "a", "b/", "c/d", "/"), Kind: oneOf[byte](random, 0, '0', '0', '1', '2', '5', '7'), Mode: random.Intn(1 << 12), Uid: random.Intn(9), Time: random.Intn(1 << 30), Uname: many(random.Intn(3)), Major: random.Intn(2)}
	s := ""
	if random.Intn(4) == 0 {
		s += records(t, api.Global, oneOf(random, "gid", "uid", "g"), oneOf(random, "", "12", "3000000"))
	}
	for _, kind := range []byte{api.LongName, api.LongLink} {
		if random.Intn(3) == 0 {
			name := anyName(random)
			// With a slash behind it, a file of old would be a directory, which has no payload.
			s += entry(t, api.Head{Name: "n", Kind: kind}, name[1:]+"n"+oneOf(random, "", "\x00"))
		}
	}
	if random.Intn(3) == 0 {
		s += records(t, api.Local, "b", oneOf(random, "", "x"), "mtime", oneOf(random, "1.50", "-0", "-0.25", "007"), "a", anyName(random), "a", "y")
	}
	payload := ""
	if h.Kind == api.File && !strings.HasSuffix(h.Name, "/") || h.Kind == api.Solid {
		payload = many(random.Intn(1200))
	}
	return s + inForm(t, entry(t, h, payload), oneOf(random, "ustar\x0000", "ustar  \x00", nuls(8)))
}

// inForm is an entry whose block has another mark.
func inForm(t *testing.T, s, mark string) string {
	t.Helper()
	block, fault := sums.Seal(s[:257] + mark + s[265:512])
	if fault != api.OK {
		t.Fatalf("a block that can't be sealed: %d", fault)
	}
	return block + s[512:]
}

// P12.2: what is decoded without an error is encoded, and decoded the same.
func TestAnew(t *testing.T) {
	random := rand.New(rand.NewSource(3))
	for range 300 {
		s := ""
		for range random.Intn(6) {
			s += anyEntry(t, random)
		}
		checkAnew(t, s+nuls(1024)+oneOf(random, "", "x", many(512), many(70000)))
	}
}

// P12.1: whatever bytes an archive has, Decode tells what the chapter says.
func TestDecodeByRule(t *testing.T) {
	random := rand.New(rand.NewSource(4))
	for range 1500 {
		s := ""
		for range random.Intn(5) {
			s += anyEntry(t, random)
		}
		s += nuls(1024)
		if random.Intn(2) == 0 {
			s = s[:random.Intn(len(s)+1)]
		}
		bytes := []byte(s)
		for range random.Intn(3) {
			if len(bytes) > 0 {
				bytes[random.Intn(len(bytes))] = oneOf[byte](random, 0, 1, ' ', '0', '5', 'x', 255)
			}
		}
		c := oneOf(random, wide(), reader.Caps{Head: 40, Name: 100}, reader.Caps{Head: 1, Name: 1})
		want, fault, block := ruleDecode(string(bytes), c)
		checkDecode(t, string(bytes), c, want, fault, block)
	}
}

// P12.1: what is told shares no memory with anything else that is told.
func TestNewMemory(t *testing.T) {
	s := records(t, api.Global, "g", "v")
	for range 3 {
		s += entry(t, api.Head{Name: "a", Kind: api.File}, "x")
	}
	s += nuls(1024)
	first, _, _ := archive.Decode(s, wide())
	second, _, _ := archive.Decode(s, wide())
	want := copied(first)
	if len(first) != 3 || len(first[0].Extra) != 1 {
		t.Fatalf("%v", first)
	}
	// Neither what is changed nor what is put behind one list is to be seen in another.
	first[0].Extra[0].Value = "w"
	first[0].Name = "b"
	for at := range first {
		first[at].Extra = append(first[at].Extra, api.Pair{Key: fmt.Sprint(at), Value: "v"})
	}
	for at := range first {
		if first[at].Extra[1].Key != fmt.Sprint(at) || at > 0 && first[at].Extra[0].Value != "v" {
			t.Errorf("the records of %d: %v", at, first[at].Extra)
		}
	}
	if !archive.Equal(second, want) {
		t.Errorf("%v, not %v", second, want)
	}
	l := []api.Member{full()}
	got, _ := archive.Encode(l)
	before := strings.Clone(got)
	l[0].Extra[0].Key = "i"
	l[0].Name = "b"
	if got != before {
		t.Error("what is told has changed")
	}
}
