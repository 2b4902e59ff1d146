package writer_test

import (
	"math"
	"math/rand"
	"strings"
	"testing"

	"boulter/api"
	"boulter/record"
	"boulter/writer"
)

// full is a member each of whose fields has a value that fits a block.
func full() api.Member {
	return api.Member{Name: "d/a", Link: "l", Kind: api.File, Mode: 0o4755, Uid: 1, Gid: 2, Uname: "u", Gname: "g", Major: 3, Minor: 4, Time: api.Stamp{Sec: 5}}
}

// with is the full member, but for what change sets.
func with(change func(m *api.Member)) api.Member {
	m := full()
	change(&m)
	return m
}

func file(name string) api.Member { return api.Member{Name: name, Kind: api.File} }

// P11.1: the chapter's example.
func TestExample(t *testing.T) {
	w := writer.New()
	head, fault := w.Begin(file("a"), 3)
	if len(head) != 512 || fault != api.OK || w.Left() != 3 {
		t.Error(len(head), fault, w.Left())
	}
	data, fault := w.Data("xyz")
	if data != "xyz" || fault != api.OK || w.Left() != 0 {
		t.Error(data, fault, w.Left())
	}
	padding, fault := w.Done()
	if padding != nuls(509) || fault != api.OK {
		t.Error(len(padding), fault)
	}
	if end, fault := w.Close(); end != nuls(1024) || fault != api.OK {
		t.Error(len(end), fault)
	}
}

// P11.1: a block has each field where it stands; each kind has one, with a payload if it may.
func TestKinds(t *testing.T) {
	for kind := byte('0'); kind <= '7'; kind++ {
		m := with(func(m *api.Member) { m.Kind = kind })
		h := api.Head{Name: "d/a", Link: "l", Kind: kind, Mode: 0o4755, Uid: 1, Gid: 2, Time: 5, Uname: "u", Gname: "g", Major: 3, Minor: 4}
		checkHead(t, m, 0, ruleBlock(h), api.OK)
		h.Size = 700
		if kind == api.File || kind == api.Solid {
			checkHead(t, m, 700, ruleBlock(h), api.OK)
			continue
		}
		for _, n := range []int{1, 700, mostData, mostData + 1, -1} {
			checkRefused(t, m, n, api.ErrRange)
		}
	}
}

// P11.1: the bytes of a block, as they stand.
func TestBlock(t *testing.T) {
	s, _ := writer.Head(full(), 700)
	for _, row := range []struct {
		at   int
		want string
	}{
		{0, "d/a\x00"}, {100, "0004755\x00"}, {108, "0000001\x00"}, {116, "0000002\x00"}, {124, "00000001274\x00"}, {136, "00000000005\x00"},
		{156, "0"}, {157, "l\x00"}, {257, "ustar\x0000"}, {265, "u\x00"}, {297, "g\x00"}, {329, "0000003\x00"}, {337, "0000004\x00"}, {345, nuls(167)},
	} {
		if got := s[row.at : row.at+len(row.want)]; got != row.want {
			t.Errorf("at %d: %q, not %q", row.at, got, row.want)
		}
	}
}

// P11.1: a kind that is NUL counts as File, with a payload and without, with records and without.
func TestNoKind(t *testing.T) {
	for _, n := range []int{0, 1, 700, mostData} {
		for _, extra := range [][]api.Pair{nil, pairs("k", "v")} {
			m := with(func(m *api.Member) { m.Kind, m.Extra = 0, extra })
			want, _ := ruleHead(with(func(m *api.Member) { m.Extra = extra }), n)
			checkHead(t, m, n, want, api.OK)
		}
	}
}

// P11.1: the Data of a member isn't looked at.
func TestDataOfMember(t *testing.T) {
	m := full()
	want := checkWritten(t, m, 3)
	for _, data := range []string{"", "xy", "xyz", many(600)} {
		m.Data = data
		checkHead(t, m, 3, want, api.OK)
	}
	checkWritten(t, api.Member{Name: "d", Kind: api.Dir, Data: "x"}, 0)
}

// P11.1: what a block has no room for stands in records ahead of it, and is empty or 0 in the block.
func TestWanted(t *testing.T) {
	plainHead := api.Head{Name: "d/a", Link: "l", Kind: '0', Mode: 0o4755, Uid: 1, Gid: 2, Size: 6, Time: 5, Uname: "u", Gname: "g", Major: 3, Minor: 4}
	for name, row := range map[string]struct {
		change  func(m *api.Member, n *int)
		records string
		head    func(h *api.Head)
	}{
		"nothing":         {func(m *api.Member, n *int) {}, "", func(h *api.Head) {}},
		"further records": {func(m *api.Member, n *int) { m.Extra = pairs("a", "b\n", "z", "\x00=") }, "7 a=b\n\n7 z=\x00=\n", func(h *api.Head) {}},
		"a long name":     {func(m *api.Member, n *int) { m.Name = many(101) }, "111 path=" + many(101) + "\n", func(h *api.Head) { h.Name = "" }},
		"a long link":     {func(m *api.Member, n *int) { m.Link = many(101) }, "115 linkpath=" + many(101) + "\n", func(h *api.Head) { h.Link = "" }},
		"a name in two":   {func(m *api.Member, n *int) { m.Name = many(155) + "/" + many(100) }, "", func(h *api.Head) { h.Name = many(155) + "/" + many(100) }},
		"a long owner":    {func(m *api.Member, n *int) { m.Uname = many(33) }, "43 uname=" + many(33) + "\n", func(h *api.Head) { h.Uname = "" }},
		"a long group":    {func(m *api.Member, n *int) { m.Gname = many(33) }, "43 gname=" + many(33) + "\n", func(h *api.Head) { h.Gname = "" }},
		"a great owner":   {func(m *api.Member, n *int) { m.Uid = 1 << 21 }, "15 uid=2097152\n", func(h *api.Head) { h.Uid = 0 }},
		"a great group":   {func(m *api.Member, n *int) { m.Gid = 1 << 21 }, "15 gid=2097152\n", func(h *api.Head) { h.Gid = 0 }},
		"a time between":  {func(m *api.Member, n *int) { m.Time = api.Stamp{Sec: 1, Nsec: 2} }, "21 mtime=1.000000002\n", func(h *api.Head) { h.Time = 0 }},
		"a time of old":   {func(m *api.Member, n *int) { m.Time = api.Stamp{Sec: -1} }, "12 mtime=-1\n", func(h *api.Head) { h.Time = 0 }},
		"a great size":    {func(m *api.Member, n *int) { *n = 1 << 33 }, "19 size=8589934592\n", func(h *api.Head) { h.Size = 0 }},
		"just no great size": {func(m *api.Member, n *int) { *n = 1<<33 - 1 }, "", func(h *api.Head) {
			h.Size = 1<<33 - 1
		}},
		"several, rising": {func(m *api.Member, n *int) {
			m.Uid, m.Name, m.Extra = 1<<21, many(101), pairs("a", "b", "q", "r", "z", "y")
		}, "6 a=b\n111 path=" + many(101) + "\n6 q=r\n15 uid=2097152\n6 z=y\n", func(h *api.Head) { h.Uid, h.Name = 0, "" }},
	} {
		t.Run(name, func(t *testing.T) {
			m, n, h := full(), 6, plainHead
			row.change(&m, &n)
			row.head(&h)
			want := ruleBlock(h)
			if row.records != "" {
				want = ruleLocal(row.records) + want
			}
			checkHead(t, m, n, want, api.OK)
		})
	}
}

// P11.1: records are padded as a payload is: a whole block of them, one byte more and one less.
func TestPaddedRecords(t *testing.T) {
	for _, row := range []struct{ size, blocks int }{{6, 1}, {511, 1}, {512, 1}, {513, 2}, {1024, 2}, {1025, 3}, {65536, 128}} {
		m := with(func(m *api.Member) { m.Extra = pairs("k", valueOf(row.size)) })
		if s := checkWritten(t, m, 0); len(s) != 512*(row.blocks+2) {
			t.Errorf("records of %d bytes: %d bytes", row.size, len(s))
		}
	}
}

// valueOf fills a record of so many bytes, by the key "k".
func valueOf(size int) string {
	for n := max(0, size-10); n < size; n++ {
		if record.Size(api.Pair{Key: "k", Value: many(n)}) == size {
			return many(n)
		}
	}
	panic("no record has so many bytes")
}

// P11.1: a payload has 0 to 2^40 bytes.
func TestSizes(t *testing.T) {
	for _, kind := range []byte{0, api.File, api.Solid} {
		m := with(func(m *api.Member) { m.Kind = kind })
		for _, n := range []int{0, 1, 511, 512, 513, 1<<33 - 1, 1 << 33, mostData - 1, mostData} {
			checkWritten(t, m, n)
		}
		for _, n := range []int{-1, math.MinInt, mostData + 1, 1<<53 - 1, 1 << 53, math.MaxInt} {
			checkRefused(t, m, n, api.ErrRange)
		}
	}
}

// P11.1: a member that isn't right is refused with layer 7's error.
func TestNotRight(t *testing.T) {
	for name, row := range map[string]struct {
		change func(m *api.Member)
		fault  api.Errno
	}{
		"no name":              {func(m *api.Member) { m.Name = "" }, api.ErrForm},
		"a name with a NUL":    {func(m *api.Member) { m.Name = "a\x00" }, api.ErrForm},
		"a link with a NUL":    {func(m *api.Member) { m.Link = "\x00" }, api.ErrForm},
		"an owner with a NUL":  {func(m *api.Member) { m.Uname = "\x00u" }, api.ErrForm},
		"a group with a NUL":   {func(m *api.Member) { m.Gname = "g\x00g" }, api.ErrForm},
		"a key without a byte": {func(m *api.Member) { m.Extra = pairs("", "v") }, api.ErrForm},
		"a key with a sign":    {func(m *api.Member) { m.Extra = pairs("k=", "v") }, api.ErrForm},
		"no value":             {func(m *api.Member) { m.Extra = pairs("k", "") }, api.ErrForm},
		"a known key":          {func(m *api.Member) { m.Extra = pairs("path", "p") }, api.ErrForm},
		"keys that fall":       {func(m *api.Member) { m.Extra = pairs("l", "v", "k", "v") }, api.ErrForm},
		"a key twice":          {func(m *api.Member) { m.Extra = pairs("k", "v", "k", "v") }, api.ErrForm},
		"a mode below 0":       {func(m *api.Member) { m.Mode = -1 }, api.ErrRange},
		"a great mode":         {func(m *api.Member) { m.Mode = 1 << 21 }, api.ErrRange},
		"an owner below 0":     {func(m *api.Member) { m.Uid = -1 }, api.ErrRange},
		"too great a group":    {func(m *api.Member) { m.Gid = 1 << 53 }, api.ErrRange},
		"a great device":       {func(m *api.Member) { m.Major = 1 << 21 }, api.ErrRange},
		"a device below 0":     {func(m *api.Member) { m.Minor = -1 }, api.ErrRange},
		"too great a time":     {func(m *api.Member) { m.Time.Sec = 1 << 53 }, api.ErrRange},
		"a second between":     {func(m *api.Member) { m.Time.Nsec = 1e9 }, api.ErrRange},
	} {
		t.Run(name, func(t *testing.T) {
			m := with(row.change)
			checkRefused(t, m, 0, row.fault)
			checkRefused(t, m, 600, row.fault)
		})
	}
}

// P11.1: there are no other kinds than 0 to 7, and NUL.
func TestNoKinds(t *testing.T) {
	for kind := range 256 {
		m := with(func(m *api.Member) { m.Kind = byte(kind) })
		if kind == 0 || kind >= '0' && kind <= '7' {
			checkWritten(t, m, 0)
		} else {
			checkRefused(t, m, 0, api.ErrType)
		}
	}
}

// P11.1: the wanted records are just as many, and of as many bytes, as may be.
func TestTooManyRecords(t *testing.T) {
	withExtra := func(l []api.Pair) api.Member { return with(func(m *api.Member) { m.Extra = l }) }
	checkWritten(t, withExtra(numbered(256)), 1)
	checkRefused(t, withExtra(numbered(257)), 1, api.ErrFull)
	checkWritten(t, withExtra(pairs("k", valueOf(65536))), 1)
	checkRefused(t, withExtra(pairs("k", valueOf(65536)+"v")), 1, api.ErrLong)
	// One of a field that a block has no room for counts as well.
	checkRefused(t, withExtra(numbered(256)), 1<<33, api.ErrFull)
	checkRefused(t, withExtra(pairs("k", valueOf(65536))), 1<<33, api.ErrLong)
	checkWritten(t, withExtra(pairs("k", valueOf(65536-len("19 size=8589934592\n")))), 1<<33)
	checkRefused(t, api.Member{Name: many(70000), Kind: api.File}, 0, api.ErrLong)
	// Too many go ahead of too long.
	both := append(numbered(256), pairs("l", many(70000))...)
	checkRefused(t, withExtra(both), 1, api.ErrFull)
}

// P11.1: of several errors the first one is told.
func TestOrderOfErrors(t *testing.T) {
	m := api.Member{Name: "a\x00", Uid: -1, Kind: 'x', Extra: numbered(257)}
	n := mostData + 1
	checkRefused(t, m, n, api.ErrForm)
	m.Name = "a"
	checkRefused(t, m, n, api.ErrRange)
	m.Uid = 1
	checkRefused(t, m, n, api.ErrType)
	m.Kind = api.Dir
	checkRefused(t, m, n, api.ErrRange)
	checkRefused(t, m, 1, api.ErrRange)
	m.Kind = api.File
	checkRefused(t, m, n, api.ErrRange)
	checkRefused(t, m, mostData, api.ErrFull)
	m.Extra = pairs("k", many(70000))
	checkRefused(t, m, n, api.ErrRange)
	checkRefused(t, m, mostData, api.ErrLong)
	m.Extra = m.Extra[:0]
	checkWritten(t, m, mostData)
}

// P11.1: a payload is told as it was, in any parts, and padded.
func TestPayloads(t *testing.T) {
	random := rand.New(rand.NewSource(1))
	for _, n := range []int{0, 1, 2, 510, 511, 512, 513, 1023, 1024, 1025, 5000, 70000} {
		bytes := make([]byte, n)
		random.Read(bytes)
		data := string(bytes)
		head, _ := ruleHead(full(), n)
		for _, sizes := range [][]int{nil, {1}, {511}, {512}, {513, 1}, {0, 1000, 24}} {
			w := writer.New()
			for range 2 {
				if s := write(t, w, full(), data, sizes...); s != head+padded(data) {
					t.Errorf("%d bytes in parts %v: %d bytes, not %d", n, sizes, len(s), len(head+padded(data)))
				}
			}
			closed(t, w)
		}
	}
}

// step is a call that changes how a writer stands, or would.
type step struct {
	name string
	call func(w *writer.Writer) (string, api.Errno)
}

// steps are calls of each function.
func steps() []step {
	begin := func(m api.Member, n int) func(w *writer.Writer) (string, api.Errno) {
		return func(w *writer.Writer) (string, api.Errno) { return w.Begin(m, n) }
	}
	data := func(s string) func(w *writer.Writer) (string, api.Errno) {
		return func(w *writer.Writer) (string, api.Errno) { return w.Data(s) }
	}
	return []step{
		{"Begin", begin(full(), 5)},
		{"Begin of what may not be", begin(file(""), 5)},
		{"Data of nothing", data("")},
		{"Data", data("ab")},
		{"Data of all", data("abcde")},
		{"Data of too much", data("abcdef")},
		{"Done", func(w *writer.Writer) (string, api.Errno) { return w.Done() }},
		{"Close", func(w *writer.Writer) (string, api.Errno) { return w.Close() }},
	}
}

// P11.1: each call, wherever the writer stands: what it tells, and how many bytes lack behind it.
func TestStates(t *testing.T) {
	head, _ := ruleHead(full(), 5)
	type answer struct {
		s     string
		fault api.Errno
		left  int
	}
	state := func(left int) answer { return answer{"", api.ErrState, left} }
	for name, row := range map[string]struct {
		ahead func(w *writer.Writer)
		want  []answer
	}{
		"at the beginning": {func(w *writer.Writer) {},
			[]answer{{head, api.OK, 5}, {"", api.ErrForm, 0}, state(0), state(0), state(0), state(0), state(0), {nuls(1024), api.OK, 0}}},
		"bytes lack": {func(w *writer.Writer) { w.Begin(file("a"), 5) },
			[]answer{state(5), state(5), {"", api.OK, 5}, {"ab", api.OK, 3}, {"abcde", api.OK, 0}, {"", api.ErrLong, 5}, {"", api.ErrShort, 5}, state(5)}},
		"some bytes lack": {func(w *writer.Writer) { w.Begin(file("a"), 513); w.Data(many(511)) },
			[]answer{state(2), state(2), {"", api.OK, 2}, {"ab", api.OK, 0}, {"", api.ErrLong, 2}, {"", api.ErrLong, 2}, {"", api.ErrShort, 2}, state(2)}},
		"none lacks": {func(w *writer.Writer) { w.Begin(file("a"), 513); w.Data(many(513)) },
			[]answer{state(0), state(0), {"", api.OK, 0}, {"", api.ErrLong, 0}, {"", api.ErrLong, 0}, {"", api.ErrLong, 0}, {nuls(511), api.OK, 0}, state(0)}},
		"no payload": {func(w *writer.Writer) { w.Begin(api.Member{Name: "d", Kind: api.Dir}, 0) },
			[]answer{state(0), state(0), {"", api.OK, 0}, {"", api.ErrLong, 0}, {"", api.ErrLong, 0}, {"", api.ErrLong, 0}, {"", api.OK, 0}, state(0)}},
		"behind a member": {func(w *writer.Writer) { w.Begin(file("a"), 3); w.Data("abc"); w.Done() },
			[]answer{{head, api.OK, 5}, {"", api.ErrForm, 0}, state(0), state(0), state(0), state(0), state(0), {nuls(1024), api.OK, 0}}},
		"behind what may not be": {func(w *writer.Writer) { w.Begin(file(""), 3) },
			[]answer{{head, api.OK, 5}, {"", api.ErrForm, 0}, state(0), state(0), state(0), state(0), state(0), {nuls(1024), api.OK, 0}}},
		"behind Close": {func(w *writer.Writer) { w.Begin(file("a"), 3); w.Data("abc"); w.Done(); w.Close() },
			[]answer{state(0), state(0), state(0), state(0), state(0), state(0), state(0), state(0)}},
		"closed at once": {func(w *writer.Writer) { w.Close() },
			[]answer{state(0), state(0), state(0), state(0), state(0), state(0), state(0), state(0)}},
	} {
		for at, step := range steps() {
			w := writer.New()
			row.ahead(w)
			s, fault := step.call(w)
			if got := (answer{s, fault, w.Left()}); got != row.want[at] {
				t.Errorf("%s, %s: %s, not %s", name, step.name, brief(got), brief(row.want[at]))
			}
		}
	}
}

// P11.1: what is refused changes nothing that a later call tells.
func TestRefused(t *testing.T) {
	refuse := func(w *writer.Writer) {
		for _, step := range steps() {
			if s, fault := step.call(w); fault == api.OK && s != "" {
				t.Errorf("%s isn't refused", step.name)
			}
		}
	}
	w := writer.New()
	w.Begin(file("a"), 1)
	refuse(w)
	if data, fault := w.Data("x"); data != "x" || fault != api.OK {
		t.Error(data, fault)
	}
	if padding, fault := w.Done(); padding != nuls(511) || fault != api.OK {
		t.Error(len(padding), fault)
	}
	// A member that may not be written begins none.
	for _, n := range []int{-1, mostData + 1} {
		if s, fault := w.Begin(file("b"), n); s != "" || fault != api.ErrRange || w.Left() != 0 {
			t.Error(s, fault, w.Left())
		}
	}
	want, _ := ruleHead(file("b"), 600)
	if s := write(t, w, file("b"), many(600)); s != want+padded(many(600)) {
		t.Error("another member")
	}
	closed(t, w)
	refuse(w)
}

// P11.1: writers are their own.
func TestTwoWriters(t *testing.T) {
	a, b := writer.New(), writer.New()
	a.Begin(file("a"), 600)
	if b.Left() != 0 {
		t.Error(b.Left())
	}
	b.Begin(file("b"), 700)
	a.Data(many(600))
	if a.Left() != 0 || b.Left() != 700 {
		t.Error(a.Left(), b.Left())
	}
	a.Done()
	a.Close()
	if s, fault := b.Data(many(700)); s != many(700) || fault != api.OK {
		t.Error(len(s), fault)
	}
}

// model is how a writer stands by the chapter's words.
type model struct {
	begun, closed bool
	size, left    int
}

func (o *model) begin(m api.Member, n int) (string, api.Errno) {
	if o.begun || o.closed {
		return "", api.ErrState
	}
	s, fault := ruleHead(m, n)
	if fault == api.OK {
		o.begun, o.size, o.left = true, n, n
	}
	return s, fault
}

func (o *model) data(s string) (string, api.Errno) {
	if !o.begun {
		return "", api.ErrState
	}
	if len(s) > o.left {
		return "", api.ErrLong
	}
	o.left -= len(s)
	return s, api.OK
}

func (o *model) done() (string, api.Errno) {
	if !o.begun {
		return "", api.ErrState
	}
	if o.left > 0 {
		return "", api.ErrShort
	}
	o.begun = false
	return padded(nuls(o.size))[o.size:], api.OK
}

func (o *model) close() (string, api.Errno) {
	if o.begun || o.closed {
		return "", api.ErrState
	}
	o.closed = true
	return nuls(1024), api.OK
}

// P11.1: each call, behind any calls.
func TestAnyCalls(t *testing.T) {
	random := rand.New(rand.NewSource(2))
	for range 2000 {
		w, o := writer.New(), model{}
		for range random.Intn(60) {
			var s, want string
			var fault, wanted api.Errno
			switch random.Intn(10) {
			case 0, 1:
				m, n := anyMember(random), random.Intn(1100)-20
				s, fault = w.Begin(m, n)
				want, wanted = o.begin(m, n)
			case 2, 3, 4:
				part := many(random.Intn(600))
				s, fault = w.Data(part)
				want, wanted = o.data(part)
			case 5, 6:
				part := many(o.left)
				s, fault = w.Data(part)
				want, wanted = o.data(part)
			case 7, 8:
				s, fault = w.Done()
				want, wanted = o.done()
			case 9:
				if random.Intn(6) > 0 {
					continue
				}
				s, fault = w.Close()
				want, wanted = o.close()
			}
			if s != want || fault != wanted || w.Left() != o.left {
				t.Fatalf("%s, %d, Left %d; not %s, %d, %d", brief(s), fault, w.Left(), brief(want), wanted, o.left)
			}
		}
	}
}

func oneOf[T any](random *rand.Rand, l ...T) T { return l[random.Intn(len(l))] }

// anyMember is one of many kinds, seldom one that may not be written.
func anyMember(random *rand.Rand) api.Member {
	m := rightMember(random)
	switch random.Intn(12) {
	case 0:
		m.Kind = oneOf[byte](random, '8', '/', 'x', 'g', 'L', 'K', 255, 1)
	case 1:
		m.Name = oneOf(random, "", "a\x00b")
	case 2:
		m.Uid = oneOf(random, -1, 1<<53)
	case 3:
		m.Extra = numbered(257)
	case 4:
		m.Extra = pairs("b", "x", "a", "x")
	}
	return m
}

// rightMember is a member that may be written, if its payload may be: of a name that a reader lets be.
func rightMember(random *rand.Rand) api.Member {
	name := func() string {
		n := oneOf(random, 1, 2, 50, 99, 100, 101, 155, 156, 256, 257, 4096)
		s := []byte(many(n))
		for range random.Intn(5) {
			s[random.Intn(n)] = oneOf[byte](random, '/', '/', ' ', 255, '\n')
		}
		return string(s)
	}
	number := func(most int) int { return oneOf(random, 0, 1, random.Intn(1<<21), 1<<21-1, most) }
	m := api.Member{
		Name: name(), Kind: oneOf[byte](random, 0, '0', '1', '2', '3', '4', '5', '6', '7'), Mode: number(0o7777), Uid: number(1 << 21), Gid: number(1<<53 - 1),
		Uname: many(random.Intn(35)), Gname: many(random.Intn(35)), Major: number(7), Minor: number(0),
		Time: api.Stamp{Sec: oneOf(random, 0, 1, -1, 1<<33-1, 1<<33, 1<<53-1, 1-1<<53), Nsec: oneOf(random, 0, 0, 1, 999999999)},
	}
	if random.Intn(2) == 0 {
		m.Link = name()
	}
	if random.Intn(3) == 0 {
		m.Extra = numbered(random.Intn(5))
		m.Extra = append(m.Extra, pairs("m", "a\nb=", "zz", nuls(random.Intn(600)+1))...)
	}
	return m
}

// P11.2: what is written is an archive of the members, each of its heads of the form Posix.
func TestArchive(t *testing.T) {
	random := rand.New(rand.NewSource(3))
	for range 300 {
		w := writer.New()
		var l []api.Member
		var s strings.Builder
		for range random.Intn(6) {
			m := rightMember(random)
			if m.Kind == 0 || m.Kind == api.File || m.Kind == api.Solid {
				m.Data = strings.Repeat(oneOf(random, "\x00", "v", "\xff"), oneOf(random, 0, 1, 511, 512, 513, 1024, random.Intn(3000)))
			}
			s.WriteString(write(t, w, m, m.Data, 1+random.Intn(700), random.Intn(700)))
			l = append(l, m)
		}
		s.WriteString(closed(t, w))
		checkArchive(t, s.String(), l)
	}
}

// P11.2: members of each kind, with records and without, and none at all.
func TestArchiveOfKinds(t *testing.T) {
	checkArchive(t, closed(t, writer.New()), nil)
	w := writer.New()
	var l []api.Member
	s := ""
	for _, kind := range []byte{0, '0', '1', '2', '3', '4', '5', '6', '7'} {
		for _, extra := range [][]api.Pair{nil, pairs("a", "\x00", "k", "v=\n"), numbered(256)} {
			m := with(func(m *api.Member) { m.Kind, m.Extra = kind, extra })
			if kind == 0 || kind == api.File || kind == api.Solid {
				m.Data = many(512 + len(l))
			}
			s += write(t, w, m, m.Data)
			l = append(l, m)
		}
	}
	checkArchive(t, s+closed(t, w), l)
}

// P11.2: calls that are refused in between are not to be seen in the archive.
func TestArchiveAroundRefused(t *testing.T) {
	w := writer.New()
	s, _ := w.Begin(file("a"), 3)
	w.Begin(file("b"), 3)
	w.Close()
	data, _ := w.Data("abc")
	w.Data("d")
	padding, _ := w.Done()
	w.Done()
	w.Data("")
	w.Begin(file(""), 0)
	w.Begin(api.Member{Name: "d", Kind: api.Dir}, 1)
	s += data + padding + closed(t, w)
	checkArchive(t, s, []api.Member{{Name: "a", Kind: api.File, Data: "abc"}})
}
