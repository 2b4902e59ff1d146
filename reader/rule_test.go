package reader_test

import (
	"math/rand"
	"reflect"
	"slices"
	"strings"
	"testing"

	"boulter/api"
	"boulter/attrs"
	"boulter/header"
	"boulter/reader"
	"boulter/record"
	"boulter/span"
	"boulter/sums"
)

// wide lets be as much as may be.
var wide = reader.Caps{Head: 65536, Name: 4096}

// The marks of the forms that no block is built of.
const (
	oldMark = "\x00\x00\x00\x00\x00\x00\x00\x00"
	gnuMark = "ustar  \x00"
)

// Where fields stand in a block.
const (
	modeAt  = 100
	uidAt   = 108
	sizeAt  = 124
	sumAt   = 148
	markAt  = 257
	majorAt = 329
)

func many(n int) string { return strings.Repeat("n", n) }

func nuls(n int) string { return strings.Repeat("\x00", n) }

// all are the parts of an archive.
func all(parts ...string) string { return strings.Join(parts, "") }

// pairs are keys and values by turns.
func pairs(s ...string) []api.Pair {
	var l []api.Pair
	for at := 0; at < len(s); at += 2 {
		l = append(l, api.Pair{Key: s[at], Value: s[at+1]})
	}
	return l
}

func blockOf(h api.Head) string {
	s, fault := header.Build(h)
	if fault != api.OK {
		panic("a block that can't be built")
	}
	return s
}

// patched is a block with other bytes at a place, and their sum.
func patched(block string, at int, with string) string {
	s, _ := sums.Seal(block[:at] + with + block[at+len(with):])
	return s
}

// entry is a block and a payload; the head's size is the payload's.
func entry(h api.Head, payload string) string {
	h.Size = len(payload)
	return blockOf(h) + span.Pad(payload)
}

func file(name, payload string) string {
	return entry(api.Head{Name: name, Kind: api.File}, payload)
}

// note is an entry that is no member.
func note(kind byte, payload string) string {
	return entry(api.Head{Name: "note", Kind: kind}, payload)
}

// records is an entry of the kind Local or Global.
func records(kind byte, s ...string) string { return note(kind, printed(pairs(s...))) }

func printed(l []api.Pair) string {
	s, fault := record.Print(l)
	if fault != api.OK {
		panic("records that can't be printed")
	}
	return s
}

// valueOf fills a record of so many bytes.
func valueOf(key string, size int) string {
	for n := range size {
		if record.Size(api.Pair{Key: key, Value: many(n)}) == size {
			return many(n)
		}
	}
	panic("no record has so many bytes")
}

// numbered are so many records with keys of their own, which begin so.
func numbered(n int, key string) []api.Pair {
	var l []api.Pair
	for at := range n {
		l = append(l, api.Pair{Key: key + string(rune('a'+at/26)) + string(rune('a'+at%26)), Value: "v"})
	}
	return l
}

// one is what is told of a member.
type one struct {
	member api.Member
	size   int
	data   string
	done   bool
}

// outcome is what is told of an archive, be it as far as it came.
type outcome struct {
	members []one
	end     bool
	fault   api.Errno
	block   int
}

// plain takes no records and an empty list of them for one.
func plain(m api.Member) api.Member {
	if len(m.Extra) == 0 {
		m.Extra = nil
	}
	return m
}

// rule is what an archive tells by the chapter's words, as far as it came.
type rule struct {
	s      string
	caps   reader.Caps
	at     int
	kept   map[byte]bool
	local  []api.Pair
	name   string
	link   string
	global []api.Pair
	held   int
	outcome
}

// ruleOf reads the bytes as a whole, entry by entry.
func ruleOf(s string, c reader.Caps) *rule {
	r := &rule{s: s, caps: c, kept: map[byte]bool{}}
	blanks := 0
	for r.fault == api.OK && !r.end && r.at+512 <= len(s) {
		block := s[r.at : r.at+512]
		r.block = r.at / 512
		r.at += 512
		switch {
		case block != nuls(512) && blanks > 0:
			r.fault = api.ErrForm
		case block != nuls(512):
			r.fault = r.entry(block)
		case len(r.kept) > 0:
			r.fault = api.ErrOrder
		default:
			blanks++
			r.end = blanks == 2
		}
	}
	if r.fault == api.OK {
		r.block = 0
		if !r.end && r.at < len(s) {
			r.held += len(s) - r.at
		}
	}
	r.held += len(printed(r.local)) + len(r.name) + len(r.link) + len(printed(r.global))
	return r
}

func (r *rule) entry(block string) api.Errno {
	h, fault := header.Parse(block)
	switch {
	case fault != api.OK:
		return fault
	case h.Kind >= '0' && h.Kind <= '7':
		return r.member(h)
	case h.Kind != 'x' && h.Kind != 'g' && h.Kind != 'L' && h.Kind != 'K':
		return api.ErrType
	case h.Kind == 'g' && len(r.kept) > 0, r.kept[h.Kind]:
		return api.ErrOrder
	case strings.Contains("xg", string(h.Kind)) && h.Size > r.caps.Head, strings.Contains("LK", string(h.Kind)) && h.Size > r.caps.Name+1:
		return api.ErrCap
	}
	payload := r.s[r.at:]
	if len(payload) < h.Size {
		r.held += len(payload)
		r.at = len(r.s)
		return api.OK
	}
	r.skip(h.Size)
	return r.note(h.Kind, payload[:h.Size])
}

// skip goes behind a payload, and perhaps beyond what is there.
func (r *rule) skip(size int) {
	for r.at += size; r.at%512 != 0; r.at++ {
	}
}

func (r *rule) note(kind byte, payload string) api.Errno {
	if kind == 'L' || kind == 'K' {
		name, _, _ := strings.Cut(payload, "\x00")
		if len(name) > r.caps.Name {
			return api.ErrCap
		}
		if kind == 'L' {
			r.name = name
		} else {
			r.link = name
		}
		r.kept[kind] = true
		return api.OK
	}
	l, fault := record.Parse(payload)
	switch {
	case fault != api.OK:
		return fault
	case kind == 'x':
		r.local = l
		r.kept[kind] = true
		return api.OK
	}
	merged := attrs.Merge(r.global, l)
	if s, fault := record.Print(merged); fault != api.OK || len(s) > r.caps.Head {
		return api.ErrCap
	}
	r.global = merged
	return api.OK
}

func (r *rule) member(h api.Head) api.Errno {
	if r.kept['L'] {
		h.Name = r.name
	}
	if r.kept['K'] {
		h.Link = r.link
	}
	m, size, fault := attrs.Apply(h, attrs.Merge(r.global, r.local))
	if fault != api.OK {
		return fault
	}
	if h.Form == 1 && m.Kind == '0' && m.Name != "" && m.Name[len(m.Name)-1] == '/' {
		m.Kind = '5'
	}
	if fault := attrs.Right(m); fault != api.OK {
		return fault
	}
	if size != 0 && m.Kind != '0' && m.Kind != '7' || size > 1<<40 {
		return api.ErrRange
	}
	if len(m.Name) > r.caps.Name || len(m.Link) > r.caps.Name {
		return api.ErrCap
	}
	wanted, _ := attrs.Wanted(m, size)
	if _, fault := record.Print(wanted); fault != api.OK {
		return api.ErrCap
	}
	data := r.s[r.at:]
	data = data[:min(size, len(data))]
	r.members = append(r.members, one{member: plain(m), size: size, data: data, done: len(data) == size})
	r.kept, r.local, r.name, r.link = map[byte]bool{}, nil, "", ""
	r.skip(size)
	return api.OK
}

// listener puts what a reader tells together, and holds its form against the chapter's words.
type listener struct {
	t      *testing.T
	reader *reader.Reader
	caps   reader.Caps
	data   []byte // of the last member
	outcome
}

// told is what was told so far.
func (l *listener) told() outcome {
	o := l.outcome
	o.members = slices.Clone(o.members)
	if len(o.members) > 0 {
		o.members[len(o.members)-1].data = string(l.data)
	}
	return o
}

func listen(t *testing.T, c reader.Caps) *listener {
	t.Helper()
	r, fault := reader.New(c)
	if fault != api.OK || r == nil {
		t.Fatalf("New(%v): %d", c, fault)
	}
	return &listener{t: t, reader: r, caps: c}
}

// put holds a chunk with room behind it against what it was, too.
func (l *listener) put(chunk string) {
	l.t.Helper()
	isOver := l.end || l.fault != api.OK
	handed := append([]byte(chunk), "room"...)
	events, fault := l.reader.Put(handed[:len(chunk)])
	if string(handed) != chunk+"room" {
		l.t.Error("the chunk was changed")
	}
	if isOver && (len(events) > 0 || fault != l.fault) {
		l.t.Errorf("behind all: %d events, %d; not %d", len(events), fault, l.fault)
	}
	for _, e := range events {
		l.hear(e)
	}
	l.fault = fault
	if told, block := l.reader.Fault(); told != fault || fault == api.OK && block != 0 {
		l.t.Errorf("Fault: %d, %d beside %d", told, block, fault)
	}
	_, l.block = l.reader.Fault()
	if l.reader.Ended() != l.end {
		l.t.Errorf("Ended: %t, not %t", l.reader.Ended(), l.end)
	}
	if most := 1024 + 3*l.caps.Head + 4*l.caps.Name; l.reader.Held() > most {
		l.t.Errorf("Held: %d, above %d", l.reader.Held(), most)
	}
}

func (l *listener) hear(e reader.Event) {
	l.t.Helper()
	last := len(l.members) - 1
	isBegun := last >= 0 && !l.members[last].done
	if l.end || isBegun != (e.Kind == reader.Data || e.Kind == reader.Done) {
		l.t.Errorf("an event of the kind %d, where none may be", e.Kind)
		return
	}
	switch e.Kind {
	case reader.Begin:
		if e.Bytes != "" || e.Member.Data != "" {
			l.t.Error("a Begin with bytes")
		}
		if last >= 0 {
			l.members[last].data = string(l.data)
		}
		l.data = nil
		l.members = append(l.members, one{member: plain(e.Member), size: e.Size})
		return
	case reader.Data:
		if e.Bytes == "" {
			l.t.Error("a Data without bytes")
		}
		l.data = append(l.data, e.Bytes...)
		e.Bytes = ""
	case reader.Done:
		l.members[last].done = true
		if len(l.data) != l.members[last].size {
			l.t.Errorf("a Done behind %d bytes of %d", len(l.data), l.members[last].size)
		}
	case reader.End:
		l.end = true
	default:
		l.t.Errorf("an event of the kind %d", e.Kind)
	}
	if !reflect.DeepEqual(e, reader.Event{Kind: e.Kind}) {
		l.t.Errorf("an event with more than it has: %v", e)
	}
}

// cut is an archive in chunks of so many bytes, again and again.
func cut(s string, sizes ...int) []string {
	var l []string
	for at := 0; s != ""; at++ {
		n := min(len(s), sizes[at%len(sizes)])
		l = append(l, s[:n])
		s = s[n:]
	}
	return l
}

// cuttings are an archive in chunks of many ways.
func cuttings(s string) [][]string {
	l := [][]string{{s}, cut(s, 1), cut(s, 511), cut(s, 512), cut(s, 513, 1), cut(s, 0, 1000, 24), cut(s, 65536), cut(s, 65537)}
	random := rand.New(rand.NewSource(int64(len(s))))
	for range 4 {
		var sizes []int
		for range 50 {
			sizes = append(sizes, random.Intn(1000))
		}
		l = append(l, cut(s, sizes...))
	}
	return l
}

// checkOutcome holds what a reader tells of an archive in chunks of many ways against what it should.
func checkOutcome(t *testing.T, c reader.Caps, s string, want outcome) {
	t.Helper()
	if byRule := ruleOf(s, c).outcome; !reflect.DeepEqual(byRule, want) {
		t.Errorf("the rule itself: %.300v, not %.300v", byRule, want)
	}
	for at, chunks := range cuttings(s) {
		l := listen(t, c)
		for _, chunk := range chunks {
			l.put(chunk)
		}
		if !reflect.DeepEqual(l.told(), want) {
			t.Errorf("cutting %d: %.300v, not %.300v", at, l.told(), want)
		}
	}
}

// checkMembers reads an archive of these members, and its end.
func checkMembers(t *testing.T, c reader.Caps, s string, want ...one) {
	t.Helper()
	checkOutcome(t, c, s+span.End(), outcome{members: want, end: true})
}

// checkFault reads bytes with a fault at a block, and bytes behind it.
func checkFault(t *testing.T, c reader.Caps, s string, want api.Errno, block int) {
	t.Helper()
	r := ruleOf(s, c)
	checkOutcome(t, c, s, outcome{members: r.members, fault: want, block: block})
	checkOutcome(t, c, all(s, file("behind", "b"), span.End()), outcome{members: r.members, fault: want, block: block})
}

// checkRead reads an archive that is right, and tells its members.
func checkRead(t *testing.T, c reader.Caps, s string) []one {
	t.Helper()
	want := ruleOf(s+span.End(), c).outcome
	if !want.end {
		t.Errorf("the rule itself: %d at block %d", want.fault, want.block)
	}
	checkOutcome(t, c, s+span.End(), want)
	return slices.Clone(want.members)
}

// of is a member that was told as a whole.
func of(m api.Member, data string) one {
	return one{member: m, size: len(data), data: data, done: true}
}

func fileOf(name, data string) one {
	return of(api.Member{Name: name, Kind: api.File}, data)
}
