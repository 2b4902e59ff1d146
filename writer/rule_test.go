package writer_test

import (
	"fmt"
	"reflect"
	"slices"
	"strings"
	"testing"

	"boulter/api"
	"boulter/attrs"
	"boulter/header"
	"boulter/reader"
	"boulter/record"
	"boulter/writer"
)

const mostData = 1 << 40

// brief is what a message shows of a thing.
func brief(thing any) string {
	s := fmt.Sprintf("%+q", thing)
	return s[:min(len(s), 500)]
}

func nuls(n int) string { return strings.Repeat("\x00", n) }

func many(n int) string { return strings.Repeat("v", n) }

// padded goes on with NULs till the blocks are whole.
func padded(s string) string {
	for len(s)%512 != 0 {
		s += "\x00"
	}
	return s
}

// pairs are keys and values by turns.
func pairs(s ...string) []api.Pair {
	var l []api.Pair
	for at := 0; at < len(s); at += 2 {
		l = append(l, api.Pair{Key: s[at], Value: s[at+1]})
	}
	return l
}

// numbered are so many records with keys of their own, rising.
func numbered(n int) []api.Pair {
	var l []api.Pair
	for at := range n {
		l = append(l, api.Pair{Key: fmt.Sprintf("k%04d", at), Value: "v"})
	}
	return l
}

// rulePart parts a name for its two fields at the last slash that may be.
func rulePart(name string) (prefix, base string) {
	if len(name) <= 100 {
		return "", name
	}
	for at := range len(name) {
		if name[at] == '/' && at >= 1 && at <= 155 && len(name)-at-1 >= 1 && len(name)-at-1 <= 100 {
			prefix, base = name[:at], name[at+1:]
		}
	}
	return prefix, base
}

// ruleBlock is the block of a head that fits, by the words of the layers below.
func ruleBlock(h api.Head) string {
	block := make([]byte, 512)
	number := func(at, digits, n int) { copy(block[at:], fmt.Sprintf("%0*o", digits, n)) }
	prefix, base := rulePart(h.Name)
	copy(block, base)
	number(100, 7, h.Mode)
	number(108, 7, h.Uid)
	number(116, 7, h.Gid)
	number(124, 11, h.Size)
	number(136, 11, h.Time)
	copy(block[148:], "        ")
	block[156] = h.Kind
	copy(block[157:], h.Link)
	copy(block[257:], "ustar\x0000")
	copy(block[265:], h.Uname)
	copy(block[297:], h.Gname)
	number(329, 7, h.Major)
	number(337, 7, h.Minor)
	copy(block[345:], prefix)
	sum := 0
	for _, b := range block {
		sum += int(b)
	}
	copy(block[148:], fmt.Sprintf("%06o\x00 ", sum))
	return string(block)
}

// ruleLocal is the entry of records.
func ruleLocal(records string) string {
	return ruleBlock(api.Head{Name: "PaxHeaders", Kind: 'x', Mode: 420, Size: len(records)}) + padded(records)
}

// ruleHead is Head by the chapter's words.
func ruleHead(m api.Member, n int) (string, api.Errno) {
	if m.Kind == 0 {
		m.Kind = '0'
	}
	if fault := attrs.Right(m); fault != api.OK {
		return "", fault
	}
	if !strings.Contains("01234567", string(rune(m.Kind))) {
		return "", api.ErrType
	}
	if n < 0 || n > mostData || n != 0 && m.Kind != '0' && m.Kind != '7' {
		return "", api.ErrRange
	}
	wanted, _ := attrs.Wanted(m, n)
	records, fault := record.Print(wanted)
	if fault != api.OK {
		return "", fault
	}
	h, _ := attrs.Head(m, n)
	if len(wanted) == 0 {
		return ruleBlock(h), api.OK
	}
	return ruleLocal(records) + ruleBlock(h), api.OK
}

// withRoom is the member with room behind its records, which are not to be written to.
func withRoom(m api.Member) (api.Member, []api.Pair) {
	room := append(slices.Clone(m.Extra), pairs("spare", "room", "more", "room")...)
	m.Extra = room[:len(m.Extra)]
	return m, room
}

// checkHead holds Head, and Begin at the beginning and behind a member, against what is wanted.
func checkHead(t *testing.T, m api.Member, n int, want string, fault api.Errno) {
	t.Helper()
	if s, e := ruleHead(m, n); s != want || e != fault {
		t.Errorf("the rule itself of %s, %d: %s, %d, not %s, %d", brief(m), n, brief(s), e, brief(want), fault)
	}
	handed, room := withRoom(m)
	before := slices.Clone(room)
	if s, e := writer.Head(handed, n); s != want || e != fault {
		t.Errorf("Head(%s, %d): %s, %d, not %s, %d", brief(m), n, brief(s), e, brief(want), fault)
	}
	fresh, later := writer.New(), writer.New()
	write(t, later, api.Member{Name: "ahead", Kind: api.File}, "abc")
	for _, w := range []*writer.Writer{fresh, later} {
		if s, e := w.Begin(handed, n); s != want || e != fault {
			t.Errorf("Begin(%s, %d): %s, %d, not %s, %d", brief(m), n, brief(s), e, brief(want), fault)
		}
		left := n
		if fault != api.OK {
			left = 0
		}
		if w.Left() != left {
			t.Errorf("Left behind Begin(%s, %d): %d, not %d", brief(m), n, w.Left(), left)
		}
	}
	if !slices.Equal(room, before) {
		t.Errorf("the records of %s are changed: %s", brief(m), brief(room))
	}
}

// checkWritten holds a member that may be written against the rule.
func checkWritten(t *testing.T, m api.Member, n int) string {
	t.Helper()
	s, fault := ruleHead(m, n)
	if fault != api.OK {
		t.Errorf("the rule itself of %s, %d: %d", brief(m), n, fault)
	}
	checkHead(t, m, n, s, fault)
	return s
}

// checkRefused holds a member that may not be written against its error.
func checkRefused(t *testing.T, m api.Member, n int, fault api.Errno) {
	t.Helper()
	checkHead(t, m, n, "", fault)
}

// write is a member's bytes, its payload in parts of these sizes, again and again (all of it in one, if there are none).
func write(t *testing.T, w *writer.Writer, m api.Member, data string, sizes ...int) string {
	t.Helper()
	head, fault := w.Begin(m, len(data))
	if fault != api.OK {
		t.Fatalf("Begin(%s, %d): %d", brief(m), len(data), fault)
	}
	var all strings.Builder
	all.WriteString(head)
	for at := 0; data != ""; at++ {
		part := data
		if len(sizes) > 0 {
			part = data[:min(len(data), sizes[at%len(sizes)])]
		}
		data = data[len(part):]
		told, fault := w.Data(part)
		if told != part || fault != api.OK || w.Left() != len(data) {
			t.Fatalf("Data of %d bytes, of %d: %d bytes, %d, Left %d", len(part), len(part)+len(data), len(told), fault, w.Left())
		}
		all.WriteString(told)
	}
	padding, fault := w.Done()
	if fault != api.OK {
		t.Fatalf("Done: %d", fault)
	}
	all.WriteString(padding)
	return all.String()
}

// closed ends an archive.
func closed(t *testing.T, w *writer.Writer) string {
	t.Helper()
	end, fault := w.Close()
	if end != nuls(1024) || fault != api.OK {
		t.Fatalf("Close: %d bytes, %d", len(end), fault)
	}
	return end
}

// plain takes no records and an empty list of them for one.
func plain(m api.Member) api.Member {
	if len(m.Extra) == 0 {
		m.Extra = nil
	}
	return m
}

// read is what a reader tells of a whole archive, the payloads as the members' data.
func read(t *testing.T, s string) []api.Member {
	t.Helper()
	r, fault := reader.New(reader.Caps{Head: api.MaxHead, Name: api.MaxName})
	if fault != api.OK {
		t.Fatal(fault)
	}
	events, fault := r.Put([]byte(s))
	if fault != api.OK || !r.Ended() {
		_, block := r.Fault()
		t.Fatalf("no archive: %d at block %d", fault, block)
	}
	var l []api.Member
	for _, e := range events {
		switch e.Kind {
		case reader.Begin:
			l = append(l, plain(e.Member))
		case reader.Data:
			l[len(l)-1].Data += e.Bytes
		}
	}
	return l
}

// checkArchive holds what was written against its members, and each of its heads against the form Posix.
func checkArchive(t *testing.T, s string, want []api.Member) {
	t.Helper()
	var members []api.Member
	for _, m := range want {
		if m.Kind == 0 {
			m.Kind = '0'
		}
		members = append(members, plain(m))
	}
	if got := read(t, s); !reflect.DeepEqual(got, members) {
		t.Errorf("%s, not %s", brief(got), brief(members))
	}
	if !strings.HasSuffix(s, nuls(1024)) || len(s)%512 != 0 {
		t.Errorf("%d bytes, or no end", len(s))
	}
	for s = s[:len(s)-1024]; s != ""; {
		h, fault := header.Parse(s[:512])
		if fault != api.OK || h.Form != api.Posix || s[257:265] != "ustar\x0000" {
			t.Fatalf("a head of the form %d: %d", h.Form, fault)
		}
		s = s[len(padded(nuls(512+h.Size))):]
	}
}
