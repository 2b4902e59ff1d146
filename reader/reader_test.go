package reader_test

import (
	"math/rand"
	"reflect"
	"slices"
	"strings"
	"testing"

	"boulter/api"
	"boulter/header"
	"boulter/octal"
	"boulter/reader"
	"boulter/record"
	"boulter/span"
)

// P10.1: a reader is made of caps from their least to their greatest, and of no other ones.
func TestNew(t *testing.T) {
	for _, row := range []struct {
		caps reader.Caps
		want api.Errno
	}{
		{reader.Caps{Head: 1, Name: 1}, api.OK},
		{reader.Caps{Head: 65536, Name: 4096}, api.OK},
		{reader.Caps{Head: 1, Name: 4096}, api.OK},
		{reader.Caps{Head: 65536, Name: 1}, api.OK},
		{reader.Caps{Head: 100, Name: 20}, api.OK},
		{reader.Caps{}, api.ErrRange},
		{reader.Caps{Head: 0, Name: 1}, api.ErrRange},
		{reader.Caps{Head: 1, Name: 0}, api.ErrRange},
		{reader.Caps{Head: 65537, Name: 1}, api.ErrRange},
		{reader.Caps{Head: 1, Name: 4097}, api.ErrRange},
		{reader.Caps{Head: -1, Name: 1}, api.ErrRange},
		{reader.Caps{Head: 1, Name: -1}, api.ErrRange},
		{reader.Caps{Head: -1 << 63, Name: 1<<63 - 1}, api.ErrRange},
	} {
		r, fault := reader.New(row.caps)
		if fault != row.want || (r != nil) != (row.want == api.OK) {
			t.Errorf("New(%v): %d, not %d", row.caps, fault, row.want)
		}
	}
}

// P10.1: at the beginning nothing was told, and nothing is kept.
func TestBeginning(t *testing.T) {
	l := listen(t, wide)
	fault, block := l.reader.Fault()
	if fault != api.OK || block != 0 || l.reader.Ended() || l.reader.Held() != 0 {
		t.Error(fault, block, l.reader.Ended(), l.reader.Held())
	}
	for _, chunk := range [][]byte{nil, {}} {
		if events, fault := l.reader.Put(chunk); len(events) != 0 || fault != api.OK {
			t.Error(events, fault)
		}
	}
}

// P10.1: the chapter's examples, and those of the whole that a reader tells.
func TestExamples(t *testing.T) {
	checkMembers(t, wide, "")
	checkFault(t, wide, note(api.Local, "")+nuls(512), api.ErrOrder, 1)
	checkFinish(t, wide, "", api.ErrShort, 0)
	checkFault(t, wide, patchedSum(file("a", "")), api.ErrSum, 0)
	checkFault(t, reader.Caps{Head: 65536, Name: 2}, file("d/a", ""), api.ErrCap, 0)
}

// patchedSum is a block whose sum is another one.
func patchedSum(block string) string { return block[:sumAt] + "0000000\x00" + block[sumAt+8:] }

// P10.1: of each kind a member is told, with a payload if it has one.
func TestKinds(t *testing.T) {
	for kind := byte('0'); kind <= '7'; kind++ {
		h := api.Head{Name: "d/a", Link: "l", Kind: kind, Mode: 0o755, Uid: 1, Gid: 2, Time: 5, Uname: "u", Gname: "g", Major: 3, Minor: 4}
		m := api.Member{Name: "d/a", Link: "l", Kind: kind, Mode: 0o755, Uid: 1, Gid: 2, Time: api.Stamp{Sec: 5}, Uname: "u", Gname: "g", Major: 3, Minor: 4}
		checkMembers(t, wide, entry(h, ""), of(m, ""))
		if kind == api.File || kind == api.Solid {
			checkMembers(t, wide, all(entry(h, "abc"), file("b", "d")), of(m, "abc"), fileOf("b", "d"))
		} else {
			checkMembers(t, wide, all(entry(h, ""), file("b", "d")), of(m, ""), fileOf("b", "d"))
			checkFault(t, wide, file("b", "d")+entry(h, "abc"), api.ErrRange, 2)
		}
	}
}

// P10.1: a kind that is NUL is that of a File.
func TestNoKind(t *testing.T) {
	block := patched(file("a", "b")[:512], 156, "\x00")
	checkMembers(t, wide, block+span.Pad("b"), fileOf("a", "b"))
}

// P10.1: what isn't in the head of a form isn't in the member.
func TestForms(t *testing.T) {
	h := api.Head{Name: many(110) + "/a", Link: "l", Kind: api.Char, Mode: 1, Uid: 2, Gid: 3, Time: 6, Uname: "u", Gname: "g", Major: 4, Minor: 5}
	m := api.Member{Name: many(110) + "/a", Link: "l", Kind: api.Char, Mode: 1, Uid: 2, Gid: 3, Time: api.Stamp{Sec: 6}, Uname: "u", Gname: "g", Major: 4, Minor: 5}
	block := blockOf(h)
	checkMembers(t, wide, block, of(m, ""))
	m.Name = "a"
	checkMembers(t, wide, patched(block, markAt, gnuMark), of(m, ""))
	m.Uname, m.Gname, m.Major, m.Minor = "", "", 0, 0
	checkMembers(t, wide, patched(block, markAt, oldMark), of(m, ""))
}

// P10.1, P10.2: payloads of no byte, of whole blocks and of a byte more or less are told as a whole.
func TestPayloads(t *testing.T) {
	random := rand.New(rand.NewSource(1))
	for _, n := range []int{0, 1, 2, 511, 512, 513, 1023, 1024, 1025, 65535, 65536, 65537, 140000} {
		bytes := make([]byte, n)
		random.Read(bytes)
		checkMembers(t, wide, file("a", string(bytes))+file("b", "c"), fileOf("a", string(bytes)), fileOf("b", "c"))
	}
}

// P10.1: NULs of a payload are no end, and its padding isn't looked at.
func TestBlankPayloads(t *testing.T) {
	checkMembers(t, wide, all(file("a", nuls(512)), file("b", nuls(1024)), file("c", "")), fileOf("a", nuls(512)), fileOf("b", nuls(1024)), fileOf("c", ""))
	checkFinish(t, wide, file("a", nuls(512))+nuls(512), api.ErrShort, 3)
	padded := func(kind byte, payload string) string {
		return blockOf(api.Head{Name: "a", Kind: kind, Size: len(payload)}) + payload + many(512-len(payload))
	}
	checkMembers(t, wide, padded(api.File, "b"), fileOf("a", "b"))
	checkMembers(t, wide, all(padded(api.Global, "6 k=v\n"), padded(api.Local, "8 uid=7\n"), padded(api.LongName, "l"), padded(api.LongLink, "k"), padded(api.File, "b")),
		of(api.Member{Name: "l", Link: "k", Kind: api.File, Uid: 7, Extra: pairs("k", "v")}, "b"))
}

// P10.1: a payload is told, or read, as soon as its bytes are there, whatever its last block lacks.
func TestPayloadWithoutPadding(t *testing.T) {
	checkOutcome(t, wide, file("a", "bcd")[:515], outcome{members: []one{fileOf("a", "bcd")}})
	checkOutcome(t, wide, file("a", many(513))[:1025], outcome{members: []one{fileOf("a", many(513))}})
	checkOutcome(t, wide, file("a", "")[:512], outcome{members: []one{fileOf("a", "")}})
	small := reader.Caps{Head: 10, Name: 3}
	checkOutcome(t, small, note(api.Local, "x")[:513], outcome{fault: api.ErrForm})
	checkOutcome(t, small, note(api.Global, "9 k=v\n")[:518], outcome{fault: api.ErrShort})
	checkOutcome(t, small, records(api.Global, "k", "v")+records(api.Global, "l", "v")[:518], outcome{fault: api.ErrCap, block: 2})
	checkOutcome(t, small, note(api.LongName, "name")[:516], outcome{fault: api.ErrCap})
	checkOutcome(t, small, note(api.LongLink, "name")[:516], outcome{fault: api.ErrCap})
}

// P10.1: of a payload that isn't whole all bytes that came are told.
func TestPayloadThatLacks(t *testing.T) {
	checkOutcome(t, wide, file("a", "bcd")[:514], outcome{members: []one{{member: api.Member{Name: "a", Kind: api.File}, size: 3, data: "bc"}}})
	l := listen(t, wide)
	l.put(file("a", many(600))[:512])
	for n := range 600 {
		if m := l.told().members[0]; len(m.data) != n || m.done {
			t.Fatalf("%d bytes told of %d", len(m.data), n)
		}
		l.put("n")
	}
	if !l.members[0].done {
		t.Error("no Done behind the last byte")
	}
}

// P10.1: one blank block is no end, two are, and what stands behind them isn't looked at.
func TestEnd(t *testing.T) {
	end := outcome{members: []one{fileOf("a", "b")}, end: true}
	for _, behind := range []string{"", "x", nuls(1), nuls(512), many(512), file("c", "d"), nuls(70000)} {
		checkOutcome(t, wide, all(file("a", "b"), nuls(1024), behind), end)
	}
	checkOutcome(t, wide, file("a", "b")+nuls(512), outcome{members: end.members})
	checkOutcome(t, wide, file("a", "b")+nuls(1023), outcome{members: end.members})
	for _, block := range []string{file("c", "d"), note(api.Local, ""), many(512), nuls(511) + "x"} {
		checkFault(t, wide, all(file("a", "b"), nuls(512), block), api.ErrForm, 3)
	}
}

// P10.1: what is kept is for the next member, and for no other one.
func TestKept(t *testing.T) {
	a := entry(api.Head{Name: "a", Link: "b", Kind: api.Soft, Uid: 1}, "")
	plain := of(api.Member{Name: "a", Link: "b", Kind: api.Soft, Uid: 1}, "")
	checkMembers(t, wide, all(note(api.LongName, "long"), a, a), of(api.Member{Name: "long", Link: "b", Kind: api.Soft, Uid: 1}, ""), plain)
	checkMembers(t, wide, all(note(api.LongLink, "long"), a, a), of(api.Member{Name: "a", Link: "long", Kind: api.Soft, Uid: 1}, ""), plain)
	checkMembers(t, wide, all(records(api.Local, "uid", "2", "k", "v"), a, a), of(api.Member{Name: "a", Link: "b", Kind: api.Soft, Uid: 2, Extra: pairs("k", "v")}, ""), plain)
	notes := []string{note(api.LongName, "n\x00x"), note(api.LongLink, "l\x00"), records(api.Local, "gid", "3")}
	kept := of(api.Member{Name: "n", Link: "l", Kind: api.Soft, Uid: 1, Gid: 3}, "")
	for _, order := range [][]int{{0, 1, 2}, {0, 2, 1}, {1, 0, 2}, {1, 2, 0}, {2, 0, 1}, {2, 1, 0}} {
		checkMembers(t, wide, all(notes[order[0]], notes[order[1]], notes[order[2]], a, a), kept, plain)
	}
}

// P10.1: a record of the name, or of the link, stands in place of a kept one.
func TestKeptNamesAndRecords(t *testing.T) {
	a := entry(api.Head{Name: "a", Link: "b", Kind: api.Hard}, "")
	want := of(api.Member{Name: "p", Link: "q", Kind: api.Hard}, "")
	names := note(api.LongName, "n") + note(api.LongLink, "l")
	checkMembers(t, wide, all(names, records(api.Local, "path", "p", "linkpath", "q"), a), want)
	checkMembers(t, wide, all(records(api.Local, "path", "p", "linkpath", "q"), names, a), want)
	checkMembers(t, wide, all(records(api.Global, "path", "p", "linkpath", "q"), names, a), want)
}

// P10.1: an empty kept name is a name, and a kept link that is empty is none.
func TestEmptyKeptNames(t *testing.T) {
	a := entry(api.Head{Name: "a", Link: "b", Kind: api.Soft}, "")
	for _, payload := range []string{"", "\x00", "\x00x"} {
		checkFault(t, wide, note(api.LongName, payload)+a, api.ErrForm, ruleBlocks(payload))
		checkMembers(t, wide, all(note(api.LongName, payload), records(api.Local, "path", "c"), a), of(api.Member{Name: "c", Link: "b", Kind: api.Soft}, ""))
		checkMembers(t, wide, note(api.LongLink, payload)+a, of(api.Member{Name: "a", Kind: api.Soft}, ""))
	}
}

// ruleBlocks is how many blocks an entry with a payload takes.
func ruleBlocks(payload string) int { return len(note(api.Local, payload)) / 512 }

// P10.1: global records are merged with those ahead, and hold for all members behind; local ones go before them.
func TestGlobal(t *testing.T) {
	uid := func(n int, extra ...string) one {
		return of(api.Member{Name: "a", Kind: api.Dir, Uid: n, Extra: pairs(extra...)}, "")
	}
	a := entry(api.Head{Name: "a", Kind: api.Dir, Uid: 1}, "")
	checkMembers(t, wide, all(a, records(api.Global, "uid", "2"), a, a), uid(1), uid(2), uid(2))
	checkMembers(t, wide, all(records(api.Global, "uid", "2", "k", "v"), a, records(api.Global, "k", "w", "j", "x"), a), uid(2, "k", "v"), uid(2, "j", "x", "k", "w"))
	checkMembers(t, wide, all(records(api.Global, "uid", "2", "k", "v"), records(api.Global, "uid", "", "l", "m"), a), uid(1, "k", "v", "l", "m"))
	checkMembers(t, wide, all(records(api.Global, "uid", "2", "k", "v"), records(api.Local, "uid", "3", "k", "w"), a, a), uid(3, "k", "w"), uid(2, "k", "v"))
	checkMembers(t, wide, all(records(api.Global, "uid", "2", "k", "v"), records(api.Local, "uid", "", "k", ""), a, a), uid(1), uid(2, "k", "v"))
	checkMembers(t, wide, all(records(api.Local, "k", "v", "k", "w", "k", "x"), a), uid(1, "k", "x"))
	checkMembers(t, wide, all(note(api.Global, ""), note(api.Local, ""), a), uid(1))
}

// P10.1: the size that counts is that of the records.
func TestSizeOfRecords(t *testing.T) {
	block := blockOf(api.Head{Name: "a", Kind: api.File, Size: 9})
	checkMembers(t, wide, all(records(api.Local, "size", "513"), block, span.Pad(many(513)), file("b", "")), fileOf("a", many(513)), fileOf("b", ""))
	checkMembers(t, wide, all(records(api.Local, "size", "0"), block, file("b", "")), fileOf("a", ""), fileOf("b", ""))
	checkMembers(t, wide, all(records(api.Global, "size", "2"), block, span.Pad("bc")), fileOf("a", "bc"))
	dir := blockOf(api.Head{Name: "d", Kind: api.Dir, Size: 9})
	checkMembers(t, wide, records(api.Local, "size", "0")+dir, of(api.Member{Name: "d", Kind: api.Dir}, ""))
	checkFault(t, wide, records(api.Local, "size", "1")+blockOf(api.Head{Name: "d", Kind: api.Dir}), api.ErrRange, 2)
	// What stands ahead of a member has no other size than that of its block.
	checkMembers(t, wide, all(records(api.Global, "size", "1"), records(api.Global, "uid", "12"), records(api.Local, "gid", "3"), blockOf(api.Head{Name: "a", Kind: api.File}), span.Pad("b")),
		of(api.Member{Name: "a", Kind: api.File, Uid: 12, Gid: 3}, "b"))
}

// P10.1: a File of the form Old whose name ends with a slash is a Dir.
func TestOldDirs(t *testing.T) {
	old := func(h api.Head, payload string) string {
		s := entry(h, payload)
		return patched(s[:512], markAt, oldMark) + s[512:]
	}
	told := func(name string, kind byte) one { return of(api.Member{Name: name, Kind: kind}, "") }
	slashed := api.Head{Name: "d/", Kind: api.File}
	checkMembers(t, wide, all(old(slashed, ""), file("a", "b")), told("d/", api.Dir), fileOf("a", "b"))
	checkMembers(t, wide, patched(old(slashed, ""), 156, "\x00"), told("d/", api.Dir))
	checkMembers(t, wide, entry(slashed, ""), told("d/", api.File))
	checkMembers(t, wide, patched(entry(slashed, ""), markAt, gnuMark), told("d/", api.File))
	checkMembers(t, wide, old(api.Head{Name: "d/e", Kind: api.File}, ""), told("d/e", api.File))
	checkMembers(t, wide, old(api.Head{Name: "d/", Kind: api.Solid}, ""), told("d/", api.Solid))
	checkMembers(t, wide, old(api.Head{Name: "d/", Kind: api.Hard}, ""), told("d/", api.Hard))
	checkMembers(t, wide, file("d/", "b"), fileOf("d/", "b"))
	checkMembers(t, wide, old(api.Head{Name: "d/", Kind: api.Solid}, "b"), of(api.Member{Name: "d/", Kind: api.Solid}, "b"))
	checkFault(t, wide, old(slashed, "b"), api.ErrRange, 0)
	// The name is the member's, whatever tells it.
	checkMembers(t, wide, note(api.LongName, "e/")+old(api.Head{Name: "d", Kind: api.File}, ""), told("e/", api.Dir))
	checkMembers(t, wide, records(api.Local, "path", "e/")+old(api.Head{Name: "d", Kind: api.File}, ""), told("e/", api.Dir))
	checkMembers(t, wide, records(api.Local, "path", "e")+old(slashed, ""), told("e", api.File))
}

// P10.1: each cap lets be just as much as it tells.
func TestCaps(t *testing.T) {
	for _, head := range []int{6, 11, 512, 513, 65536} {
		value := valueOf("k", head)
		just := printed(pairs("k", value))
		caps := reader.Caps{Head: head, Name: 1}
		member := of(api.Member{Name: "a", Kind: api.File, Extra: pairs("k", value)}, "")
		checkMembers(t, caps, note(api.Local, just)+file("a", ""), member)
		checkMembers(t, caps, note(api.Global, just)+file("a", ""), member)
		for _, kind := range []byte{api.Local, api.Global} {
			checkFault(t, caps, blockOf(api.Head{Name: "n", Kind: kind, Size: head + 1}), api.ErrCap, 0)
			checkFault(t, caps, blockOf(api.Head{Name: "n", Kind: kind, Size: 1<<33 - 1}), api.ErrCap, 0)
		}
	}
	for _, name := range []int{1, 2, 511, 512, 4095, 4096} {
		caps := reader.Caps{Head: 1, Name: name}
		a := entry(api.Head{Name: "a", Link: "b", Kind: api.Soft}, "")
		for _, end := range []string{"", "\x00"} {
			checkMembers(t, caps, note(api.LongName, many(name)+end)+a, of(api.Member{Name: many(name), Link: "b", Kind: api.Soft}, ""))
			checkMembers(t, caps, note(api.LongLink, many(name)+end)+a, of(api.Member{Name: "a", Link: many(name), Kind: api.Soft}, ""))
		}
		for _, kind := range []byte{api.LongName, api.LongLink} {
			checkFault(t, caps, note(kind, many(name+1)), api.ErrCap, 0)
			checkFault(t, caps, note(kind, "\x00"+many(name+1)), api.ErrCap, 0)
			checkFault(t, caps, blockOf(api.Head{Name: "n", Kind: kind, Size: name + 2}), api.ErrCap, 0)
		}
	}
	// The least cap of records lets none be.
	least := reader.Caps{Head: 1, Name: 1}
	checkMembers(t, least, all(note(api.Global, ""), note(api.Local, ""), file("a", "b")), fileOf("a", "b"))
	checkFault(t, least, note(api.Local, "x"), api.ErrForm, 0)
	checkFault(t, least, note(api.Local, "xx"), api.ErrCap, 0)
}

// P10.1: names and links have no more bytes than their cap, whatever tells them.
func TestCapOfNames(t *testing.T) {
	caps := reader.Caps{Head: 100, Name: 3}
	ahead := file("a", "")
	for _, kind := range []byte{api.File, api.Hard, api.Dir} {
		checkMembers(t, caps, entry(api.Head{Name: "abc", Link: "def", Kind: kind}, ""), of(api.Member{Name: "abc", Link: "def", Kind: kind}, ""))
		checkFault(t, caps, ahead+entry(api.Head{Name: "abcd", Link: "def", Kind: kind}, ""), api.ErrCap, 1)
		checkFault(t, caps, ahead+entry(api.Head{Name: "abc", Link: "defg", Kind: kind}, ""), api.ErrCap, 1)
	}
	for _, key := range []string{"path", "linkpath"} {
		checkFault(t, caps, all(ahead, records(api.Local, key, "abcd"), ahead), api.ErrCap, 3)
		checkFault(t, caps, all(ahead, records(api.Global, key, "abcd"), ahead), api.ErrCap, 3)
		checkRead(t, caps, all(ahead, records(api.Local, key, "abc"), ahead))
	}
	// Owners aren't names.
	checkMembers(t, caps, entry(api.Head{Name: "a", Kind: api.Fifo, Uname: "user", Gname: "group"}, ""), of(api.Member{Name: "a", Kind: api.Fifo, Uname: "user", Gname: "group"}, ""))
}

// P10.1: the global records, merged, have no more bytes than their cap, and are no more than may be.
func TestCapOfGlobal(t *testing.T) {
	caps := reader.Caps{Head: 18, Name: 3}
	two := records(api.Global, "a", "1234") + records(api.Global, "b", "1234")
	checkMembers(t, caps, two+file("a", ""), of(api.Member{Name: "a", Kind: api.File, Extra: pairs("a", "1234", "b", "1234")}, ""))
	checkMembers(t, caps, all(two, records(api.Global, "b", "", "a", "123456"), file("a", "")), of(api.Member{Name: "a", Kind: api.File, Extra: pairs("a", "123456")}, ""))
	checkFault(t, caps, two+records(api.Global, "b", "12345"), api.ErrCap, 4)
	checkFault(t, caps, two+records(api.Global, "c", "1"), api.ErrCap, 4)
	// They count as printed, which may be a byte less than they came.
	checkRead(t, reader.Caps{Head: 10, Name: 1}, note(api.Global, "10 a=1234\n"))
	checkRead(t, reader.Caps{Head: 18, Name: 1}, note(api.Global, "10 a=1234\n")+note(api.Global, "10 b=1234\n"))
	many := note(api.Global, printed(numbered(256, "k")))
	checkRead(t, wide, many+records(api.Global, "kaa", "w"))
	checkFault(t, wide, many+records(api.Global, "l", "w"), api.ErrCap, 1+len(span.Pad(printed(numbered(256, "k"))))/512)
	checkRead(t, wide, all(many, records(api.Global, "kaa", "", "l", "w"), file("a", "")))
}

// P10.1: a member whose records can't be printed is too much.
func TestWantedRecords(t *testing.T) {
	global, local := numbered(200, "g"), numbered(56, "l")
	ahead := note(api.Global, printed(global)) + note(api.Local, printed(local))
	at := len(ahead) / 512
	checkRead(t, wide, ahead+file("a", ""))
	// One more for a field that doesn't fit.
	checkFault(t, wide, ahead+patched(blockOf(api.Head{Name: "a", Kind: api.Dir}), uidAt, binary(1<<21, 8)), api.ErrCap, at)
	more := note(api.Global, printed(global)) + note(api.Local, printed(numbered(57, "l")))
	checkFault(t, wide, more+file("a", ""), api.ErrCap, len(more)/512)
	long := func(n int) string {
		return records(api.Global, "g", many(40000)) + records(api.Local, "l", many(n))
	}
	just := len(valueOf("l", 65536-len(printed(pairs("g", many(40000))))))
	checkRead(t, wide, long(just)+file("a", ""))
	checkFault(t, wide, long(just+1)+file("a", ""), api.ErrCap, len(long(just+1))/512)
	checkFault(t, wide, long(40000)+file("a", ""), api.ErrCap, len(long(40000))/512)
	// The size counts, where it has a record.
	full := records(api.Local, "k", valueOf("k", 65536))
	checkFault(t, wide, full+patched(file("a", ""), sizeAt, binary(1<<33, 12)), api.ErrCap, len(full)/512)
	checkOutcome(t, wide, full+blockOf(api.Head{Name: "a", Kind: api.File, Size: 1<<33 - 1}),
		outcome{members: []one{{member: api.Member{Name: "a", Kind: api.File, Extra: pairs("k", valueOf("k", 65536))}, size: 1<<33 - 1}}})
}

func binary(v, n int) string {
	s, ok := octal.Binary(v, n)
	if !ok {
		panic("a number that is none in binary")
	}
	return s
}

// P10.1: a payload has 2^40 bytes at most, and numbers their ranges.
func TestGreatSizes(t *testing.T) {
	for _, kind := range []byte{api.File, api.Solid} {
		block := blockOf(api.Head{Name: "a", Kind: kind})
		checkOutcome(t, wide, patched(block, sizeAt, binary(1<<40, 12))+"b", outcome{members: []one{{member: api.Member{Name: "a", Kind: kind}, size: 1 << 40, data: "b"}}})
		checkFault(t, wide, patched(block, sizeAt, binary(1<<40+1, 12)), api.ErrRange, 0)
		checkFault(t, wide, patched(block, sizeAt, binary(1<<53-1, 12)), api.ErrRange, 0)
		checkFault(t, wide, records(api.Local, "size", "1099511627777")+block, api.ErrRange, 2)
		checkOutcome(t, wide, records(api.Local, "size", "1099511627776")+block, outcome{members: []one{{member: api.Member{Name: "a", Kind: kind}, size: 1 << 40}}})
	}
}

// P10.1: what is wrong with a block that isn't part of a payload, and where.
func TestFaults(t *testing.T) {
	ahead := all(file("a", many(513)), records(api.Global, "k", "v"), file("b", ""))
	at := len(ahead) / 512
	a := blockOf(api.Head{Name: "a", Kind: api.File})
	for name, row := range map[string]struct {
		s     string
		fault api.Errno
		block int
	}{
		"blank, records are kept":   {records(api.Local, "k", "v") + nuls(512), api.ErrOrder, 2},
		"blank, none are kept":      {note(api.Local, "") + nuls(512), api.ErrOrder, 1},
		"blank, a name is kept":     {note(api.LongName, "n") + nuls(512), api.ErrOrder, 2},
		"blank, no name is kept":    {note(api.LongName, "") + nuls(512), api.ErrOrder, 1},
		"blank, a link is kept":     {note(api.LongLink, "n") + nuls(512), api.ErrOrder, 2},
		"blank, no link is kept":    {note(api.LongLink, "\x00") + nuls(512), api.ErrOrder, 2},
		"none, behind a blank":      {nuls(512) + a, api.ErrForm, 1},
		"another sum":               {patchedSum(a), api.ErrSum, 0},
		"a block of anything":       {many(512), api.ErrSum, 0},
		"another mark":              {patched(a, markAt, "ustar  0"), api.ErrForm, 0},
		"no number":                 {patched(a, modeAt, "abc"), api.ErrForm, 0},
		"a number below 0":          {patched(a, uidAt, binary(-1, 8)), api.ErrRange, 0},
		"a number above all":        {patched(a, sizeAt, binary(1<<53, 12)), api.ErrRange, 0},
		"the kind 8":                {entry(api.Head{Name: "a", Kind: '8'}, ""), api.ErrType, 0},
		"the kind /":                {entry(api.Head{Name: "a", Kind: '/'}, ""), api.ErrType, 0},
		"the kind V":                {entry(api.Head{Name: "a", Kind: 'V'}, "b"), api.ErrType, 0},
		"the kind 1":                {entry(api.Head{Name: "a", Kind: 1}, ""), api.ErrType, 0},
		"the kind 255":              {entry(api.Head{Name: "a", Kind: 255}, ""), api.ErrType, 0},
		"global behind local":       {note(api.Local, "") + note(api.Global, ""), api.ErrOrder, 1},
		"global behind a name":      {note(api.LongName, "n") + note(api.Global, ""), api.ErrOrder, 2},
		"global behind a link":      {note(api.LongLink, "n") + note(api.Global, ""), api.ErrOrder, 2},
		"local twice":               {note(api.Local, "") + note(api.Local, ""), api.ErrOrder, 1},
		"a name twice":              {note(api.LongName, "n") + note(api.LongName, "n"), api.ErrOrder, 2},
		"a link twice":              {note(api.LongLink, "n") + note(api.LongLink, "n"), api.ErrOrder, 2},
		"local twice, around names": {all(note(api.Local, ""), note(api.LongLink, "n"), note(api.LongName, "n"), note(api.Local, "")), api.ErrOrder, 5},
		"a record that is no time":  {records(api.Local, "mtime", "now") + a, api.ErrForm, 2},
		"a record that is too much": {records(api.Local, "uid", "9007199254740992") + a, api.ErrRange, 2},
		"a record with a NUL":       {records(api.Local, "path", "a\x00") + a, api.ErrForm, 2},
		"a member without a name":   {patched(a, 0, "\x00"), api.ErrForm, 0},
		"a mode above all":          {patched(a, modeAt, binary(1<<21, 8)), api.ErrRange, 0},
		"a device above all":        {patched(a, majorAt, binary(1<<21, 8)), api.ErrRange, 0},
		"a time above all":          {records(api.Local, "mtime", "9007199254740992") + a, api.ErrRange, 2},
	} {
		t.Run(name, func(t *testing.T) {
			checkFault(t, wide, row.s, row.fault, row.block)
			checkFault(t, wide, ahead+row.s, row.fault, at+row.block)
		})
	}
}

// P10.1: what is wrong behind a payload stands at its entry's block.
func TestFaultsBehindPayloads(t *testing.T) {
	caps := reader.Caps{Head: 9000, Name: 600}
	ahead := all(file("a", many(513)), note(api.Global, printed(numbered(256, "k"))))
	at := len(ahead) / 512
	for name, row := range map[string]struct {
		kinds, payload string
		fault          api.Errno
	}{
		"no records":      {"xg", many(600), api.ErrForm},
		"no end":          {"xg", printed(pairs("k", many(600))) + "6 k=v ", api.ErrForm},
		"too few bytes":   {"xg", printed(pairs("k", many(600))) + "7 k=v\n", api.ErrShort},
		"too many":        {"xg", printed(numbered(256, "k")) + "6 k=v\n", api.ErrFull},
		"a name too long": {"LK", many(601), api.ErrCap},
		"too many in all": {"g", printed(numbered(257, "k")[256:]), api.ErrCap},
	} {
		t.Run(name, func(t *testing.T) {
			for _, kind := range []byte(row.kinds) {
				checkFault(t, caps, ahead+note(kind, row.payload), row.fault, at)
				if kind != api.Global {
					other := byte(api.LongName + api.LongLink - int(kind))
					if kind == api.Local {
						other = api.LongName
					}
					checkFault(t, caps, all(ahead, note(other, many(513)), note(kind, row.payload)), row.fault, at+3)
				}
			}
		})
	}
	checkRead(t, caps, ahead+file("a", ""))
}

// P10.1: of several errors of a block the first one is told.
func TestOrderOfFaults(t *testing.T) {
	caps := reader.Caps{Head: 40, Name: 3}
	odd := blockOf(api.Head{Name: "a", Kind: 'V', Size: 1000})
	nameless := func(h api.Head) string { return patched(blockOf(h), 0, "\x00") }
	local := note(api.Local, "")
	for name, row := range map[string]struct {
		s     string
		fault api.Errno
		block int
	}{
		"behind a blank, ahead of the sum":       {nuls(512) + patchedSum(odd), api.ErrForm, 1},
		"behind a blank, ahead of the kind":      {nuls(512) + odd, api.ErrForm, 1},
		"the sum, ahead of the kind":             {patchedSum(odd), api.ErrSum, 0},
		"the mark, ahead of the kind":            {patched(odd, markAt, "x"), api.ErrForm, 0},
		"a number, ahead of the kind":            {patched(odd, uidAt, binary(-1, 8)), api.ErrRange, 0},
		"a number, ahead of what is kept":        {local + patched(local, uidAt, binary(-1, 8)), api.ErrRange, 1},
		"the kind, ahead of what is kept":        {local + odd, api.ErrType, 1},
		"what is kept, ahead of the size":        {local + blockOf(api.Head{Name: "a", Kind: api.Local, Size: 41}), api.ErrOrder, 1},
		"what is kept, ahead of global's size":   {local + blockOf(api.Head{Name: "a", Kind: api.Global, Size: 41}), api.ErrOrder, 1},
		"a name kept, ahead of a name's size":    {note(api.LongName, "") + blockOf(api.Head{Name: "a", Kind: api.LongName, Size: 5}), api.ErrOrder, 1},
		"the size, ahead of what it has":         {note(api.Local, many(41)), api.ErrCap, 0},
		"records, ahead of the name":             {records(api.Local, "uid", "9999999999999999") + nameless(api.Head{Kind: api.File}), api.ErrRange, 2},
		"records by their keys":                  {records(api.Local, "uid", "9999999999999999", "gid", "x") + odd[:0] + blockOf(api.Head{Name: "a", Kind: api.File}), api.ErrForm, 2},
		"the name, ahead of the mode":            {patched(nameless(api.Head{Kind: api.File}), modeAt, binary(1<<21, 8)), api.ErrForm, 0},
		"the name, ahead of the size":            {nameless(api.Head{Kind: api.Dir, Size: 1}), api.ErrForm, 0},
		"the name, ahead of the link":            {nameless(api.Head{Kind: api.Soft, Link: "long"}), api.ErrForm, 0},
		"the mode, ahead of the name's length":   {patched(blockOf(api.Head{Name: "long", Kind: api.Dir}), modeAt, binary(1<<21, 8)), api.ErrRange, 0},
		"the size, ahead of the name's length":   {blockOf(api.Head{Name: "long", Kind: api.Dir, Size: 1}), api.ErrRange, 0},
		"a great size, ahead of the length":      {patched(blockOf(api.Head{Name: "long", Kind: api.File}), sizeAt, binary(1<<40+1, 12)), api.ErrRange, 0},
		"records, ahead of what they are in all": {all(records(api.Global, "k", many(30)), note(api.Global, "6 l=v\n30 m="+many(24))), api.ErrShort, 2},
	} {
		t.Run(name, func(t *testing.T) { checkFault(t, caps, row.s, row.fault, row.block) })
	}
	// Of a member of the form Old that counts as a Dir likewise.
	checkFault(t, caps, patched(blockOf(api.Head{Name: "abc/", Kind: api.File, Size: 1}), markAt, oldMark), api.ErrRange, 0)
}

// checkFinish puts bytes, and nothing more.
func checkFinish(t *testing.T, c reader.Caps, s string, want api.Errno, block int) {
	t.Helper()
	for _, chunks := range cuttings(s) {
		l := listen(t, c)
		for _, chunk := range chunks {
			l.put(chunk)
		}
		for range 2 {
			if fault := l.reader.Finish(); fault != want {
				t.Errorf("Finish: %d, not %d", fault, want)
			}
		}
		if fault, at := l.reader.Fault(); fault != want || at != block {
			t.Errorf("Fault: %d at %d, not %d at %d", fault, at, want, block)
		}
		if l.reader.Ended() != (want == api.OK) {
			t.Errorf("Ended beside %d", want)
		}
		for _, chunk := range []string{"", "x", file("a", "b"), span.End()} {
			if events, fault := l.reader.Put([]byte(chunk)); len(events) != 0 || fault != want {
				t.Errorf("behind Finish: %d events, %d, not %d", len(events), fault, want)
			}
		}
		if fault, at := l.reader.Fault(); fault != want || at != block {
			t.Errorf("Fault behind Put: %d at %d, not %d at %d", fault, at, want, block)
		}
	}
}

// P10.1: what ends too soon does so at the block that isn't whole.
func TestFinish(t *testing.T) {
	s := all(file("a", many(600)), note(api.Local, printed(pairs("k", many(600)))), note(api.LongName, "n"), file("b", ""), span.End())
	for n := range len(s) {
		// At each place this would take long.
		if rest := n % 512; rest < 3 || rest > 509 || rest == 88 || rest == 89 {
			checkFinish(t, wide, s[:n], api.ErrShort, n/512)
		}
	}
	checkFinish(t, wide, s, api.OK, 0)
	checkFinish(t, wide, s+"x", api.OK, 0)
	checkFinish(t, wide, s+nuls(512), api.OK, 0)
	checkFinish(t, wide, file("a", "")+many(512), api.ErrSum, 1)
	checkFinish(t, wide, note(api.Local, "")+nuls(512), api.ErrOrder, 1)
	checkFinish(t, wide, note(api.Local, "x")[:513], api.ErrForm, 0)
}

// P10.1: a Put that meets a fault tells what stands ahead of it, and the fault; one behind it tells the fault alone.
func TestPutWithFault(t *testing.T) {
	r, _ := reader.New(wide)
	events, fault := r.Put([]byte(all(file("a", "b"), many(512), file("c", "d"), span.End())))
	if len(events) != 3 || events[0].Member.Name != "a" || events[1].Bytes != "b" || events[2].Kind != reader.Done || fault != api.ErrSum {
		t.Error(events, fault)
	}
	for _, chunk := range []string{"", file("a", "b"), span.End(), many(70000)} {
		if events, fault := r.Put([]byte(chunk)); len(events) != 0 || fault != api.ErrSum {
			t.Error(len(events), fault)
		}
	}
	if fault, block := r.Fault(); fault != api.ErrSum || block != 2 || r.Finish() != api.ErrSum || r.Ended() || r.Held() != 0 {
		t.Error(fault, block, r.Ended(), r.Held())
	}
}

// P10.1: behind the end nothing is told, and nothing waits.
func TestPutBehindEnd(t *testing.T) {
	r, _ := reader.New(wide)
	events, fault := r.Put([]byte(all(span.End(), many(100))))
	if len(events) != 1 || events[0].Kind != reader.End || fault != api.OK || !r.Ended() || r.Held() != 0 {
		t.Error(events, fault, r.Ended(), r.Held())
	}
	for _, chunk := range []string{"", "x", many(512), span.End(), many(70000)} {
		if events, fault := r.Put([]byte(chunk)); len(events) != 0 || fault != api.OK || r.Held() != 0 {
			t.Error(len(events), fault, r.Held())
		}
	}
	if fault, block := r.Fault(); fault != api.OK || block != 0 || r.Finish() != api.OK || !r.Ended() {
		t.Error(fault, block, r.Ended())
	}
}

// P10.1: Held is what waits, what is read in parts, and what is kept.
func TestHeld(t *testing.T) {
	checkHeld := func(r *reader.Reader, chunk string, want int) {
		t.Helper()
		r.Put([]byte(chunk))
		if r.Held() != want {
			t.Errorf("Held: %d, not %d", r.Held(), want)
		}
	}
	r, _ := reader.New(wide)
	global, local := records(api.Global, "g", "v"), note(api.Local, "10 l=vwxy\n9 l=vwxy\n")
	for n := range 511 {
		checkHeld(r, global[n:n+1], n+1)
	}
	checkHeld(r, global[511:512], 0)
	checkHeld(r, global[512:514], 2)
	checkHeld(r, global[514:519], 6)
	checkHeld(r, global[519:], 6)
	checkHeld(r, local, 6+18)
	checkHeld(r, note(api.LongName, "ab\x00")[:514], 6+18+2)
	checkHeld(r, note(api.LongName, "ab\x00")[514:], 6+18+2)
	checkHeld(r, note(api.LongLink, "cde\x00f"), 6+18+2+3)
	checkHeld(r, file("a", many(600))[:500], 6+18+2+3+500)
	checkHeld(r, file("a", many(600))[500:], 6)
	checkHeld(r, file("b", many(600))[:700], 6)
	checkHeld(r, file("b", many(600))[700:1112], 6)
	checkHeld(r, file("b", many(600))[1112:1200], 6)
	checkHeld(r, file("b", many(600))[1200:]+"rest", 6+4)
	// Nothing waits behind a fault.
	checkHeld(r, many(1000), 6)
	checkHeld(r, many(1000), 6)
	r, _ = reader.New(wide)
	checkHeld(r, note(api.Local, many(600))[:1000], 488)
	r.Finish()
	checkHeld(r, "", 0)
}

// P10.3: Held is within its bound where most is kept.
func TestHeldMost(t *testing.T) {
	for _, c := range []reader.Caps{wide, {Head: 98, Name: 10}, {Head: 6, Name: 1}} {
		value := valueOf("k", c.Head)
		s := all(records(api.Global, "k", value), note(api.LongName, many(c.Name)), note(api.LongLink, many(c.Name)), records(api.Local, "k", value), file("a", ""))
		for _, chunks := range [][]string{{s}, cut(s, 1), cut(s, 511), cut(s, 70000)} {
			l := listen(t, c)
			most := 0
			for _, chunk := range chunks {
				l.put(chunk)
				most = max(most, l.reader.Held())
			}
			if kept := 2*c.Head + 2*c.Name; len(chunks) == len(s) && most != kept+511 {
				t.Errorf("Held at most: %d, not %d", most, kept+511)
			}
		}
	}
}

// P10.1: a reader keeps no chunk that it is handed, and tells nothing that it, or another answer, shares.
func TestNothingIsShared(t *testing.T) {
	r, _ := reader.New(wide)
	s := []byte(all(records(api.Global, "k", "v", "l", "w"), file("a", "bcd"), file("e", ""), note(api.LongName, "name"), file("f", "g")[:300]))
	events, _ := r.Put(s)
	clear(s)
	if events[1].Bytes != "bcd" || events[0].Member.Name != "a" {
		t.Error(events)
	}
	extra := pairs("k", "v", "l", "w")
	first := events[0].Member.Extra
	first[0].Value = "x"
	_ = append(first[:1], api.Pair{Key: "y"})
	if !slices.Equal(events[3].Member.Extra, extra) {
		t.Error(events[3].Member.Extra)
	}
	events[3].Member.Extra[1].Key = "z"
	events, _ = r.Put([]byte(file("f", "g")[300:]))
	if events[0].Member.Name != "name" || !slices.Equal(events[0].Member.Extra, extra) {
		t.Error(events[0])
	}
}

// P10.1, P10.2: readers don't know of each other.
func TestTwoReaders(t *testing.T) {
	one, other := listen(t, wide), listen(t, reader.Caps{Head: 10, Name: 3})
	s := all(records(api.Global, "k", "v"), note(api.LongName, "abc"), file("a", "b"), span.End())
	for at := range s {
		one.put(s[at : at+1])
		other.put(s[at : at+1])
	}
	if !reflect.DeepEqual(one.told(), other.told()) || !one.end {
		t.Error(one.told(), other.told())
	}
}

// P10.2: wherever an archive is cut in two, it tells the same, and ahead of the cut what stands there.
func TestEachCut(t *testing.T) {
	s := all(records(api.Global, "k", "v"), file("a", many(513)), note(api.LongLink, "link"), records(api.Local, "uid", "7"), file("b", "cd"), span.End())
	want := ruleOf(s, wide).outcome
	for at := range len(s) + 1 {
		l := listen(t, wide)
		l.put(s[:at])
		if ahead := ruleOf(s[:at], wide); !reflect.DeepEqual(l.told(), ahead.outcome) || l.reader.Held() != ahead.held {
			t.Fatalf("cut at %d: %v, %d; not %v, %d", at, l.told(), l.reader.Held(), ahead.outcome, ahead.held)
		}
		l.put(s[at:])
		if !reflect.DeepEqual(l.told(), want) {
			t.Fatalf("cut at %d: %v, not %v", at, l.told(), want)
		}
	}
}

// P10.1: no chunk is too great, nor one too many.
func TestGreatChunks(t *testing.T) {
	data := many(1 << 20)
	s := all(file("a", data), file("b", "c"), span.End())
	want := outcome{members: []one{fileOf("a", data), fileOf("b", "c")}, end: true}
	for _, chunks := range [][]string{{s}, cut(s, 65536), cut(s, 65537), cut(s, 300000), cut(s, 7)} {
		l := listen(t, wide)
		for _, chunk := range chunks {
			l.put(chunk)
		}
		if !reflect.DeepEqual(l.told(), want) {
			t.Errorf("%d chunks: %d members, %t", len(chunks), len(l.members), l.end)
		}
	}
}

// P10.1 to P10.3: archives of any entries, right and wrong ones, cut anywhere, are what the chapter's words make of them.
func TestAnyArchives(t *testing.T) {
	random := rand.New(rand.NewSource(2))
	ends, faults := 0, map[api.Errno]int{}
	for range 6000 {
		c := reader.Caps{Head: 1 + random.Intn(60), Name: 1 + random.Intn(6)}
		s := anyArchive(random)
		l := listen(t, c)
		at := 0
		for at < len(s) {
			n := random.Intn(min(len(s)-at, 900) + 1)
			l.put(s[at : at+n])
			at += n
			if want := ruleOf(s[:at], c); !reflect.DeepEqual(l.told(), want.outcome) || l.reader.Held() != want.held {
				t.Fatalf("of %q with %v at %d: %v, %d; not %v, %d", s, c, at, l.told(), l.reader.Held(), want.outcome, want.held)
			}
		}
		faults[l.fault]++
		if l.end {
			ends++
		}
	}
	for _, fault := range []api.Errno{api.OK, api.ErrForm, api.ErrShort, api.ErrSum, api.ErrType, api.ErrRange, api.ErrCap, api.ErrOrder} {
		if faults[fault] < 20 {
			t.Errorf("%d archives with %d", faults[fault], fault)
		}
	}
	if ends < 500 {
		t.Errorf("%d ends", ends)
	}
}

func anyArchive(random *rand.Rand) string {
	s := ""
	for range random.Intn(6) {
		s += anyEntry(random)
	}
	s += nuls(512 * random.Intn(4))
	return s[:len(s)-random.Intn(2)*random.Intn(len(s)+1)]
}

func anyEntry(random *rand.Rand) string {
	pick := func(l ...string) string { return l[random.Intn(len(l))] }
	record := func() string {
		l := pairs(pick("k", "l", "path", "uid", "size", "linkpath", "mtime"), pick("", "1", "2.5", "ab", "c/"))
		return pick(printed(l), printed(l), printed(l), "6 k=v\n", "7 k=v\n", "9 k=v")
	}
	h := api.Head{Name: pick("a", "b/", "a/b"), Link: pick("", "l", "link"), Uid: random.Intn(9), Kind: pick("0000001234567")[random.Intn(13)]}
	payload := ""
	if random.Intn(3) == 0 {
		payload = pick("", "ab", many(511), nuls(512), many(513))
		h.Kind = api.File
	}
	switch random.Intn(12) {
	case 0, 1, 2:
		h.Kind, payload = pick("xg")[random.Intn(2)], pick("", record(), record()+record())
	case 3, 4:
		h.Kind, payload = pick("LK")[random.Intn(2)], pick("", "a", "b/", "name\x00", "names", "d\x00e")
	case 5:
		h.Kind = pick("xgLKV859")[random.Intn(8)]
	}
	s := entry(h, payload)
	switch random.Intn(30) {
	case 0:
		return patchedSum(s[:512]) + s[512:]
	case 1:
		return patched(s[:512], modeAt, binary(random.Intn(2)<<21, 8)) + s[512:]
	case 2, 3:
		return patched(s[:512], markAt, pick(oldMark, gnuMark, "other")) + s[512:]
	case 4:
		return patched(s[:512], uidAt, binary(-1, 8)) + s[512:]
	case 5:
		return nuls(512)
	}
	return s
}

// P10.1: any bytes end in a fault, or don't.
func TestAnyBytes(t *testing.T) {
	random := rand.New(rand.NewSource(3))
	for range 500 {
		s := []byte(all(records(api.Global, "k", "v"), note(api.LongName, "abc"), file("a", "b"), span.End()))
		for range random.Intn(4) {
			s[random.Intn(len(s))] = byte(random.Intn(256))
		}
		// A block that is changed is mostly sealed anew, so that more than its sum is wrong.
		if random.Intn(5) > 0 {
			for at := 0; at+512 <= len(s)-1024; at += 1024 {
				copy(s[at:], patched(string(s[at:at+512]), 0, ""))
			}
		}
		want := ruleOf(string(s), wide).outcome
		for _, chunks := range [][]string{{string(s)}, cut(string(s), 1), cut(string(s), 700)} {
			l := listen(t, wide)
			for _, chunk := range chunks {
				l.put(chunk)
			}
			if !reflect.DeepEqual(l.told(), want) {
				t.Fatalf("of %q: %v, not %v", s, l.told(), want)
			}
		}
	}
}

// P10.1: what lower layers tell of a long archive, in which much is kept, is told of each of its members.
func TestManyMembers(t *testing.T) {
	var s strings.Builder
	var want []one
	for n := range 500 {
		name := strings.Repeat("d/", n) + "a"
		m := api.Member{Name: name, Kind: api.File, Mode: n, Time: api.Stamp{Sec: n, Nsec: n}, Extra: pairs("k", "v")}
		if n == 0 {
			s.WriteString(records(api.Global, "k", "v"))
		}
		s.WriteString(records(api.Local, "path", name, "mtime", stampText(n)))
		s.WriteString(entry(api.Head{Name: "x", Kind: api.File, Mode: n}, many(n)))
		want = append(want, of(m, many(n)))
	}
	checkMembers(t, wide, s.String(), want...)
}

func stampText(n int) string {
	digits := "000000000"
	number := ""
	for rest := n; rest > 0; rest /= 10 {
		number = string(rune('0'+rest%10)) + number
	}
	if n == 0 {
		return "0"
	}
	return number + "." + digits[len(number):] + number
}

// The helpers build what they say: a block is as layer 5 parses it, records are as layer 6 does.
func TestHelpers(t *testing.T) {
	h, fault := header.Parse(patched(file("a", "b")[:512], markAt, oldMark))
	if h.Form != api.Old || h.Size != 1 || fault != api.OK {
		t.Error(h, fault)
	}
	h, fault = header.Parse(patched(file("a", "b")[:512], markAt, gnuMark))
	if h.Form != api.Gnu || fault != api.OK {
		t.Error(h, fault)
	}
	l, fault := record.Parse(records(api.Local, "a", "b", "c", "")[512:523])
	if !slices.Equal(l, pairs("a", "b", "c", "")) || fault != api.OK {
		t.Error(l, fault)
	}
	if stampText(0) != "0" || stampText(12) != "12.000000012" {
		t.Error(stampText(12))
	}
}
