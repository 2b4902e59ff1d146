package archive_test

import (
	"fmt"
	"reflect"
	"strings"
	"testing"

	"boulter/api"
	"boulter/archive"
	"boulter/header"
	"boulter/reader"
	"boulter/record"
	"boulter/writer"
)

const (
	mostMembers = 4096
	mostData    = 1 << 40
)

// wide caps let be as much as any do.
func wide() reader.Caps { return reader.Caps{Head: 65536, Name: 4096} }

// brief is what a message shows of a thing.
func brief(thing any) string {
	s := fmt.Sprintf("%+q", thing)
	return s[:min(len(s), 500)]
}

func nuls(n int) string { return strings.Repeat("\x00", n) }

func many(n int) string { return strings.Repeat("v", n) }

// padded goes on with NULs till the blocks are whole.
func padded(s string) string { return s + nuls((512-len(s)%512)%512) }

// pairs are keys and values by turns.
func pairs(s ...string) []api.Pair {
	var l []api.Pair
	for at := 0; at < len(s); at += 2 {
		l = append(l, api.Pair{Key: s[at], Value: s[at+1]})
	}
	return l
}

func file(name, data string) api.Member {
	return api.Member{Name: name, Kind: api.File, Data: data}
}

func dir(name string) api.Member { return api.Member{Name: name, Kind: api.Dir} }

// full is a member no field of which is empty or 0.
func full() api.Member {
	return api.Member{Name: "a", Link: "l", Kind: api.File, Mode: 1, Uid: 2, Gid: 3, Uname: "u", Gname: "g", Major: 4, Minor: 5, Time: api.Stamp{Sec: 6, Nsec: 7}, Extra: pairs("j", "v", "k", "w"), Data: "d"}
}

// entry is a block of a head and a payload, as an archive has it.
func entry(t *testing.T, h api.Head, payload string) string {
	t.Helper()
	h.Size = len(payload)
	block, fault := header.Build(h)
	if fault != api.OK {
		t.Fatalf("a head that can't be built: %d", fault)
	}
	return block + padded(payload)
}

// records is an entry of the kind Local or Global.
func records(t *testing.T, kind byte, s ...string) string {
	t.Helper()
	payload, fault := record.Print(pairs(s...))
	if fault != api.OK {
		t.Fatalf("records that can't be printed: %d", fault)
	}
	return entry(t, api.Head{Name: "n", Kind: kind}, payload)
}

// plain takes no members and an empty list of them for one, and so no records.
func plain(l []api.Member) []api.Member {
	var all []api.Member
	for _, m := range l {
		if len(m.Extra) == 0 {
			m.Extra = nil
		}
		all = append(all, m)
	}
	return all
}

// ruleSame is Same, whatever fields members have.
func ruleSame(a, b api.Member) bool {
	return reflect.DeepEqual(plain([]api.Member{a}), plain([]api.Member{b}))
}

// ruleEncode is Encode by the chapter's words.
func ruleEncode(l []api.Member) (string, api.Errno) {
	if len(l) > mostMembers {
		return "", api.ErrFull
	}
	var s strings.Builder
	for _, m := range l {
		head, fault := writer.Head(m, len(m.Data))
		if fault != api.OK {
			return "", fault
		}
		s.WriteString(head + padded(m.Data))
	}
	return s.String() + nuls(1024), api.OK
}

// ruleDecode is Decode by the chapter's words, of all events at once.
func ruleDecode(s string, c reader.Caps) ([]api.Member, api.Errno, int) {
	r, fault := reader.New(c)
	if fault != api.OK {
		return nil, fault, 0
	}
	events, _ := r.Put([]byte(s))
	r.Finish()
	var l []api.Member
	isWhole := true
	for _, e := range events {
		if e.Kind == reader.Begin {
			l = append(l, e.Member)
			isWhole = false
		}
		if e.Kind == reader.Data {
			l[len(l)-1].Data += e.Bytes
		}
		if e.Kind == reader.Done {
			isWhole = true
		}
	}
	if !isWhole {
		l = l[:len(l)-1]
	}
	if len(l) > mostMembers {
		return nil, api.ErrCap, 0
	}
	fault, block := r.Fault()
	return l, fault, block
}

// checkDecode holds Decode against what is wanted, and the rule as well.
func checkDecode(t *testing.T, s string, c reader.Caps, want []api.Member, fault api.Errno, block int) {
	t.Helper()
	byRule, e, at := ruleDecode(s, c)
	if !reflect.DeepEqual(plain(byRule), plain(want)) || e != fault || at != block {
		t.Errorf("the rule itself: %d members, %d, %d; not %d, %d, %d", len(byRule), e, at, len(want), fault, block)
	}
	got, e, at := archive.Decode(s, c)
	if !reflect.DeepEqual(plain(got), plain(want)) || e != fault || at != block {
		t.Errorf("Decode of %d bytes: %s, %d, %d; not %s, %d, %d", len(s), brief(got), e, at, brief(want), fault, block)
	}
}

// checkEncode holds Encode against the rule and against the error that is wanted, and that it changes nothing.
func checkEncode(t *testing.T, l []api.Member, fault api.Errno) string {
	t.Helper()
	want, e := ruleEncode(l)
	if e != fault {
		t.Errorf("the rule itself: %d, not %d", e, fault)
	}
	handed, before := copied(l), copied(l)
	got, e := archive.Encode(handed)
	if got != want || e != fault {
		t.Errorf("Encode of %d members: %d bytes, %d; not %d, %d", len(l), len(got), e, len(want), fault)
	}
	if !reflect.DeepEqual(handed, before) {
		t.Error("what was handed in is changed")
	}
	return got
}

// copied shares no memory with the list, and has room behind each list.
func copied(l []api.Member) []api.Member {
	all := make([]api.Member, 0, len(l)+3)
	for _, m := range l {
		m.Extra = append(make([]api.Pair, 0, len(m.Extra)+3), m.Extra...)
		all = append(all, m)
	}
	return all
}

// asFiles takes the members of no kind for files.
func asFiles(l []api.Member) []api.Member {
	all := copied(l)
	for at := range all {
		if all[at].Kind == 0 {
			all[at].Kind = api.File
		}
	}
	return all
}

// checkBack encodes a list, and decodes it as it was.
func checkBack(t *testing.T, l []api.Member) {
	t.Helper()
	checkDecode(t, checkEncode(t, l, api.OK), wide(), asFiles(l), api.OK, 0)
}

// checkAnew decodes an archive, encodes its members, and decodes them the same.
func checkAnew(t *testing.T, s string) {
	t.Helper()
	l, fault, block := archive.Decode(s, wide())
	if fault != api.OK {
		t.Errorf("no archive: %d at block %d", fault, block)
	}
	checkDecode(t, s, wide(), l, api.OK, 0)
	checkBack(t, l)
}
