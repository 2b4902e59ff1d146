package span_test

import (
	"bytes"
	"math"
	"math/rand"
	"strings"
	"testing"

	"boulter/api"
	"boulter/span"
)

func nuls(n int) string { return strings.Repeat("\x00", n) }

func many(n int) string { return strings.Repeat("v", n) }

// everyByte is each byte once, from 0 on.
func everyByte() string {
	var s []byte
	for b := range 256 {
		s = append(s, byte(b))
	}
	return string(s)
}

// ruleSize goes on by whole blocks, till they hold n bytes: from far below n, so that it ends soon.
func ruleSize(n int) (blocks, padding int, fault api.Errno) {
	if n < 0 || n > 1<<40 {
		return 0, 0, api.ErrRange
	}
	blocks = max(0, n>>9-2)
	for blocks*512 < n {
		blocks++
	}
	return blocks, blocks*512 - n, api.OK
}

// rulePad puts byte behind byte, till the blocks are whole.
func rulePad(s string) string {
	l := []byte(s)
	for len(l)%512 != 0 {
		l = append(l, 0)
	}
	return string(l)
}

// ruleUnpad is Unpad by the chapter's words.
func ruleUnpad(s string, n int) (string, api.Errno) {
	blocks, _, fault := ruleSize(n)
	if fault != api.OK {
		return "", fault
	}
	if len(s) < blocks*512 {
		return "", api.ErrShort
	}
	if len(s) > blocks*512 {
		return "", api.ErrForm
	}
	for at := n; at < len(s); at++ {
		if s[at] != 0 {
			return "", api.ErrForm
		}
	}
	return s[:n], api.OK
}

func checkSize(t *testing.T, n, blocks, padding int, fault api.Errno) {
	t.Helper()
	if got, e := span.Blocks(n); got != blocks || e != fault {
		t.Errorf("Blocks(%d): %d, %d; not %d, %d", n, got, e, blocks, fault)
	}
	if got, e := span.Padding(n); got != padding || e != fault {
		t.Errorf("Padding(%d): %d, %d; not %d, %d", n, got, e, padding, fault)
	}
}

func checkUnpad(t *testing.T, s string, n int, want string, fault api.Errno) {
	t.Helper()
	if got, e := span.Unpad(s, n); got != want || e != fault {
		t.Errorf("Unpad of %d bytes, %d: %d bytes, %d; not %d bytes, %d", len(s), n, len(got), e, len(want), fault)
	}
}

// P9.1: sizes that may be: no byte, just whole blocks, one byte more or less, and the greatest.
func TestSizes(t *testing.T) {
	for _, x := range []struct{ n, blocks, padding int }{
		{0, 0, 0},
		{1, 1, 511},
		{2, 1, 510},
		{511, 1, 1},
		{512, 1, 0},
		{513, 2, 511},
		{1023, 2, 1},
		{1024, 2, 0},
		{1025, 3, 511},
		{1<<31 - 1, 1 << 22, 1},
		{1 << 31, 1 << 22, 0},
		{1<<32 + 1, 1<<23 + 1, 511},
		{1<<40 - 513, 1<<31 - 1, 1},
		{1<<40 - 512, 1<<31 - 1, 0},
		{1<<40 - 511, 1 << 31, 511},
		{1<<40 - 1, 1 << 31, 1},
		{1 << 40, 1 << 31, 0},
	} {
		checkSize(t, x.n, x.blocks, x.padding, api.OK)
	}
}

// P9.1: sizes that may not be, also those by which a sum would run over, with zero values beside the error.
func TestSizesBeyond(t *testing.T) {
	for _, n := range []int{
		-1, -2, -511, -512, -513, -1 << 40, math.MinInt, math.MinInt + 1, math.MinInt + 511, math.MinInt32,
		1<<40 + 1, 1<<40 + 511, 1<<40 + 512, 1 << 41, 1 << 53, math.MaxInt, math.MaxInt - 1, math.MaxInt - 510, math.MaxInt - 511,
	} {
		checkSize(t, n, 0, 0, api.ErrRange)
		checkUnpad(t, "", n, "", api.ErrRange)
		checkUnpad(t, nuls(512), n, "", api.ErrRange)
	}
}

// P9.1: sizes of every kind, against the chapter's words.
func TestSizesByRule(t *testing.T) {
	for n := -3; n < 5000; n++ {
		blocks, padding, fault := ruleSize(n)
		checkSize(t, n, blocks, padding, fault)
	}
	r := rand.New(rand.NewSource(9))
	right, wrong := 0, 0
	for range 20000 {
		n := int(r.Uint64()) >> r.Intn(60)
		blocks, padding, fault := ruleSize(n)
		checkSize(t, n, blocks, padding, fault)
		if fault == api.OK {
			right++
		} else {
			wrong++
		}
	}
	if right < 5000 || wrong < 5000 {
		t.Error("too few of a kind", right, wrong)
	}
}

// P9.1: Pad puts NULs behind the payload, just as many as Padding tells, and nothing else.
func TestPad(t *testing.T) {
	for _, s := range []string{
		"", "a", "\x00", "ab\x00", nuls(511), nuls(512), nuls(513),
		many(510), many(511), many(512), many(513), many(1023), many(1024), many(1025), many(70000),
		everyByte(), everyByte() + everyByte(), everyByte() + everyByte() + "\xff",
	} {
		got := span.Pad(s)
		if got != rulePad(s) {
			t.Errorf("Pad of %d bytes: %d bytes", len(s), len(got))
		}
		blocks, _ := span.Blocks(len(s))
		padding, _ := span.Padding(len(s))
		if len(got) != blocks*512 || len(got) != len(s)+padding {
			t.Errorf("Pad of %d bytes: %d blocks, %d bytes of padding, but %d bytes", len(s), blocks, padding, len(got))
		}
	}
}

// P9.1: Unpad tells the payload of whole blocks.
func TestUnpad(t *testing.T) {
	checkUnpad(t, "", 0, "", api.OK)
	checkUnpad(t, "a"+nuls(511), 1, "a", api.OK)
	checkUnpad(t, nuls(512), 1, "\x00", api.OK)
	checkUnpad(t, nuls(512), 512, nuls(512), api.OK)
	checkUnpad(t, nuls(512), 300, nuls(300), api.OK)
	checkUnpad(t, many(511)+nuls(1), 511, many(511), api.OK)
	checkUnpad(t, many(512), 512, many(512), api.OK)
	checkUnpad(t, many(513)+nuls(511), 513, many(513), api.OK)
	checkUnpad(t, everyByte()+nuls(256), 256, everyByte(), api.OK)
	checkUnpad(t, everyByte()+everyByte()+many(512), 1024, everyByte()+everyByte()+many(512), api.OK)
	// What ends with NULs may be of more bytes than one.
	checkUnpad(t, "a"+nuls(511), 2, "a\x00", api.OK)
	checkUnpad(t, "a"+nuls(511), 512, "a"+nuls(511), api.OK)
}

// P9.1: Unpad of too few bytes, whatever they are.
func TestUnpadShort(t *testing.T) {
	for _, x := range []struct {
		s string
		n int
	}{
		{"", 1}, {"", 512}, {"", 1 << 40}, {"a", 1}, {"ab", 1}, {many(511), 1}, {many(511), 511}, {many(511), 512}, {nuls(511), 1},
		{many(512), 513}, {nuls(512), 513}, {many(1023), 513}, {many(1023), 1024}, {many(1024), 1025}, {nuls(4096), 1 << 40}, {many(512), 1<<40 - 1},
	} {
		checkUnpad(t, x.s, x.n, "", api.ErrShort)
	}
}

// P9.1: Unpad of too many bytes, NULs or not.
func TestUnpadMore(t *testing.T) {
	for _, x := range []struct {
		s string
		n int
	}{
		{"a", 0}, {"\x00", 0}, {nuls(512), 0}, {many(512), 0},
		{"a" + nuls(512), 1}, {"a" + nuls(1023), 1}, {nuls(513), 1}, {nuls(1024), 1},
		{many(512) + "\x00", 512}, {many(512) + nuls(512), 512}, {many(513), 512}, {many(1024), 512},
	} {
		checkUnpad(t, x.s, x.n, "", api.ErrForm)
	}
}

// P9.1: Unpad of a padding with a byte that isn't NUL: the first, the last, each between, and each byte there is.
func TestUnpadForm(t *testing.T) {
	for at := 5; at < 512; at++ {
		s := []byte("abcde" + nuls(507))
		s[at] = 1
		checkUnpad(t, string(s), 5, "", api.ErrForm)
		// Where it is of the payload, it is none of the padding.
		checkUnpad(t, string(s), at+1, string(s[:at+1]), api.OK)
	}
	for b := range 256 {
		s := "a" + nuls(510) + string([]byte{byte(b)})
		if b == 0 {
			checkUnpad(t, s, 1, "a", api.OK)
			continue
		}
		checkUnpad(t, s, 1, "", api.ErrForm)
	}
	checkUnpad(t, many(512), 511, "", api.ErrForm)
	checkUnpad(t, many(1024), 513, "", api.ErrForm)
}

// P9.1: of several errors the first one of the chapter.
func TestUnpadOrder(t *testing.T) {
	// No such size, and no bytes, or too many, or a padding that isn't NULs.
	for _, s := range []string{"", "a", many(512), nuls(512), many(1025)} {
		checkUnpad(t, s, -1, "", api.ErrRange)
		checkUnpad(t, s, 1<<40+1, "", api.ErrRange)
	}
	// Too few, and a padding that isn't NULs.
	checkUnpad(t, many(511), 1, "", api.ErrShort)
	checkUnpad(t, many(1023), 513, "", api.ErrShort)
}

// P9.1: Unpad of bytes of every kind, against the chapter's words.
func TestUnpadByRule(t *testing.T) {
	r := rand.New(rand.NewSource(91))
	seen := map[api.Errno]int{}
	for range 20000 {
		n := r.Intn(1600) - 20
		s := rulePad(many(max(0, n)))[max(0, n):]
		s = many(max(0, n)) + s
		switch r.Intn(4) {
		case 0:
			s = s[:r.Intn(len(s)+1)]
		case 1:
			s += nuls(r.Intn(600))
		case 2:
			if l := []byte(s); len(l) > 0 {
				l[r.Intn(len(l))] = byte(r.Intn(3))
				s = string(l)
			}
		}
		want, fault := ruleUnpad(s, n)
		checkUnpad(t, s, n, want, fault)
		seen[fault]++
	}
	for _, fault := range []api.Errno{api.OK, api.ErrRange, api.ErrShort, api.ErrForm} {
		if seen[fault] < 200 {
			t.Error("too few of a kind", fault, seen[fault])
		}
	}
}

// P9.1: the end is 1024 NULs, at each call.
func TestEnd(t *testing.T) {
	for range 3 {
		if got := span.End(); got != nuls(1024) {
			t.Errorf("%d bytes: %q", len(got), got)
		}
	}
}

// P9.1: the block of each place, also of those below 0, and of the greatest there is.
func TestIndex(t *testing.T) {
	for _, x := range []struct{ at, block int }{
		{0, 0}, {1, 0}, {511, 0}, {512, 1}, {513, 1}, {1023, 1}, {1024, 2}, {1025, 2},
		{1 << 31, 1 << 22}, {1<<40 - 1, 1<<31 - 1}, {1 << 40, 1 << 31}, {1<<40 + 511, 1 << 31}, {1<<40 + 512, 1<<31 + 1},
		{math.MaxInt, 1<<54 - 1}, {math.MaxInt - 511, 1<<54 - 1}, {math.MaxInt - 512, 1<<54 - 2},
		{-1, 0}, {-511, 0}, {-512, 0}, {-513, 0}, {-1024, 0}, {math.MinInt, 0}, {math.MinInt + 1, 0},
	} {
		if got := span.Index(x.at); got != x.block {
			t.Errorf("Index(%d): %d, not %d", x.at, got, x.block)
		}
	}
	for at := range 5000 {
		block := span.Index(at)
		if at < block*512 || at >= (block+1)*512 {
			t.Errorf("Index(%d): %d", at, block)
		}
	}
}

// P9.2: Unpad of Pad is the payload.
func TestUnpadOfPad(t *testing.T) {
	check := func(s string) {
		t.Helper()
		checkUnpad(t, span.Pad(s), len(s), s, api.OK)
	}
	for n := range 1600 {
		check(many(n))
		check(nuls(n))
	}
	check(many(1 << 20))
	check(many(1<<20 + 1))
	r := rand.New(rand.NewSource(92))
	for range 3000 {
		s := make([]byte, r.Intn(2000))
		r.Read(s)
		check(string(s))
		check(string(s) + nuls(r.Intn(600)))
	}
}

// P9.2: the padding stands behind the payload, so that parts that are padded one by one are found one by one.
func TestPadsInARow(t *testing.T) {
	var all bytes.Buffer
	parts := []string{"", "a", many(511), many(512), many(513), "", everyByte(), nuls(3)}
	for _, s := range parts {
		all.WriteString(span.Pad(s))
	}
	rest := all.String()
	for _, s := range parts {
		blocks, _ := span.Blocks(len(s))
		checkUnpad(t, rest[:blocks*512], len(s), s, api.OK)
		rest = rest[blocks*512:]
	}
	if rest != "" {
		t.Errorf("%d bytes are left", len(rest))
	}
}
