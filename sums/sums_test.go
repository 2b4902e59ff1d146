package sums_test

import (
	"math/rand"
	"strconv"
	"strings"
	"testing"

	"boulter/api"
	"boulter/sums"
)

const nul = "\x00"

func nuls(n int) string { return strings.Repeat(nul, n) }

// with is a block with some bytes put over it.
func with(block string, at int, bytes string) string {
	return block[:at] + bytes + block[at+len(bytes):]
}

// withField is a block with another field for its sum.
func withField(block, field string) string { return with(block, 148, field) }

// inOctal is a number in octal, with noughts ahead.
func inOctal(v, digits int) string {
	s := strconv.FormatInt(int64(v), 8)
	return strings.Repeat("0", max(digits-len(s), 0)) + s
}

// blocks are of all bytes alike, of bytes in their order, of some texts, and of bytes by a fixed seed.
func blocks() []string {
	var l []string
	for b := range 256 {
		l = append(l, strings.Repeat(string([]byte{byte(b)}), api.Block))
	}
	var rising, falling [api.Block]byte
	for at := range rising {
		rising[at], falling[at] = byte(at), byte(255-at)
	}
	l = append(l, string(rising[:]), string(falling[:]))
	l = append(l, with(with(nuls(512), 0, "d/a"), 100, "0000644\x00"))
	l = append(l, with(with(nuls(512), 0, "\xc3\xa4"), 257, "ustar\x0000"))
	source := rand.New(rand.NewSource(3))
	for range 100 {
		var some [api.Block]byte
		source.Read(some[:])
		l = append(l, string(some[:]))
	}
	return l
}

// wrongs are texts that aren't blocks, some of them a block but for a byte, or for many.
func wrongs() []string {
	var l []string
	for _, n := range []int{0, 1, 2, 8, 12, 147, 148, 149, 155, 156, 157, 256, 510, 511, 513, 514, 1023, 1024, 1536, 65536} {
		l = append(l, nuls(n), strings.Repeat("a", n), strings.Repeat("\xff", n), strings.Repeat(" ", n))
	}
	for _, block := range blocks() {
		sealed := ruleSeal(block)
		l = append(l, sealed[:511], sealed[1:], sealed+nul, nul+sealed, sealed+sealed)
	}
	return l
}

// ruleSum is Sum by the chapter's words, ruleSigned is Signed.
func ruleSum(block string) int    { return ruleAll(block, 0) }
func ruleSigned(block string) int { return ruleAll(block, 256) }

func ruleAll(block string, less int) int {
	all := 0
	for at := 0; at < 512; at++ {
		b := int(block[at])
		if at >= 148 && at <= 155 {
			b = 0x20
		}
		if b >= 0x80 {
			b -= less
		}
		all += b
	}
	return all
}

func ruleSeal(block string) string {
	return withField(block, inOctal(ruleSum(block), 6)+"\x00 ")
}

func checkSums(t *testing.T, block string, sum, signed int) {
	t.Helper()
	if v, e := sums.Sum(block); v != sum || e != api.OK {
		t.Errorf("Sum(%q): %d, %d; want %d", block, v, e, sum)
	}
	if v, e := sums.Signed(block); v != signed || e != api.OK {
		t.Errorf("Signed(%q): %d, %d; want %d", block, v, e, signed)
	}
}

func checkRight(t *testing.T, block string, right bool) {
	t.Helper()
	if k := sums.Right(block); k != right {
		t.Errorf("Right(%q): %v; want %v (sums %d, %d)", block, k, right, ruleSum(block), ruleSigned(block))
	}
}

func checkSeal(t *testing.T, block, sealed string) {
	t.Helper()
	if s, e := sums.Seal(block); s != sealed || e != api.OK {
		t.Errorf("Seal(%q): %q, %d; want %q", block, s, e, sealed)
	}
}

// P3.1: the chapter's example, the greatest and the least sums, and where bytes count as blanks, or less 256.
func TestSums(t *testing.T) {
	empty := nuls(512)
	checkSums(t, empty, 256, 256)
	checkSums(t, strings.Repeat("\xff", 512), 128776, -248)
	checkSums(t, strings.Repeat("\x80", 512), 504*128+256, -504*128+256)
	checkSums(t, strings.Repeat("\x7f", 512), 504*127+256, 504*127+256)
	checkSums(t, strings.Repeat(" ", 512), 16384, 16384)
	checkSums(t, with(empty, 0, "a"), 256+97, 256+97)
	checkSums(t, with(empty, 511, "a"), 256+97, 256+97)
	checkSums(t, with(empty, 147, "a"), 256+97, 256+97)
	checkSums(t, with(empty, 148, "a"), 256, 256)
	checkSums(t, with(empty, 155, "a"), 256, 256)
	checkSums(t, with(empty, 156, "a"), 256+97, 256+97)
	checkSums(t, with(empty, 147, "\xff"), 256+255, 256-1)
	checkSums(t, with(empty, 148, strings.Repeat("\xff", 8)), 256, 256)
	checkSums(t, with(empty, 156, "\x80"), 256+128, 256-128)
	checkSums(t, with(empty, 300, "\x7f"), 256+127, 256+127)
}

// P3.1: each byte at each place, and blocks of all kinds.
func TestSumsByRule(t *testing.T) {
	for at := range 512 {
		for _, b := range []byte{0, 1, ' ', '0', 0x7e, 0x7f, 0x80, 0x81, 0xfe, 0xff} {
			block := with(nuls(512), at, string([]byte{b}))
			checkSums(t, block, ruleSum(block), ruleSigned(block))
		}
	}
	for b := range 256 {
		for _, at := range []int{0, 147, 148, 150, 155, 156, 511} {
			block := with(strings.Repeat("\x01", 512), at, string([]byte{byte(b)}))
			checkSums(t, block, ruleSum(block), ruleSigned(block))
		}
	}
	for _, block := range blocks() {
		checkSums(t, block, ruleSum(block), ruleSigned(block))
	}
}

// P3.1: what hasn't 512 bytes; nothing stands beside the error.
func TestWrongs(t *testing.T) {
	for _, s := range wrongs() {
		if v, e := sums.Sum(s); v != 0 || e != api.ErrArg {
			t.Errorf("Sum(%q): %d, %d", s, v, e)
		}
		if v, e := sums.Signed(s); v != 0 || e != api.ErrArg {
			t.Errorf("Signed(%q): %d, %d", s, v, e)
		}
		if sums.Right(s) {
			t.Errorf("Right(%q)", s)
		}
		if sealed, e := sums.Seal(s); sealed != "" || e != api.ErrArg {
			t.Errorf("Seal(%q): %q, %d", s, sealed, e)
		}
		if sums.Blank(s) {
			t.Errorf("Blank(%q)", s)
		}
	}
}

// P3.1: all ways in which a field tells a number in octal.
func TestRightFields(t *testing.T) {
	for _, block := range blocks() {
		for _, sum := range []int{ruleSum(block), ruleSigned(block)} {
			if sum < 0 {
				continue
			}
			digits := inOctal(sum, 0)
			noughts := inOctal(sum, 6)
			for _, field := range []string{
				noughts + "\x00 ",
				noughts + " \x00",
				noughts + "\x00\x00",
				noughts + "  ",
				" " + noughts + nul,
				" " + noughts + " ",
				"  " + noughts,
				inOctal(sum, 7) + nul,
				inOctal(sum, 7) + " ",
				inOctal(sum, 8),
				strings.Repeat(" ", 8-len(digits)) + digits,
				digits + nuls(8-len(digits)),
				(" " + digits + " \x00 \x00 \x00")[:8],
			} {
				checkRight(t, withField(block, field), true)
			}
		}
	}
}

// P3.1: numbers that are neither sum.
func TestRightOtherNumbers(t *testing.T) {
	for _, block := range blocks() {
		sum, signed := ruleSum(block), ruleSigned(block)
		for _, other := range []int{0, 1, 256, sum - 1, sum + 1, sum + 256, sum - 256, sum + 512, sum * 8, signed - 1, signed + 1, -signed, (sum + signed) / 2, sum + 32768, sum + 65536, sum + 1<<18} {
			if other < 0 {
				continue
			}
			checkRight(t, withField(block, inOctal(other, 7)+nul), other == sum || other == signed)
		}
	}
	checkRight(t, withField(nuls(512), "0000256\x00"), false)
	// A sum whose bytes of the field aren't blanks is another one.
	block := with(nuls(512), 0, "ab")
	checkRight(t, withField(block, "000303\x00 "), false)
	checkRight(t, withField(block, "000703\x00 "), true)
}

// P3.1: a field that tells the sum, but not in octal, and fields of no form.
func TestRightWrongFields(t *testing.T) {
	for _, block := range blocks() {
		sum, signed := ruleSum(block), ruleSigned(block)
		for _, v := range []int{sum, signed} {
			bytes := []byte{0x80, 0, 0, 0, 0, byte(v >> 16), byte(v >> 8), byte(v)}
			checkRight(t, withField(block, string(bytes)), false)
			checkRight(t, withField(block, "\xff\xff\xff\xff\xff"+string(bytes[5:])), false)
		}
		checkRight(t, withField(block, strings.Repeat("\xff", 8)), false)
		checkRight(t, withField(block, "\x80"+strings.Repeat("\xff", 7)), false)
		digits := inOctal(sum, 6)
		for _, field := range []string{
			digits + " x", digits + "\x000", digits + " 0", digits + "\x008", digits + "8\x00", nul + digits + " ", nul + digits + nul,
			"-" + digits + nul, "+" + digits + nul, "0o" + digits, "\x81" + digits + nul, "\x7f" + digits + nul, digits + "\n\x00",
			" " + nul + digits, digits + "\x80\x00", digits + "\x00\xff", "\t" + digits + nul, digits + "a ",
		} {
			checkRight(t, withField(block, field), false)
		}
	}
}

// P3.1: a signed sum of 0 is told by a field without digits, too; one below 0 by none.
func TestRightSignedNought(t *testing.T) {
	block := with(nuls(512), 0, strings.Repeat("\xff", 140)+nuls(16)+strings.Repeat("\xff", 116))
	checkSums(t, block, 256+256*255, 0)
	for _, field := range []string{nuls(8), strings.Repeat(" ", 8), " \x00 \x00 \x00 \x00", "0       ", "00000000", "000000\x00 ", "0200000\x00"} {
		checkRight(t, withField(block, field), true)
	}
	checkRight(t, withField(block, "0000001\x00"), false)
	checkRight(t, withField(block, "0100000\x00"), false)
	below := with(block, 511, "\xff")
	checkSums(t, below, 256+257*255, -1)
	for _, field := range []string{nuls(8), strings.Repeat(" ", 8), strings.Repeat("\xff", 8), "-1\x00\x00\x00\x00\x00\x00", "0000001\x00", "77777777"} {
		checkRight(t, withField(below, field), false)
	}
	checkRight(t, withField(below, inOctal(256+257*255, 6)+"\x00 "), true)
}

// P3.1: how a sealed block's field stands, and that nothing else is changed.
func TestSeal(t *testing.T) {
	empty := nuls(512)
	checkSeal(t, empty, withField(empty, "000400\x00 "))
	checkSeal(t, with(empty, 0, "a"), withField(with(empty, 0, "a"), "000541\x00 "))
	full := strings.Repeat("\xff", 512)
	checkSeal(t, full, withField(full, "373410\x00 "))
	blank := strings.Repeat(" ", 512)
	checkSeal(t, blank, withField(blank, "040000\x00 "))
	checkSeal(t, withField(empty, "garbage!"), withField(empty, "000400\x00 "))
	for _, block := range blocks() {
		checkSeal(t, block, ruleSeal(block))
	}
}

// P3.1: just 512 NULs are blank.
func TestBlank(t *testing.T) {
	if !sums.Blank(nuls(512)) {
		t.Error("512 NULs aren't blank")
	}
	for at := range 512 {
		for _, b := range []byte{1, ' ', '0', 0x80, 0xff} {
			if block := with(nuls(512), at, string([]byte{b})); sums.Blank(block) {
				t.Errorf("Blank(%q)", block)
			}
		}
	}
	for _, block := range blocks() {
		if sums.Blank(block) != (block == nuls(512)) {
			t.Errorf("Blank(%q)", block)
		}
	}
}

// P3.2: what is sealed is right, and stays, when it is sealed again.
func TestSealedIsRight(t *testing.T) {
	for _, block := range blocks() {
		sealed, e := sums.Seal(block)
		if e != api.OK {
			t.Errorf("Seal(%q): %d", block, e)
		}
		checkRight(t, sealed, true)
		checkSeal(t, sealed, sealed)
		if sums.Blank(sealed) {
			t.Errorf("Blank(%q)", sealed)
		}
		for _, at := range []int{0, 147, 156, 511} {
			other := with(sealed, at, string([]byte{sealed[at] ^ 1}))
			checkRight(t, other, false)
		}
	}
}

// P3.2: no block whose bytes all are NUL is right.
func TestBlankIsNotRight(t *testing.T) {
	checkRight(t, nuls(512), false)
	checkRight(t, withField(nuls(512), "0000000\x00"), false)
	checkRight(t, withField(nuls(512), strings.Repeat(" ", 8)), false)
	checkRight(t, withField(nuls(512), "0000400\x00"), true)
}

// P3.1: each call's answer hangs on its argument alone, and stays as it was, whatever is asked behind it.
func TestNothingIsKept(t *testing.T) {
	type told struct{ block, copied, sealed, cloned string }
	var all []told
	for round := range 3 {
		for _, block := range blocks() {
			copied := strings.Clone(block)
			sealed, _ := sums.Seal(block)
			all = append(all, told{block, copied, sealed, strings.Clone(sealed)})
			sums.Seal(block[:511])
			checkSums(t, block, ruleSum(block), ruleSigned(block))
			sums.Right(nuls(512))
			checkSeal(t, block, ruleSeal(block))
			checkRight(t, sealed, true)
		}
		if t.Failed() {
			t.Fatalf("in round %d", round)
		}
	}
	for _, x := range all {
		if x.block != x.copied || x.sealed != x.cloned {
			t.Fatalf("%q became %q, %q became %q", x.copied, x.block, x.cloned, x.sealed)
		}
	}
}
