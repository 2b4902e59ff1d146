package feed_test

import (
	"bytes"
	"math"
	"math/rand"
	"runtime"
	"strconv"
	"strings"
	"testing"

	"boulter/api"
	"boulter/feed"
)

func many(n int) string { return strings.Repeat("v", n) }

// everyByte is each byte once, from 0 on.
func everyByte() string {
	var s []byte
	for b := range 256 {
		s = append(s, byte(b))
	}
	return string(s)
}

// rule is a feed by the chapter's words: what is left of the chunks that wait.
type rule struct {
	chunks []string
	closed bool
}

func (r *rule) put(chunk string) api.Errno {
	if len(chunk) > 65536 {
		return api.ErrLong
	}
	if r.closed {
		return api.ErrState
	}
	if len(r.chunks) == 64 && chunk != "" {
		return api.ErrFull
	}
	if chunk != "" {
		r.chunks = append(r.chunks, chunk)
	}
	return api.OK
}

func (r *rule) close() api.Errno {
	if r.closed {
		return api.ErrState
	}
	r.closed = true
	return api.OK
}

func (r *rule) size() int { return len(strings.Join(r.chunks, "")) }

// some takes byte by byte.
func (r *rule) some(most int) string {
	var s []byte
	for len(s) < most && len(r.chunks) > 0 {
		s = append(s, r.chunks[0][0])
		r.chunks[0] = r.chunks[0][1:]
		if r.chunks[0] == "" {
			r.chunks = r.chunks[1:]
		}
	}
	return string(s)
}

func (r *rule) take(n int) (string, bool) {
	if n < 0 || n > r.size() {
		return "", false
	}
	return r.some(n), true
}

func checkPut(t *testing.T, f *feed.Feed, chunk string, want api.Errno) {
	t.Helper()
	if got := f.Put([]byte(chunk)); got != want {
		t.Errorf("Put of %d bytes: %d, not %d", len(chunk), got, want)
	}
}

func checkClose(t *testing.T, f *feed.Feed, want api.Errno) {
	t.Helper()
	if got := f.Close(); got != want {
		t.Errorf("Close: %d, not %d", got, want)
	}
}

func checkTake(t *testing.T, f *feed.Feed, n int, want string, ok bool) {
	t.Helper()
	if got, is := f.Take(n); got != want || is != ok {
		t.Errorf("Take(%d): %d bytes, %t; not %d bytes, %t", n, len(got), is, len(want), ok)
	}
}

func checkSome(t *testing.T, f *feed.Feed, most int, want string) {
	t.Helper()
	if got := f.Some(most); got != want {
		t.Errorf("Some(%d): %d bytes, not %d", most, len(got), len(want))
	}
}

// checkWaits holds what a feed tells of itself against what it should.
func checkWaits(t *testing.T, f *feed.Feed, chunks, size int, closed bool) {
	t.Helper()
	if f.Chunks() != chunks || f.Len() != size || f.Closed() != closed {
		t.Errorf("%d chunks, %d bytes, %t; not %d, %d, %t", f.Chunks(), f.Len(), f.Closed(), chunks, size, closed)
	}
}

// of is a feed on which these chunks were put.
func of(t *testing.T, chunks ...string) *feed.Feed {
	t.Helper()
	f := feed.New()
	for _, chunk := range chunks {
		checkPut(t, f, chunk, api.OK)
	}
	return f
}

// full is a feed on which as many chunks wait as may, of two bytes each: "00" to "63".
func full(t *testing.T) *feed.Feed {
	t.Helper()
	f := feed.New()
	for n := range 64 {
		checkPut(t, f, two(n), api.OK)
	}
	return f
}

func two(n int) string { return strconv.Itoa(n/10) + strconv.Itoa(n%10) }

func allOfFull() string {
	s := ""
	for n := range 64 {
		s += two(n)
	}
	return s
}

// P8.1: a feed at the beginning has nothing, and isn't closed.
func TestNew(t *testing.T) {
	f := feed.New()
	checkWaits(t, f, 0, 0, false)
	checkTake(t, f, 0, "", true)
	checkTake(t, f, 1, "", false)
	checkTake(t, f, -1, "", false)
	checkSome(t, f, 9, "")
	checkWaits(t, f, 0, 0, false)
}

// P8.1: the chapter's example.
func TestExample(t *testing.T) {
	f := of(t, "ab", "c")
	checkWaits(t, f, 2, 3, false)
	checkTake(t, f, 2, "ab", true)
	checkWaits(t, f, 1, 1, false)
	checkTake(t, f, 2, "", false)
	checkWaits(t, f, 1, 1, false)
	checkSome(t, f, 9, "c")
	checkWaits(t, f, 0, 0, false)
}

// P8.1: an empty chunk doesn't wait: on a feed with nothing, behind chunks, between them, nor on a full one.
func TestEmptyChunks(t *testing.T) {
	f := feed.New()
	if e := f.Put(nil); e != api.OK {
		t.Error(e)
	}
	checkPut(t, f, "", api.OK)
	checkWaits(t, f, 0, 0, false)
	checkPut(t, f, "a", api.OK)
	for range 100 {
		checkPut(t, f, "", api.OK)
	}
	checkPut(t, f, "b", api.OK)
	checkWaits(t, f, 2, 2, false)
	checkTake(t, f, 2, "ab", true)

	f = full(t)
	checkPut(t, f, "", api.OK)
	checkWaits(t, f, 64, 128, false)
	checkClose(t, f, api.OK)
	checkPut(t, f, "", api.ErrState)
}

// P8.1: a chunk of just as many bytes as it may have, and of one more.
func TestLongChunks(t *testing.T) {
	f := feed.New()
	checkPut(t, f, many(65537), api.ErrLong)
	checkWaits(t, f, 0, 0, false)
	checkPut(t, f, many(65535), api.OK)
	checkPut(t, f, many(65536), api.OK)
	checkPut(t, f, many(65537), api.ErrLong)
	checkPut(t, f, many(1<<20), api.ErrLong)
	checkWaits(t, f, 2, 131071, false)
	checkSome(t, f, math.MaxInt, many(131071))
}

// P8.1: just as many chunks wait as may, and one more doesn't.
func TestFull(t *testing.T) {
	f := feed.New()
	for n := range 64 {
		checkWaits(t, f, n, 2*n, false)
		checkPut(t, f, two(n), api.OK)
	}
	for range 3 {
		checkPut(t, f, "x", api.ErrFull)
		checkWaits(t, f, 64, 128, false)
	}
	checkSome(t, f, 999, allOfFull())
	checkWaits(t, f, 0, 0, false)
	checkPut(t, f, "x", api.OK)
}

// P8.1: there is room again where one was taken as a whole, and none where some bytes are left of it.
func TestRoomAgain(t *testing.T) {
	f := full(t)
	checkTake(t, f, 1, "0", true)
	checkWaits(t, f, 64, 127, false)
	checkPut(t, f, "x", api.ErrFull)
	checkTake(t, f, 1, "0", true)
	checkWaits(t, f, 63, 126, false)
	checkPut(t, f, "x", api.OK)
	checkPut(t, f, "y", api.ErrFull)
	checkWaits(t, f, 64, 127, false)
	// Two chunks and a half.
	checkSome(t, f, 5, "01020")
	checkWaits(t, f, 62, 122, false)
	checkPut(t, f, "y", api.OK)
	checkPut(t, f, "z", api.OK)
	checkPut(t, f, "!", api.ErrFull)
	checkSome(t, f, 999, allOfFull()[7:]+"xyz")
	// As many as ever, once nothing waits.
	for range 64 {
		checkPut(t, f, "a", api.OK)
	}
	checkPut(t, f, "a", api.ErrFull)
}

// P8.1: a feed that was full many times goes on.
func TestRoundAndRound(t *testing.T) {
	f := full(t)
	for n := range 1000 {
		checkTake(t, f, 2, two(n%64), true)
		checkPut(t, f, two(n%64), api.OK)
		checkPut(t, f, "x", api.ErrFull)
	}
	checkWaits(t, f, 64, 128, false)
}

// P8.1: a chunk of which some bytes were taken counts till none are left.
func TestPartOfAChunk(t *testing.T) {
	f := of(t, "abc", "de")
	checkTake(t, f, 1, "a", true)
	checkWaits(t, f, 2, 4, false)
	checkSome(t, f, 1, "b")
	checkWaits(t, f, 2, 3, false)
	checkPut(t, f, "f", api.OK)
	checkWaits(t, f, 3, 4, false)
	checkTake(t, f, 2, "cd", true)
	checkWaits(t, f, 2, 2, false)
	checkTake(t, f, 1, "e", true)
	checkWaits(t, f, 1, 1, false)
	checkTake(t, f, 1, "f", true)
	checkWaits(t, f, 0, 0, false)
}

// P8.1: Take of counts below 0, of 0, of just as many as wait, and of one more.
func TestTake(t *testing.T) {
	for _, n := range []int{-1, -2, -3, math.MinInt, math.MinInt + 1, math.MinInt32, 4, 5, 65536, math.MaxInt32, math.MaxInt - 1, math.MaxInt} {
		f := of(t, "ab", "c")
		checkTake(t, f, n, "", false)
		checkWaits(t, f, 2, 3, false)
		checkTake(t, f, 3, "abc", true)
	}
	for n, want := range []string{"", "a", "ab", "abc"} {
		f := of(t, "ab", "c")
		checkTake(t, f, n, want, true)
		checkTake(t, f, 4-n, "", false)
		checkTake(t, f, 3-n, "abc"[n:], true)
		checkTake(t, f, 0, "", true)
		checkTake(t, f, 1, "", false)
	}
}

// P8.1: Some of counts below 1, of less than wait, of just as many, and of more.
func TestSome(t *testing.T) {
	for _, most := range []int{0, -1, -2, -3, math.MinInt, math.MinInt + 1} {
		f := of(t, "ab", "c")
		checkSome(t, f, most, "")
		checkWaits(t, f, 2, 3, false)
		checkSome(t, f, 3, "abc")
	}
	for most, want := range []string{"", "a", "ab", "abc", "abc", "abc"} {
		f := of(t, "ab", "c")
		checkSome(t, f, most, want)
		checkWaits(t, f, []int{2, 2, 1, 0, 0, 0}[most], 3-len(want), false)
		checkSome(t, f, math.MaxInt, "abc"[len(want):])
		checkSome(t, f, 1, "")
	}
}

// P8.1: closed is closed: nothing can be put then, nor can it be closed anew, but what waits is taken.
func TestClose(t *testing.T) {
	f := of(t, "ab", "c")
	checkClose(t, f, api.OK)
	for range 3 {
		checkWaits(t, f, 2, 3, true)
		checkClose(t, f, api.ErrState)
		checkPut(t, f, "d", api.ErrState)
		checkPut(t, f, "", api.ErrState)
	}
	checkTake(t, f, 4, "", false)
	checkTake(t, f, 1, "a", true)
	checkWaits(t, f, 2, 2, true)
	checkSome(t, f, 9, "bc")
	checkWaits(t, f, 0, 0, true)
	checkTake(t, f, 0, "", true)
	checkTake(t, f, 1, "", false)
	checkSome(t, f, 1, "")
	checkPut(t, f, "d", api.ErrState)
	checkClose(t, f, api.ErrState)

	f = feed.New()
	checkClose(t, f, api.OK)
	checkWaits(t, f, 0, 0, true)
	checkClose(t, f, api.ErrState)
	checkPut(t, f, "a", api.ErrState)
	checkSome(t, f, 1, "")
	checkWaits(t, f, 0, 0, true)
}

// P8.1: of several errors the first one of the chapter.
func TestOrder(t *testing.T) {
	f := full(t)
	checkPut(t, f, many(65537), api.ErrLong) // and it's full
	checkPut(t, f, many(65536), api.ErrFull)
	checkClose(t, f, api.OK)
	checkPut(t, f, many(65537), api.ErrLong) // and it's closed
	checkPut(t, f, many(65536), api.ErrState)
	checkPut(t, f, "a", api.ErrState)
	checkSome(t, f, 999, allOfFull())
}

// P8.1: what is refused changes nothing.
func TestRefused(t *testing.T) {
	f := full(t)
	checkTake(t, f, 1, "0", true)
	for range 3 {
		checkPut(t, f, many(65537), api.ErrLong)
		checkPut(t, f, "x", api.ErrFull)
		checkTake(t, f, 128, "", false)
		checkTake(t, f, -1, "", false)
		checkSome(t, f, -1, "")
		checkWaits(t, f, 64, 127, false)
	}
	checkClose(t, f, api.OK)
	checkClose(t, f, api.ErrState)
	checkPut(t, f, "x", api.ErrState)
	checkWaits(t, f, 64, 127, true)
	checkTake(t, f, 127, allOfFull()[1:], true)
}

// P8.1: feeds have nothing of one another.
func TestTwoFeeds(t *testing.T) {
	a, b := of(t, "ab"), of(t, "cde", "f")
	checkClose(t, b, api.OK)
	checkWaits(t, a, 1, 2, false)
	checkWaits(t, b, 2, 4, true)
	checkPut(t, a, "x", api.OK)
	checkSome(t, b, 9, "cdef")
	checkSome(t, a, 9, "abx")
}

// P8.1: a chunk isn't changed, its spare room neither, whatever is done behind Put.
func TestChunkStays(t *testing.T) {
	room := []byte("abcdefgh")
	f := feed.New()
	if e := f.Put(room[2:5]); e != api.OK {
		t.Error(e)
	}
	checkPut(t, f, "xyz", api.OK)
	checkSome(t, f, 2, "cd")
	checkPut(t, f, "123", api.OK)
	checkSome(t, f, 9, "exyz123")
	if !bytes.Equal(room, []byte("abcdefgh")) {
		t.Errorf("%q", room)
	}
}

// P8.1: a chunk isn't kept: one that is changed behind Put changes nothing of what waits, nor of what was taken.
func TestChunkChanged(t *testing.T) {
	chunk := []byte("abcd")
	f := feed.New()
	for range 3 {
		if e := f.Put(chunk); e != api.OK {
			t.Error(e)
		}
	}
	taken := f.Some(5)
	copy(chunk, "wxyz")
	if taken != "abcda" {
		t.Errorf("%q", taken)
	}
	checkTake(t, f, 7, "bcdabcd", true)
	// One buffer for all chunks, as a caller reads.
	for _, s := range []string{"1234", "5678", "90"} {
		if e := f.Put(chunk[:copy(chunk, s)]); e != api.OK {
			t.Error(e)
		}
	}
	checkSome(t, f, 99, "1234567890")
}

// P8.1: nobody waits: no goroutine is there that wasn't, whatever was called.
func TestNobodyWaits(t *testing.T) {
	before := runtime.NumGoroutine()
	f := full(t)
	checkPut(t, f, "x", api.ErrFull)
	checkSome(t, f, 999, allOfFull())
	checkTake(t, f, 1, "", false)
	checkClose(t, f, api.OK)
	if now := runtime.NumGoroutine(); now > before {
		t.Error(now, before)
	}
}

// P8.2: the same bytes in other chunks are the same.
func TestOtherChunks(t *testing.T) {
	all := everyByte() + "\x00\x00\n" + everyByte()
	for size := range len(all) {
		f := feed.New()
		got := ""
		for at := 0; at < len(all); at += size + 1 {
			checkPut(t, f, all[at:min(len(all), at+size+1)], api.OK)
			checkPut(t, f, "", api.OK)
			if f.Chunks() == 64 {
				got += f.Some(100)
			}
		}
		if got += f.Some(len(all)); got != all {
			t.Errorf("chunks of %d bytes: %d bytes", size+1, len(got))
		}
		checkWaits(t, f, 0, 0, false)
	}
}

// P8.2: what is taken is what was put, in order, of as many bytes as may wait.
func TestAllThatMayWait(t *testing.T) {
	r := rand.New(rand.NewSource(82))
	all := make([]byte, 64*65536)
	r.Read(all)
	f := feed.New()
	for at := 0; at < len(all); at += 65536 {
		if e := f.Put(all[at : at+65536]); e != api.OK {
			t.Error(e)
		}
	}
	checkWaits(t, f, 64, len(all), false)
	checkPut(t, f, "x", api.ErrFull)
	checkTake(t, f, len(all)+1, "", false)
	half := len(all)/2 + 7
	checkTake(t, f, half, string(all[:half]), true)
	checkWaits(t, f, 32, len(all)-half, false)
	checkTake(t, f, len(all)-half, string(all[half:]), true)
	checkWaits(t, f, 0, 0, false)
}

// P8.1, P8.2: calls of every kind, in any order, against the chapter's words.
func TestByRule(t *testing.T) {
	seen := map[string]int{}
	for seed := range 60 {
		r := rand.New(rand.NewSource(int64(seed)))
		f, by := feed.New(), &rule{}
		// Some feeds are mostly full, others mostly empty.
		putting, longest := 2+r.Intn(8), 1+r.Intn(40)
		put, taken := "", ""
		for range 700 {
			switch n := r.Intn(putting + 5); n {
			case 0:
				n := r.Intn(12*longest) - 3
				want, ok := by.take(n)
				checkTake(t, f, n, want, ok)
				taken += want
				seen["take "+strconv.FormatBool(ok)]++
			case 1:
				most := r.Intn(6*longest) - 3
				want := by.some(most)
				checkSome(t, f, most, want)
				taken += want
				seen["some"]++
			case 2:
				if r.Intn(40) == 0 {
					fault := by.close()
					checkClose(t, f, fault)
					seen["close "+strconv.Itoa(int(fault))]++
				}
			default:
				chunk := make([]byte, r.Intn(longest+1))
				r.Read(chunk)
				if r.Intn(200) == 0 {
					chunk = make([]byte, 65535+r.Intn(3))
				}
				fault := by.put(string(chunk))
				checkPut(t, f, string(chunk), fault)
				if fault == api.OK {
					put += string(chunk)
				}
				seen["put "+strconv.Itoa(int(fault))]++
			}
			checkWaits(t, f, len(by.chunks), by.size(), by.closed)
		}
		if taken += f.Some(math.MaxInt); taken != put {
			t.Errorf("seed %d: %d bytes were put, %d taken", seed, len(put), len(taken))
		}
	}
	for _, what := range []string{"take true", "take false", "some", "close 0", "close 10", "put 0", "put 8", "put 10", "put 12"} {
		if seen[what] < 20 {
			t.Error("too few of a kind", what, seen[what])
		}
	}
}
