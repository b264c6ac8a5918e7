package cookie

import (
	"math"
	"math/rand"
	"slices"
	"strings"
	"sync"
	"testing"
	"unsafe"

	"souterrain/api"
	"souterrain/blake"
	"souterrain/seal"
)

// turned answers s, of which the byte at is xored with by.
func turned(s string, at int, by byte) string {
	b := []byte(s)
	b[at] ^= by
	return string(b)
}

// chance answers texts that are the same in each run.
func chance(r *rand.Rand, length int) string {
	b := make([]byte, length)
	r.Read(b)
	return string(b)
}

// longer answers s, again and again, in so many bytes.
func longer(s string, n int) string { return strings.Repeat(s, n/len(s)+1)[:n] }

func none(size int) string { return strings.Repeat("\x00", size) }

func full(size int) string { return strings.Repeat("\xff", size) }

func publics() []string { return []string{none(32), full(32), steps(0, 32, 1), steps(7, 32, 11)} }

// cookies are those that there may be; the first one is none.
func cookies() []string {
	return []string{"", none(16), full(16), steps(32, 16, 1), steps(5, 16, 13)}
}

// lengths are those of texts, the greatest that other chapters take among them.
func lengths() []int {
	return []int{0, 1, 2, 15, 16, 17, 31, 32, 33, 47, 48, 49, 63, 64, 65, 95, 96, 111, 112, 113, 115, 127, 128, 129, 1999, 2000, 2001, 5000}
}

// P31: texts of all lengths, by each public and each cookie: what Mark answers is told
// by Check, and proven by the same cookie alone.
func TestMarked(t *testing.T) {
	for i, public := range publics() {
		for j, cookie := range cookies() {
			for _, n := range lengths() {
				text := steps(n, n, 3+2*j+i)
				marked := wantMark(t, public, cookie, text)
				if len(marked) != n+32 || marked[:n] != text {
					t.Errorf("%x is marked as %x", text, marked)
				}
				for k, other := range cookies() {
					told, is := wantCheck(t, public, other, marked)
					if right := j == k && k > 0; told != text || is != right {
						t.Errorf("by %x and %x: told %.100x, %t", cookie, other, told, is)
					}
				}
			}
		}
	}
}

// P31: what both marks are made of, in words.
func TestMarks(t *testing.T) {
	public, cookie := steps(3, 32, 5), steps(9, 16, 3)
	for _, n := range lengths() {
		text := steps(1, n, 7)
		k, _ := blake.Sum("", "mark----"+public, 32)
		one, _ := blake.Sum(k, text, 16)
		two, _ := blake.Sum(cookie, text+one, 16)
		for _, c := range []struct{ cookie, right string }{{"", text + one + none(16)}, {cookie, text + one + two}} {
			if s, e := Mark(public, c.cookie, text); s != c.right || e != api.OK {
				t.Errorf("Mark(%x, %x, %.100x) = %.100x, %d; want %.100x", public, c.cookie, text, s, e, c.right)
			}
		}
	}
}

// P31: MARK 1 hangs on public and the text alone, whatever the cookie is.
func TestFirstMark(t *testing.T) {
	seen := map[string]bool{}
	for _, public := range publics() {
		for _, n := range lengths() {
			one := ""
			for _, cookie := range cookies() {
				marked := wantMark(t, public, cookie, none(n))
				if one != "" && one != marked[n:n+16] {
					t.Errorf("the first mark of %d noughts is %x, and by %x %x", n, one, cookie, marked[n:n+16])
				}
				one = marked[n : n+16]
			}
			if seen[one] {
				t.Errorf("%x is the first mark of several", one)
			}
			seen[one] = true
		}
	}
}

// P31: an empty cookie proves nothing, and none is proven by noughts.
func TestNothingProven(t *testing.T) {
	public := publics()[2]
	for _, n := range lengths() {
		text := steps(2, n, 9)
		plain := wantMark(t, public, "", text)
		for _, cookie := range cookies() {
			if told, is := wantCheck(t, public, cookie, plain); told != text || is {
				t.Errorf("by %x: told %.100x, %t", cookie, told, is)
			}
			// Whatever the second mark is, who has no cookie takes it.
			other := plain[:n+16] + wantMark(t, public, cookie, text)[n+16:]
			if told, is := wantCheck(t, public, "", other); told != text || is {
				t.Errorf("by none: told %.100x, %t", told, is)
			}
		}
		for _, two := range []string{full(16), plain[n : n+16], steps(0, 16, 1)} {
			for _, cookie := range cookies() {
				if told, is := wantCheck(t, public, cookie, plain[:n+16]+two); told != text || is {
					t.Errorf("by %x: told %.100x, %t", cookie, told, is)
				}
			}
		}
	}
}

// P31: a second mark is proven by its text and its first mark alone, and by the cookie,
// not by public.
func TestSecondMarkApart(t *testing.T) {
	cookie := cookies()[3]
	one := wantMark(t, publics()[0], cookie, "message")
	other := wantMark(t, publics()[1], cookie, "message")
	if one[23:] == other[23:] {
		t.Error("the second mark hangs not on the first one")
	}
	if told, is := wantCheck(t, publics()[1], cookie, other[:23]+one[23:]); told != "message" || is {
		t.Errorf("told %x, %t", told, is)
	}
	two, _ := blake.Sum(cookie, other[:23], 16)
	if told, is := wantCheck(t, publics()[1], cookie, other[:23]+two); told != "message" || !is {
		t.Errorf("told %x, %t", told, is)
	}
}

// P31: what was marked is marked again, by another one, and each mark goes by itself.
func TestMarkedAgain(t *testing.T) {
	s := "message"
	var list []string
	for i := range 5 {
		list = append(list, s)
		s = wantMark(t, publics()[i%4], cookies()[i], s)
	}
	for i := 4; i >= 0; i-- {
		for j := range 4 {
			if j != i%4 {
				wantCheckError(t, publics()[j], cookies()[i], s, api.ErrSum)
			}
		}
		told, is := wantCheck(t, publics()[i%4], cookies()[i], s)
		if told != list[i] || is != (i > 0) {
			t.Fatalf("told %x, %t; want %x", told, is, list[i])
		}
		s = told
	}
}

// P31: a long text, too.
func TestLongText(t *testing.T) {
	public, cookie := publics()[3], cookies()[4]
	for _, n := range []int{1<<16 - 1, 1 << 16, 1<<20 + 7} {
		text := strings.Repeat("\xa5", n)
		marked := wantMark(t, public, cookie, text)
		if told, is := wantCheck(t, public, cookie, marked); told != text || !is {
			t.Errorf("%d bytes: %t", n, is)
		}
		wantCheckError(t, public, cookie, turned(marked, n/2, 1), api.ErrSum)
	}
}

func froms() []uint32 {
	return []uint32{0, 1, 2, 255, 256, 257, 1 << 16, 1 << 24, 0x01020304, 0x04030201, 1<<31 - 1, 1 << 31, 1<<32 - 2, 1<<32 - 1}
}

func secrets() []string { return publics() }

// rightTimes are those at which there are cookies, each of them at another one.
func rightTimes() []int {
	return []int{0, 120, 240, 360, 120 * 255, 120 * 256, 120 * 65535, 120 * 65536, 120 * (1<<32 - 1), 120 * (1 << 32), 120 * (1<<33 - 1), api.MaxTime - 120, api.MaxTime}
}

// P32: cookies by each secret, for each from, at each time: they are all others.
func TestMake(t *testing.T) {
	seen := map[string]bool{}
	for _, secret := range secrets() {
		for _, from := range froms() {
			for _, now := range rightTimes() {
				s := wantMake(t, secret, from, now)
				if len(s) != 16 || seen[s] {
					t.Errorf("by %x, for %d, at %d: %x", secret, from, now, s)
				}
				seen[s] = true
			}
		}
	}
}

// P32, in words: the number of the time in eight bytes, and from in four.
func TestMadeOf(t *testing.T) {
	secret := secrets()[3]
	for _, c := range []struct {
		from uint32
		now  int
		of   string
	}{
		{0, 0, none(12)},
		{1, 0, none(11) + "\x01"},
		{0, 119, none(12)},
		{0, 120, none(7) + "\x01" + none(4)},
		{255, 121, none(7) + "\x01" + none(3) + "\xff"},
		{256, 239, none(7) + "\x01" + none(2) + "\x01\x00"},
		{0x01020304, 240, none(7) + "\x02\x01\x02\x03\x04"},
		{1<<32 - 1, 30719, none(7) + "\xff\xff\xff\xff\xff"},
		{1 << 31, 30720, none(6) + "\x01\x00\x80\x00\x00\x00"},
		{1 << 24, 519446323800, none(3) + "\x01\x02\x03\x04\x05\x01\x00\x00\x00"},
		{1<<32 - 2, 1 << 40, none(3) + "\x02\x22\x22\x22\x22\xff\xff\xff\xfe"},
	} {
		right, _ := blake.Sum(secret, c.of, 16)
		if s, e := Make(secret, c.from, c.now); s != right || e != api.OK {
			t.Errorf("Make(%x, %d, %d) = %x, %d; want %x", secret, c.from, c.now, s, e, right)
		}
	}
}

// P32: a cookie stays the same while it holds, and a tick earlier and a tick later it is
// another one.
func TestHolds(t *testing.T) {
	secret := secrets()[2]
	for _, first := range []int{0, 120, 240, 120 * 255, 120 * 1000003, 120 * (1<<33 - 1)} {
		s := wantMake(t, secret, 7, first)
		for now := first; now < first+api.Cookie; now++ {
			if again := wantMake(t, secret, 7, now); again != s {
				t.Errorf("at %d %x, at %d %x", first, s, now, again)
			}
		}
		if later := wantMake(t, secret, 7, first+api.Cookie); later == s {
			t.Errorf("at %d it still is %x", first+api.Cookie, later)
		}
		if first > 0 && wantMake(t, secret, 7, first-1) == s {
			t.Errorf("at %d it already is %x", first-1, s)
		}
	}
}

// P32: each bit of a secret and of from counts.
func TestEachBit(t *testing.T) {
	secret := secrets()[2]
	s := wantMake(t, secret, 7, 1000)
	seen := map[string]bool{s: true}
	for bit := range 256 {
		other := wantMake(t, turned(secret, bit/8, 1<<(bit%8)), 7, 1000)
		if seen[other] {
			t.Errorf("bit %d of the secret: %x", bit, other)
		}
		seen[other] = true
	}
	for bit := range 32 {
		other := wantMake(t, secret, 7^1<<bit, 1000)
		if seen[other] {
			t.Errorf("bit %d of from: %x", bit, other)
		}
		seen[other] = true
	}
}

// P32, the edges: the first and the last times that there are, and those beyond.
func TestTimes(t *testing.T) {
	for _, secret := range secrets() {
		for _, from := range froms() {
			for _, now := range []int{0, 1, 119, 120, 121, 239, 240, 1<<40 - 1, 1 << 40} {
				if len(wantMake(t, secret, from, now)) != 16 {
					t.Errorf("at %d there is no cookie", now)
				}
			}
			for _, now := range []int{-1, -2, -119, -120, -121, -1 << 32, -1 << 40, -1 << 62, math.MinInt, math.MinInt + 1, 1<<40 + 1, 1<<40 + 120, 1 << 41, 1 << 62, 1<<62 + 7, math.MaxInt - 1, math.MaxInt} {
				wantMakeError(t, secret, from, now, api.ErrArg)
			}
		}
	}
}

func nonces() []string { return []string{none(24), full(24), steps(5, 24, 11)} }

// message answers what begins as a message does, with an index of four bytes that differ
// from what is around them.
func message(n int) string { return "\x01\x02\xa1\xb2\xc3\xd4" + steps(n, n, 7) }

// P32: who gets the reply to what was marked has the cookie.
func TestReplied(t *testing.T) {
	for _, public := range publics() {
		for i, nonce := range nonces() {
			for j, cookie := range cookies()[1:] {
				for _, n := range []int{0, 1, 2, 16, 26, 109, 2000} {
					marked := wantMark(t, public, cookies()[(i+j)%5], message(n))
					s := wantReply(t, public, nonce, cookie, marked)
					if len(s) != 62 || s[:6] != "\x03\x00\xa1\xb2\xc3\xd4" || s[6:30] != nonce {
						t.Errorf("%x is the reply to %.100x", s, marked)
					}
					if got := wantAccept(t, public, marked, s); got != cookie {
						t.Errorf("%x is accepted as %x, not as %x", s, got, cookie)
					}
				}
			}
		}
	}
}

// P32: what a reply is made of, in words.
func TestReplyMadeOf(t *testing.T) {
	public, nonce, cookie := steps(3, 32, 5), steps(11, 24, 3), steps(9, 16, 3)
	marked, _ := Mark(public, "", message(20))
	k, _ := blake.Sum("", "cookie--"+public, 32)
	sealed, e := seal.Long(k, nonce, marked[26:42], cookie)
	if len(marked) != 58 || len(sealed) != 32 || e != api.OK {
		t.Fatal(len(marked), len(sealed), e)
	}
	right := "\x03\x00" + "\xa1\xb2\xc3\xd4" + nonce + sealed
	if s, e := Reply(public, nonce, cookie, marked); s != right || e != api.OK {
		t.Errorf("Reply = %x, %d; want %x", s, e, right)
	}
}

// P31 and P32: the two keys that go with a public one are not the same, and none is the
// other one's.
func TestKeysApart(t *testing.T) {
	public := publics()[2]
	marked, _ := Mark(public, "", message(0))
	for _, label := range []string{"", "mark----", "cookie--", "cookie-", "mark---", "MARK----", "mark---\x00", "cookie  "} {
		k, _ := blake.Sum("", label+public, 32)
		one, _ := blake.Sum(k, message(0), 16)
		if is := one == marked[6:22]; is != (label == "mark----") {
			t.Errorf("marked by %q: %t", label, is)
		}
		sealed, _ := seal.Long(k, nonces()[2], marked[6:22], cookies()[3])
		right := api.ErrSum
		if label == "cookie--" {
			right = api.OK
		}
		if _, e := Accept(public, marked, "\x03\x00"+marked[2:6]+nonces()[2]+sealed); e != right {
			t.Errorf("sealed by %q: %d; want %d", label, e, right)
		}
	}
}

// P32: of marked its bytes 2 to 5 and its MARK 1 count, and nothing else does: not
// whether it is rightly marked either.
func TestWhatOfMarked(t *testing.T) {
	public, nonce, cookie := publics()[2], nonces()[2], cookies()[3]
	marked := wantMark(t, public, cookies()[4], message(7))
	s := wantReply(t, public, nonce, cookie, marked)
	for i := range marked {
		for _, by := range []byte{1, 0x80, 0xff} {
			other := turned(marked, i, by)
			again := wantReply(t, public, nonce, cookie, other)
			switch {
			case i >= 2 && i <= 5:
				wantAcceptError(t, public, other, s, api.ErrForm)
				if again[:2] != s[:2] || again[2:6] == s[2:6] || again[6:] != s[6:] {
					t.Errorf("byte %d turned: %x", i, again)
				}
			case i >= 13 && i <= 28:
				wantAcceptError(t, public, other, s, api.ErrSum)
				if again[:46] != s[:46] || again[46:] == s[46:] {
					t.Errorf("byte %d turned: %x", i, again)
				}
			default:
				if again != s || wantAccept(t, public, other, s) != cookie {
					t.Errorf("byte %d turned: %x", i, again)
				}
			}
		}
	}
	// All of it between the index and the marks, too, and how much that is.
	for _, n := range []int{0, 1, 26, 2000} {
		other := marked[:6] + steps(1, n, 1) + marked[13:]
		if wantReply(t, public, nonce, cookie, other) != s || wantAccept(t, public, other, s) != cookie {
			t.Errorf("%d bytes between: another reply", n)
		}
	}
}

// P32: marked texts of bytes that nobody has marked, the shortest ones first.
func TestAnyMarked(t *testing.T) {
	r := rand.New(rand.NewSource(1932))
	for n := 38; n < 300; n++ {
		for _, marked := range []string{none(n), full(n), chance(r, n)} {
			public, nonce, cookie := chance(r, 32), chance(r, 24), chance(r, 16)
			s := wantReply(t, public, nonce, cookie, marked)
			if got := wantAccept(t, public, marked, s); got != cookie {
				t.Errorf("%x is accepted as %x, not as %x", s, got, cookie)
			}
		}
	}
}

// other lengths than one that would be right.
func otherLengths(right int) []int {
	list := []int{0, 1, 2, 8, 12, 14, 15, 16, 17, 18, 23, 24, 25, 30, 31, 32, 33, 34, 48, 63, 64, 65, 255, 256, 256 + right, 2000, 65536, 65536 + right}
	return slices.DeleteFunc(list, func(n int) bool { return n == right })
}

// P31 and P32, the edges: a public of none, of 31, of 33 bytes, and of others.
func TestPublicLengths(t *testing.T) {
	public, cookie, nonce := publics()[2], cookies()[3], nonces()[2]
	marked := wantMark(t, public, cookie, message(3))
	s := wantReply(t, public, nonce, cookie, marked)
	for _, n := range otherLengths(32) {
		for _, wrong := range []string{longer(public, n), none(n), full(n)} {
			for _, given := range cookies() {
				wantMarkError(t, wrong, given, "message", api.ErrArg)
				wantMarkError(t, wrong, given, "", api.ErrArg)
				wantCheckError(t, wrong, given, marked, api.ErrArg)
			}
			wantReplyError(t, wrong, nonce, cookie, marked, api.ErrArg)
			wantAcceptError(t, wrong, marked, s, api.ErrArg)
		}
	}
}

// P31 and P32, the edges: a cookie of 1, of 15, of 17 bytes, and of others; none is one
// for Mark and Check, and isn't for Reply.
func TestCookieLengths(t *testing.T) {
	public, cookie, nonce := publics()[2], cookies()[3], nonces()[2]
	marked := wantMark(t, public, cookie, message(3))
	for _, n := range otherLengths(16) {
		for _, wrong := range []string{longer(cookie, n), none(n), full(n)} {
			wantReplyError(t, public, nonce, wrong, marked, api.ErrArg)
			if n > 0 {
				wantMarkError(t, public, wrong, "message", api.ErrArg)
				wantMarkError(t, public, wrong, "", api.ErrArg)
				wantCheckError(t, public, wrong, marked, api.ErrArg)
			}
		}
	}
}

// P32, the edges: a secret of none, of 31, of 33 bytes, and of others, at any time; and
// a nonce of 23 and of 25, likewise.
func TestSecretAndNonceLengths(t *testing.T) {
	secret, public, cookie, nonce := secrets()[2], publics()[2], cookies()[3], nonces()[2]
	marked := wantMark(t, public, cookie, message(3))
	for _, n := range otherLengths(32) {
		for _, now := range []int{0, 119, 120, 1 << 40, -1, 1<<40 + 1} {
			wantMakeError(t, longer(secret, n), 7, now, api.ErrArg)
			wantMakeError(t, none(n), 7, now, api.ErrArg)
		}
	}
	for _, n := range otherLengths(24) {
		wantReplyError(t, public, longer(nonce, n), cookie, marked, api.ErrArg)
		wantReplyError(t, public, none(n), cookie, marked, api.ErrArg)
	}
}

// P31, the edges: a marked text of fewer than 32 bytes, and of 32 and 33.
func TestCheckLengths(t *testing.T) {
	for _, public := range publics() {
		for _, cookie := range cookies() {
			empty, one := wantMark(t, public, cookie, ""), wantMark(t, public, cookie, "a")
			for n := range 32 {
				for _, s := range []string{empty[:n], empty[32-n:], one[:n], one[33-n:], none(n), full(n)} {
					wantCheckError(t, public, cookie, s, api.ErrShort)
				}
			}
			wantCheckError(t, public, cookie, one[:32], api.ErrSum)
			wantCheckError(t, public, cookie, one[1:], api.ErrSum)
			wantCheckError(t, public, cookie, none(32), api.ErrSum)
			wantCheckError(t, public, cookie, none(33), api.ErrSum)
			if text, is := wantCheck(t, public, cookie, empty); text != "" || is != (cookie != "") {
				t.Errorf("told %x, %t", text, is)
			}
			if text, is := wantCheck(t, public, cookie, one); text != "a" || is != (cookie != "") {
				t.Errorf("told %x, %t", text, is)
			}
		}
	}
}

// P32, the edges: a marked text of fewer than 38 bytes, and of 38, of 39 and of more.
func TestMarkedLengths(t *testing.T) {
	public, cookie, nonce := publics()[2], cookies()[3], nonces()[2]
	for _, n := range []int{0, 1, 2, 100, 2000} {
		marked := wantMark(t, public, cookie, message(n))
		s := wantReply(t, public, nonce, cookie, marked)
		if len(marked) != 38+n || len(s) != 62 || wantAccept(t, public, marked, s) != cookie {
			t.Errorf("a marked text of %d bytes: %x", len(marked), s)
		}
		for k := range 38 {
			for _, short := range []string{marked[:k], marked[len(marked)-k:], none(k), full(k)} {
				wantReplyError(t, public, nonce, cookie, short, api.ErrShort)
				wantAcceptError(t, public, short, s, api.ErrShort)
			}
		}
	}
	// What is marked, but has no index.
	for n := range 6 {
		marked := wantMark(t, public, cookie, message(0)[:n])
		wantReplyError(t, public, nonce, cookie, marked, api.ErrShort)
		wantAcceptError(t, public, marked, none(62), api.ErrShort)
	}
}

// P32, the edges: a reply of fewer than 62 bytes, and of 63 and more.
func TestReplyLengths(t *testing.T) {
	public, cookie, nonce := publics()[2], cookies()[3], nonces()[2]
	marked := wantMark(t, public, cookie, message(30))
	s := wantReply(t, public, nonce, cookie, marked)
	for n := range 62 {
		for _, short := range []string{s[:n], s[62-n:], none(n), full(n), marked[:n]} {
			wantAcceptError(t, public, marked, short, api.ErrShort)
		}
	}
	for _, n := range []int{1, 2, 16, 62, 256, 2000, 65536, 65536 + 62} {
		for _, more := range []string{none(n), full(n), longer(s, n)} {
			wantAcceptError(t, public, marked, s+more, api.ErrForm)
			wantAcceptError(t, public, marked, more+s, api.ErrForm)
			wantAcceptError(t, public, marked, s[:30]+more+s[30:], api.ErrForm)
		}
	}
	if got := wantAccept(t, public, marked, s); got != cookie {
		t.Errorf("accepted as %x", got)
	}
}

// P31, wrong inputs: each byte of a marked text turned, and each bit of its marks.
func TestTurnedMarked(t *testing.T) {
	for _, public := range publics()[1:3] {
		for _, cookie := range cookies() {
			for _, n := range []int{0, 1, 7, 64, 65} {
				text := steps(3, n, 5)
				marked := wantMark(t, public, cookie, text)
				for bit := range 8 * len(marked) {
					wrong := turned(marked, bit/8, 1<<(bit%8))
					if bit/8 < n+16 {
						wantCheckError(t, public, cookie, wrong, api.ErrSum)
					} else if told, is := wantCheck(t, public, cookie, wrong); told != text || is {
						t.Errorf("bit %d turned: %x, %t", bit, told, is)
					}
				}
			}
		}
	}
}

// P31, wrong inputs: another public, one byte longer, one byte shorter, and both marks
// in each other's place.
func TestOtherwiseMarked(t *testing.T) {
	for _, cookie := range cookies() {
		for _, n := range []int{1, 7, 64, 65, 2000} {
			public := publics()[2]
			marked := wantMark(t, public, cookie, steps(3, n, 5))
			for bit := range 256 {
				wantCheckError(t, turned(public, bit/8, 1<<(bit%8)), cookie, marked, api.ErrSum)
			}
			for _, more := range []string{"\x00", "a", "\xff", none(16), none(32)} {
				wantCheckError(t, public, cookie, marked+more, api.ErrSum)
				wantCheckError(t, public, cookie, more+marked, api.ErrSum)
				wantCheckError(t, public, cookie, marked[:n]+more+marked[n:], api.ErrSum)
				wantCheckError(t, public, cookie, marked[:n+16]+more+marked[n+16:], api.ErrSum)
			}
			wantCheckError(t, public, cookie, marked[1:], api.ErrSum)
			wantCheckError(t, public, cookie, marked[:n+31], api.ErrSum)
			wantCheckError(t, public, cookie, marked[:n-1]+marked[n:], api.ErrSum)
			wantCheckError(t, public, cookie, marked[:n]+marked[n+16:]+marked[n:n+16], api.ErrSum)
			if n >= 16 {
				wantCheckError(t, public, cookie, marked[:n+16], api.ErrSum)
			}
		}
	}
}

// P31, wrong inputs: another cookie, each bit of it.
func TestOtherCookie(t *testing.T) {
	public, cookie := publics()[2], cookies()[3]
	marked := wantMark(t, public, cookie, "message")
	for bit := range 128 {
		if told, is := wantCheck(t, public, turned(cookie, bit/8, 1<<(bit%8)), marked); told != "message" || is {
			t.Errorf("bit %d: %x, %t", bit, told, is)
		}
	}
}

// P32, wrong inputs: each byte of a reply turned, each bit and all of them.
func TestTurnedReply(t *testing.T) {
	for _, public := range publics()[1:3] {
		cookie, nonce := cookies()[3], nonces()[2]
		for _, index := range []string{none(4), full(4), "\x01\x02\x03\x04"} {
			marked := wantMark(t, public, cookie, "\x01\x02"+index+"message")
			s := wantReply(t, public, nonce, cookie, marked)
			for i := range s {
				right := api.ErrSum
				if i < 6 {
					right = api.ErrForm
				}
				for bit := range 8 {
					wantAcceptError(t, public, marked, turned(s, i, 1<<bit), right)
				}
				wantAcceptError(t, public, marked, turned(s, i, 0xff), right)
			}
			for n := range 256 {
				if n != 3 {
					wantAcceptError(t, public, marked, turned(s, 0, 3^byte(n)), api.ErrForm)
				}
				if n != 0 {
					wantAcceptError(t, public, marked, turned(s, 1, byte(n)), api.ErrForm)
				}
			}
			wantAccept(t, public, marked, s)
		}
	}
}

// P32, wrong inputs: a reply to another public, and to another text that was marked,
// parts of one reply in another one, and what is no reply.
func TestOtherReply(t *testing.T) {
	public, cookie, nonce := publics()[2], cookies()[3], nonces()[2]
	marked := wantMark(t, public, "", message(7))
	s := wantReply(t, public, nonce, cookie, marked)
	for bit := range 256 {
		wantAcceptError(t, turned(public, bit/8, 1<<(bit%8)), marked, s, api.ErrSum)
	}
	for _, text := range []string{message(8), message(7) + "\x00", message(6), turned(message(7), 0, 1), turned(message(7), 9, 1)} {
		another := wantMark(t, public, "", text)
		wantAcceptError(t, public, another, s, api.ErrSum)
		theirs := wantReply(t, public, nonce, cookie, another)
		wantAcceptError(t, public, marked, theirs, api.ErrSum)
	}
	for i := 2; i < 6; i++ {
		another := wantMark(t, public, "", turned(message(7), i, 1))
		wantAcceptError(t, public, another, s, api.ErrForm)
		wantAcceptError(t, public, marked, wantReply(t, public, nonce, cookie, another), api.ErrForm)
	}
	theirs := wantReply(t, public, nonces()[1], cookies()[4], marked)
	for _, at := range []int{6, 30, 46} {
		if at != 6 {
			wantAcceptError(t, public, marked, s[:at]+theirs[at:], api.ErrSum)
			wantAcceptError(t, public, marked, theirs[:at]+s[at:], api.ErrSum)
		}
	}
	if got := wantAccept(t, public, marked, s[:6]+theirs[6:]); got != cookies()[4] {
		t.Errorf("accepted as %x", got)
	}
	wantAcceptError(t, public, marked, none(62), api.ErrForm)
	wantAcceptError(t, public, marked, full(62), api.ErrForm)
	wantAcceptError(t, public, marked, longer(marked, 62), api.ErrForm)
	wantAcceptError(t, public, marked, "\x03\x00"+marked[2:6]+none(56), api.ErrSum)
	wantAcceptError(t, public, "xxxxxx"+marked, s, api.ErrForm)
	wantAcceptError(t, public, marked[1:], s, api.ErrForm)
}

// P32: the same cookie by other nonces, and other cookies by the same nonce, are all
// sealed otherwise.
func TestRepliesDiffer(t *testing.T) {
	public := publics()[2]
	marked := wantMark(t, public, "", message(7))
	seen := map[string]bool{}
	for bit := range 8 * 24 {
		s := wantReply(t, public, turned(nonces()[2], bit/8, 1<<(bit%8)), cookies()[3], marked)
		if seen[s[30:46]] || strings.Contains(s, cookies()[3]) {
			t.Errorf("bit %d of the nonce: %x", bit, s)
		}
		seen[s[30:46]] = true
	}
	for bit := range 8 * 16 {
		s := wantReply(t, public, nonces()[2], turned(cookies()[3], bit/8, 1<<(bit%8)), marked)
		if seen[s[30:46]] {
			t.Errorf("bit %d of the cookie: %x", bit, s)
		}
		seen[s[30:46]] = true
	}
}

// P31 and P32: all of it: who is asked to prove where he is does so, as long as the
// cookie holds.
func TestAllOfIt(t *testing.T) {
	public, secret := publics()[3], secrets()[2]
	for _, from := range froms() {
		first := wantMark(t, public, "", message(109))
		mine := wantMake(t, secret, from, 250)
		if _, is := wantCheck(t, public, mine, first); is {
			t.Error("proven by nothing")
		}
		got := wantAccept(t, public, first, wantReply(t, public, nonces()[2], mine, first))
		again := wantMark(t, public, got, message(109))
		for _, c := range []struct {
			from uint32
			now  int
		}{{from, 240}, {from, 250}, {from, 359}, {from, 239}, {from, 360}, {from + 1, 250}, {from ^ 1<<31, 250}} {
			right := c.from == from && c.now >= 240 && c.now < 360
			if _, is := wantCheck(t, public, wantMake(t, secret, c.from, c.now), again); is != right {
				t.Errorf("for %d at %d: %t", c.from, c.now, is)
			}
		}
	}
}

// P31 and P32, wrong inputs: of several at once the one that is told first is the
// answer.
func TestSeveralWrong(t *testing.T) {
	public, cookie, nonce := publics()[2], cookies()[3], nonces()[2]
	marked := wantMark(t, public, cookie, message(7))
	s := wantReply(t, public, nonce, cookie, marked)
	for _, wrong := range []string{"", public[1:], public + "\x00"} {
		for _, text := range []string{"", marked[:31], turned(marked, 0, 1), marked} {
			for _, given := range []string{"", cookie, cookie[1:], cookie + "\x00"} {
				wantMarkError(t, wrong, given, text, api.ErrArg)
				wantCheckError(t, wrong, given, text, api.ErrArg)
				wantReplyError(t, wrong, nonce, given, text, api.ErrArg)
				wantReplyError(t, wrong, nonce[1:], given, text, api.ErrArg)
			}
			for _, reply := range []string{"", s[:61], s + "\x00", turned(s, 0, 1), turned(s, 40, 1)} {
				wantAcceptError(t, wrong, text, reply, api.ErrArg)
			}
		}
		wantMakeError(t, wrong, 7, -1, api.ErrArg)
		wantMakeError(t, wrong, 7, 1<<40+1, api.ErrArg)
	}
	wantCheckError(t, public, cookie[1:], marked[:31], api.ErrArg)
	wantCheckError(t, public, cookie[1:], turned(marked, 0, 1), api.ErrArg)
	wantCheckError(t, public, cookie, turned(marked[13:], 3, 1)[:31], api.ErrShort)
	wantReplyError(t, public, nonce[1:], cookie, marked[:37], api.ErrArg)
	wantReplyError(t, public, nonce, "", marked[:37], api.ErrArg)
	wantReplyError(t, public, nonce, cookie[1:], "", api.ErrArg)
}

// P32, wrong inputs: the same in Accept, behind public.
func TestSeveralWrongAccept(t *testing.T) {
	public, cookie, nonce := publics()[2], cookies()[3], nonces()[2]
	marked := wantMark(t, public, cookie, message(7))
	s := wantReply(t, public, nonce, cookie, marked)
	for _, wrong := range []string{turned(s, 0, 1), turned(s, 1, 1), turned(s, 5, 1), turned(s, 40, 1), s + "\x00", s} {
		wantAcceptError(t, public, marked[:37], wrong, api.ErrShort)
		wantAcceptError(t, public, "", wrong, api.ErrShort)
		wantAcceptError(t, public, marked, wrong[:61], api.ErrShort)
		wantAcceptError(t, public, marked, wrong[:2], api.ErrShort)
		wantAcceptError(t, public, marked[:5], wrong[:5], api.ErrShort)
	}
	for _, at := range []int{0, 1, 2, 5} {
		wantAcceptError(t, public, marked, turned(s, at, 1)+"\x00", api.ErrForm)
		wantAcceptError(t, public, marked, turned(turned(s, at, 1), 40, 1), api.ErrForm)
		wantAcceptError(t, public, marked, turned(turned(s, at, 1), 61, 1), api.ErrForm)
		wantAcceptError(t, publics()[1], marked, turned(s, at, 1), api.ErrForm)
	}
	wantAcceptError(t, public, marked, turned(s, 40, 1)+"\x00", api.ErrForm)
	wantAcceptError(t, publics()[1], marked, s+"\x00", api.ErrForm)
	wantAcceptError(t, publics()[1], turned(marked, 2, 1), s, api.ErrForm)
	wantAcceptError(t, publics()[1], marked, turned(s, 40, 1), api.ErrSum)
}

// anything answers a text that is mostly of one of these lengths, or of one near it.
func anything(r *rand.Rand, sizes ...int) string {
	n := sizes[r.Intn(len(sizes))]
	if r.Intn(4) == 0 {
		n = max(0, n+r.Intn(5)-2)
	}
	return chance(r, n)
}

// wantAny holds each call against the chapter's words, whatever it is given, and what
// is made of what they answer.
func wantAny(t *testing.T, public, secret, nonce, cookie, text, s string, from uint32, now int) {
	t.Helper()
	marked := wantMark(t, public, cookie, text)
	made := wantMake(t, secret, from, now)
	for _, m := range []string{marked, text, s} {
		for _, c := range []string{cookie, made, ""} {
			wantCheck(t, public, c, m)
			reply := wantReply(t, public, nonce, c, m)
			wantAccept(t, public, m, reply)
			wantAccept(t, public, text, reply)
		}
		wantAccept(t, public, m, s)
	}
}

// P1: whatever they are given, all calls answer, as the chapter has it.
func TestAnythingAnswers(t *testing.T) {
	r := rand.New(rand.NewSource(3132))
	for range 5000 {
		public, secret, nonce := anything(r, 32, 32, 32, 0), anything(r, 32, 32, 0, 64), anything(r, 24, 24, 24, 12)
		cookie, text, s := anything(r, 16, 16, 0), anything(r, 0, 6, 7, 37, 38, 64, 200), anything(r, 0, 31, 32, 62, 62, 63)
		wantAny(t, public, secret, nonce, cookie, text, s, r.Uint32(), int(r.Uint64())>>r.Intn(64))
	}
}

// lent answers b as a text that changes as b does.
func lent(b []byte) string { return unsafe.String(unsafe.SliceData(b), len(b)) }

// lender lends texts that lie in its bytes, and change as they do.
type lender struct{ all []byte }

func newLender() *lender { return &lender{make([]byte, 0, 10000)} }

// lend answers s as one of them; behind it there is room.
func (l *lender) lend(s string) string {
	at := len(l.all)
	l.all = append(append(l.all, s...), "room behind"...)
	return lent(l.all[at : at+len(s)])
}

// shares says whether two texts have bytes in common.
func shares(a, b string) bool {
	if a == "" || b == "" {
		return false
	}
	p, q := uintptr(unsafe.Pointer(unsafe.StringData(a))), uintptr(unsafe.Pointer(unsafe.StringData(b)))
	return p < q+uintptr(len(b)) && q < p+uintptr(len(a))
}

// P2: what is handed in is not changed, and no answer lies in it, or in another answer,
// or changes where it does.
func TestNothingShared(t *testing.T) {
	for _, given := range cookies() {
		for _, text := range []string{"", "message", message(0), message(2000)} {
			l := newLender()
			public, secret, cookie := l.lend(publics()[2]), l.lend(secrets()[3]), l.lend(given)
			nonce, sent, plain := l.lend(nonces()[2]), l.lend(cookies()[3]), l.lend(text)
			again := l.lend(wantMark(t, publics()[2], given, text))
			whole := l.lend(wantMark(t, publics()[2], "", message(20)))
			reply := l.lend(wantReply(t, publics()[2], nonces()[2], cookies()[3], whole))
			before := string(l.all)
			var answers []string
			for range 2 {
				marked, _ := Mark(public, cookie, plain)
				told, _, _ := Check(public, cookie, again)
				made, _ := Make(secret, 7, 240)
				replied, _ := Reply(public, nonce, sent, whole)
				got, e := Accept(public, whole, reply)
				if told != text || got != cookies()[3] || e != api.OK {
					t.Errorf("told %.100x, accepted %x, %d", told, got, e)
				}
				answers = append(answers, marked, told, made, replied, got)
			}
			if string(l.all) != before {
				t.Error("what was handed in has changed")
			}
			wantApart(t, answers, lent(l.all[:cap(l.all)]))
			copies := strings.Join(answers, "")
			clear(l.all)
			if strings.Join(answers, "") != copies {
				t.Error("an answer changes with what was handed in")
			}
		}
	}
}

// wantApart holds that no text of list lies in another one, or in what was handed in.
func wantApart(t *testing.T, list []string, in string) {
	t.Helper()
	for i, s := range list {
		if slices.ContainsFunc(list[i+1:], func(other string) bool { return shares(s, other) }) {
			t.Errorf("%.100x lies in another one", s)
		}
		if shares(s, in) {
			t.Errorf("%.100x lies in what was handed in", s)
		}
	}
}

// asked is one call, told as a text: what it answers.
type asked func() string

func told1(s string, e api.Errno) string { return s + "/" + string(rune(e)) }

func told2(s string, is bool, e api.Errno) string {
	if is {
		return told1(s, e) + "is"
	}
	return told1(s, e)
}

// questions answers calls of all kinds, right and wrong ones.
func questions(t *testing.T) []asked {
	var list []asked
	for i := range 24 {
		public, cookie, nonce := publics()[i%4], cookies()[i%5], nonces()[i%3]
		text, now := message(3*i), 60*i
		marked := wantMark(t, public, cookie, text)
		reply := wantReply(t, public, nonce, cookies()[1+i%4], marked)
		list = append(list,
			func() string { return told1(Mark(public, cookie, text)) },
			func() string { return told1(Mark(public[i%2:], cookie, text)) },
			func() string { return told2(Check(public, cookie, marked)) },
			func() string { return told2(Check(public, cookie, turned(marked, i, 1))) },
			func() string { return told2(Check(public, cookies()[1+i%4], marked)) },
			func() string { return told1(Make(public, uint32(i), now)) },
			func() string { return told1(Make(public, uint32(i), -now)) },
			func() string { return told1(Reply(public, nonce, cookies()[1+i%4], marked)) },
			func() string { return told1(Reply(public, nonce, cookie, marked)) },
			func() string { return told1(Accept(public, marked, reply)) },
			func() string { return told1(Accept(public, marked, turned(reply, 2*i, 1))) })
	}
	return list
}

// P2: the same calls answer the same, in whatever order they come, and at once.
func TestAnyOrder(t *testing.T) {
	list := questions(t)
	var right []string
	for _, ask := range list {
		right = append(right, ask())
	}
	r := rand.New(rand.NewSource(1931))
	for range 5 {
		for _, i := range r.Perm(len(list)) {
			if got := list[i](); got != right[i] {
				t.Errorf("call %d: %x; want %x", i, got, right[i])
			}
		}
	}
	var all sync.WaitGroup
	for range 4 {
		order := r.Perm(len(list))
		all.Go(func() {
			for _, i := range order {
				if got := list[i](); got != right[i] {
					t.Errorf("call %d: %x; want %x", i, got, right[i])
				}
			}
		})
	}
	all.Wait()
}

// P2: several go on at once, with publics and secrets that nobody has had before.
func TestAtOnce(t *testing.T) {
	var all sync.WaitGroup
	for i := range 6 {
		all.Go(func() {
			for n := range 200 {
				public, nonce, cookie := steps(n, 32, 13+2*i), steps(n, 24, 15+2*i), steps(n, 16, 17+2*i)
				marked := wantMark(t, public, cookie, message(n))
				wantCheck(t, public, cookie, marked)
				wantMake(t, public, uint32(n), 119*n)
				if got := wantAccept(t, public, marked, wantReply(t, public, nonce, cookie, marked)); got != cookie {
					t.Errorf("accepted as %x, not as %x", got, cookie)
				}
			}
		})
	}
	all.Wait()
}

// P1 and P2: whatever is handed in, all calls answer as the chapter has it.
func FuzzAnything(f *testing.F) {
	f.Add(publics()[2], secrets()[3], nonces()[2], cookies()[3], message(7), none(62), uint32(7), 240)
	f.Add(publics()[0], "", "", "", "", "", uint32(0), -1)
	f.Add(publics()[1], full(33), full(23), full(15), full(38), full(63), uint32(1<<32-1), 1<<40+1)
	f.Fuzz(func(t *testing.T, public, secret, nonce, cookie, text, s string, from uint32, now int) {
		wantAny(t, public, secret, nonce, cookie, text, s, from, now)
		// Mostly none of these is as long as it must be, so they are made so, too.
		fill := func(s string, n int) string { return (s + none(n))[:n] }
		wantAny(t, fill(public, 32), fill(secret, 32), fill(nonce, 24), fill(cookie, 16), text, s, from, now&(1<<40-1))
	})
}
