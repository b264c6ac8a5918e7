package cookie

import (
	"bytes"
	"encoding/binary"
	"testing"

	"souterrain/api"
	"souterrain/blake"
	"souterrain/seal"
)

// saidBlake is BLAKE by key of so many bytes, as chapter 12 has it.
func saidBlake(key, s string, size int) string {
	sum, e := blake.Sum(key, s, size)
	if len(sum) != size || e != api.OK {
		panic("no digest")
	}
	return sum
}

// saidMarks are both marks of text, in P31's words.
func saidMarks(public, cookie, text string) (string, string) {
	k := saidBlake("", "mark----"+public, 32)
	one := saidBlake(k, text, 16)
	if len(cookie) == 0 {
		return one, "\x00\x00\x00\x00\x00\x00\x00\x00\x00\x00\x00\x00\x00\x00\x00\x00"
	}
	return one, saidBlake(cookie, text+one, 16)
}

// saidMark is Mark in P31's words.
func saidMark(public, cookie, text string) (string, api.Errno) {
	if len(public) != 32 || (len(cookie) != 0 && len(cookie) != 16) {
		return "", 1
	}
	one, two := saidMarks(public, cookie, text)
	return text + one + two, 0
}

// saidCheck is Check in P31's words.
func saidCheck(public, cookie, s string) (string, bool, api.Errno) {
	if len(public) != 32 || (len(cookie) != 0 && len(cookie) != 16) {
		return "", false, 1
	}
	n := len(s)
	if n < 32 {
		return "", false, 4
	}
	one, two := saidMarks(public, cookie, s[:n-32])
	if s[n-32:n-16] != one {
		return "", false, 6
	}
	return s[:n-32], len(cookie) == 16 && s[n-16:] == two, 0
}

// saidMake is Make in P32's words.
func saidMake(secret string, from uint32, now int) (string, api.Errno) {
	if len(secret) != 32 || now < 0 || now > 1<<40 {
		return "", 1
	}
	var b bytes.Buffer
	binary.Write(&b, binary.BigEndian, uint64(now)/120)
	binary.Write(&b, binary.BigEndian, from)
	return saidBlake(secret, b.String(), 16), 0
}

// saidKey is K in P32's words.
func saidKey(public string) string { return saidBlake("", "cookie--"+public, 32) }

// saidReply is Reply in P32's words.
func saidReply(public, nonce, cookie, marked string) (string, api.Errno) {
	if len(public) != 32 || len(nonce) != 24 || len(cookie) != 16 {
		return "", 1
	}
	n := len(marked)
	if n < 38 {
		return "", 4
	}
	sealed, e := seal.Long(saidKey(public), nonce, marked[n-32:n-16], cookie)
	if len(sealed) != 32 || e != api.OK {
		panic("not sealed")
	}
	return "\x03\x00" + marked[2:6] + nonce + sealed, 0
}

// saidAccept is Accept in P32's words.
func saidAccept(public, marked, s string) (string, api.Errno) {
	if len(public) != 32 {
		return "", 1
	}
	n := len(marked)
	if n < 38 || len(s) < 62 {
		return "", 4
	}
	if len(s) != 62 || s[0] != 3 || s[1] != 0 || s[2] != marked[2] || s[3] != marked[3] || s[4] != marked[4] || s[5] != marked[5] {
		return "", 5
	}
	return seal.Unlong(saidKey(public), s[6:30], marked[n-32:n-16], s[30:])
}

// wantMark holds Mark against the chapter's words, and answers what it answers.
func wantMark(t *testing.T, public, cookie, text string) string {
	t.Helper()
	s, e := Mark(public, cookie, text)
	if right, err := saidMark(public, cookie, text); s != right || e != err {
		t.Errorf("Mark(%.100x, %.100x, %.100x) = %.100x, %d; want %.100x, %d", public, cookie, text, s, e, right, err)
	}
	return s
}

// wantCheck does so with Check.
func wantCheck(t *testing.T, public, cookie, s string) (string, bool) {
	t.Helper()
	text, is, e := Check(public, cookie, s)
	if right, proven, err := saidCheck(public, cookie, s); text != right || is != proven || e != err {
		t.Errorf("Check(%.100x, %.100x, %.100x) = %.100x, %t, %d; want %.100x, %t, %d", public, cookie, s, text, is, e, right, proven, err)
	}
	return text, is
}

// wantMake does so with Make.
func wantMake(t *testing.T, secret string, from uint32, now int) string {
	t.Helper()
	s, e := Make(secret, from, now)
	if right, err := saidMake(secret, from, now); s != right || e != err {
		t.Errorf("Make(%.100x, %d, %d) = %x, %d; want %x, %d", secret, from, now, s, e, right, err)
	}
	return s
}

// wantReply does so with Reply.
func wantReply(t *testing.T, public, nonce, cookie, marked string) string {
	t.Helper()
	s, e := Reply(public, nonce, cookie, marked)
	if right, err := saidReply(public, nonce, cookie, marked); s != right || e != err {
		t.Errorf("Reply(%.100x, %.100x, %.100x, %.100x) = %.100x, %d; want %.100x, %d", public, nonce, cookie, marked, s, e, right, err)
	}
	return s
}

// wantAccept does so with Accept.
func wantAccept(t *testing.T, public, marked, s string) string {
	t.Helper()
	cookie, e := Accept(public, marked, s)
	if right, err := saidAccept(public, marked, s); cookie != right || e != err {
		t.Errorf("Accept(%.100x, %.100x, %.100x) = %x, %d; want %x, %d", public, marked, s, cookie, e, right, err)
	}
	return cookie
}

// wantError holds that a call answers just that error, and that each other result is
// its zero value.
func wantError(t *testing.T, name, s string, e, right api.Errno, in ...string) {
	t.Helper()
	if s != "" || e != right {
		t.Errorf("%s(%.100x) = %.100x, %d; want nothing, %d", name, in, s, e, right)
	}
}

func wantMarkError(t *testing.T, public, cookie, text string, right api.Errno) {
	t.Helper()
	s, e := Mark(public, cookie, text)
	wantError(t, "Mark", s, e, right, public, cookie, text)
}

func wantCheckError(t *testing.T, public, cookie, s string, right api.Errno) {
	t.Helper()
	text, is, e := Check(public, cookie, s)
	wantError(t, "Check", text, e, right, public, cookie, s)
	if is {
		t.Errorf("Check(%.100x, %.100x, %.100x): proven", public, cookie, s)
	}
}

func wantMakeError(t *testing.T, secret string, from uint32, now int, right api.Errno) {
	t.Helper()
	if s, e := Make(secret, from, now); s != "" || e != right {
		t.Errorf("Make(%.100x, %d, %d) = %x, %d; want nothing, %d", secret, from, now, s, e, right)
	}
}

func wantReplyError(t *testing.T, public, nonce, cookie, marked string, right api.Errno) {
	t.Helper()
	s, e := Reply(public, nonce, cookie, marked)
	wantError(t, "Reply", s, e, right, public, nonce, cookie, marked)
}

func wantAcceptError(t *testing.T, public, marked, s string, right api.Errno) {
	t.Helper()
	cookie, e := Accept(public, marked, s)
	wantError(t, "Accept", cookie, e, right, public, marked, s)
}
