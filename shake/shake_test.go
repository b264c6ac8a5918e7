package shake

import (
	"encoding/hex"
	"math"
	"math/rand"
	"slices"
	"strings"
	"sync"
	"testing"
	"unsafe"

	"souterrain/api"
	"souterrain/curve"
	"souterrain/stamp"
)

// drawnMeeting answers one whose keys are like no other's.
func drawnMeeting(suite, n int) *meeting {
	c, theirs, once, second := drawn(suite, n)
	return &meeting{
		begin:  begin{c, once, api.Stamp{Sec: 258, Nano: 7}, 2, 77},
		theirs: theirs,
		answer: answer{c.Psk, second, 1, 88},
	}
}

// turned answers s, of which the byte at is xored with by.
func turned(s string, at int, by byte) string {
	b := []byte(s)
	b[at] ^= by
	return string(b)
}

// with answers s, of which the byte at is n.
func with(s string, at, n int) string { return turned(s, at, s[at]^byte(n)) }

// chance answers texts that are the same in each run.
func chance(r *rand.Rand, length int) string {
	b := make([]byte, length)
	r.Read(b)
	return string(b)
}

func indexes() []uint32 { return []uint32{0, 1, 256, 1<<32 - 1, 255, 1 << 16, 1 << 24, 0x04030201} }

// P27 to P30: both suites, both values of best on either side, indexes of all kinds.
func TestMeet(t *testing.T) {
	for _, suite := range suites() {
		for i, index := range indexes() {
			for j, bests := range [][2]int{{1, 1}, {1, 2}, {2, 1}, {2, 2}} {
				if (i+j)%2 == 0 {
					continue
				}
				m := drawnMeeting(suite, 10*i+j)
				m.begin.index, m.answer.index = index, indexes()[(i+j)%8]
				m.begin.best, m.answer.best = bests[0], bests[1]
				m.begin.t = api.Stamp{Sec: 1 << (5 * i), Nano: 99999999*i + j}
				m.meet(t)
			}
		}
	}
}

// P28 and P29: what stands in both messages that anybody may read, in words.
func TestSeen(t *testing.T) {
	for _, suite := range suites() {
		m := drawnMeeting(suite, 0)
		m.begin.index, m.answer.index = 0x04030201, 0xfffefd00
		m.meet(t)
		head := string([]byte{1, byte(suite), 1, 2, 3, 4})
		if len(m.first) != 115 || m.first[:6] != head || m.first[6:38] != pub(m.begin.once) {
			t.Errorf("suite %d: first message %x", suite, m.first)
		}
		head = string([]byte{2, byte(suite), 0, 0xfd, 0xfe, 0xff, 1, 2, 3, 4})
		if len(m.second) != 59 || m.second[:10] != head || m.second[10:42] != pub(m.answer.once) {
			t.Errorf("suite %d: second message %x", suite, m.second)
		}
		for _, secret := range []string{m.begin.c.Own, m.begin.c.Psk, m.begin.once, m.theirs, m.answer.once, pub(m.begin.c.Own), pub(m.theirs)} {
			if strings.Contains(m.first+m.second, secret) {
				t.Errorf("suite %d: %x is seen", suite, secret)
			}
		}
	}
}

// P28 and P29, the bounds: indexes are not sealed, so all else is the same whatever
// they are.
func TestIndexesApart(t *testing.T) {
	for _, suite := range suites() {
		m := drawnMeeting(suite, 1)
		_, h := m.meet(t)
		for _, index := range indexes() {
			other := *m
			other.begin.index, other.answer.index = index, ^index
			other.meet(t)
			if other.first[6:] != m.first[6:] || other.second[10:] != m.second[10:] {
				t.Errorf("suite %d: index %d is sealed", suite, index)
			}
			told, _, e := wantHear(t, m.theirs, m.first[:2]+four(index)+m.first[6:])
			if told.Index != index || e != api.OK {
				t.Errorf("suite %d: index %d is heard as %d, %d", suite, index, told.Index, e)
			}
			second, _, _ := h.want(t, answer{m.answer.psk, m.answer.once, m.answer.best, index})
			if second[:10] != "\x02"+string(rune(suite))+four(index)+four(77) {
				t.Errorf("suite %d: index %d is answered as %x", suite, index, second[:10])
			}
		}
	}
}

// P27: a byte suite in the prologue, so nothing is the same by the other suite, and
// nothing of the one can be taken for the other's.
func TestSuitesDiffer(t *testing.T) {
	one, other := drawnMeeting(api.Blake, 2), drawnMeeting(api.Sha, 2)
	b, _ := one.meet(t)
	other.meet(t)
	if one.first[6:38] != other.first[6:38] || one.first[38:86] == other.first[38:86] || one.first[86:] == other.first[86:] || one.second[42:] == other.second[42:] {
		t.Error("sealed the same")
	}
	for _, m := range []*meeting{one, other} {
		wantHearError(t, m.theirs, with(m.first, 1, 3-int(m.first[1])), api.ErrSum)
	}
	b.wantError(t, other.second, api.ErrForm)
	b.wantError(t, with(other.second, 1, api.Blake), api.ErrSum)
}

// P29: all that was handed in is told, at the bounds of times, too.
func TestTold(t *testing.T) {
	for _, suite := range suites() {
		for i, when := range []api.Stamp{{}, {Nano: 1}, {Sec: 1}, {Sec: 1 << 40}, {Nano: 999999999}, {Sec: 1 << 40, Nano: 999999999}, {Sec: 258, Nano: 256}} {
			m := drawnMeeting(suite, i)
			m.begin.t, m.begin.best, m.begin.index = when, 1+i%2, uint32(i)<<30+3
			first, _, _ := m.begin.want(t)
			told, _, e := wantHear(t, m.theirs, first)
			right := api.Told{Suite: suite, Index: uint32(i)<<30 + 3, Static: pub(m.begin.c.Own), Stamp: when, Best: 1 + i%2}
			if told != right || e != api.OK {
				t.Errorf("told %x, %d; want %x", told, e, right)
			}
		}
	}
}

// P29 and P30: Answer begins where Hear has ended, each time, whatever was answered
// or refused in between, and Finish where Begin has ended.
func TestAgain(t *testing.T) {
	for _, suite := range suites() {
		m := drawnMeeting(suite, 3)
		b, h := m.meet(t)
		first, second := m.first, m.second
		for i := range 5 {
			other := drawnMeeting(suite, 4+i)
			other.answer.best, other.answer.index = 1+i%2, uint32(i)
			// With a psk that the other one hasn't.
			message, _, e := h.want(t, other.answer)
			if e != api.OK {
				t.Errorf("Answer %d: %d", i, e)
			}
			b.wantError(t, message, api.ErrSum)
			// And by the right one, but otherwise.
			other.answer.psk, other.begin = m.answer.psk, m.begin
			other.wantEnd(t, b, h)
			h.wantError(t, answer{m.answer.psk, "", 1, 1}, api.ErrArg)
			h.wantError(t, answer{m.answer.psk, m.answer.once, 3, 1}, api.ErrArg)
			b.wantError(t, second[:58], api.ErrShort)
			b.wantError(t, second+"\x00", api.ErrForm)
			b.wantError(t, turned(second, 50, 1), api.ErrSum)
			b.wantError(t, turned(second, 12, 1), api.ErrSum)
			b.wantError(t, second[:10]+sames("\x00")+second[42:], api.ErrZero)
			m.wantEnd(t, b, h)
			m.wantEnd(t, b, h)
			if m.first != first || m.second != second {
				t.Errorf("suite %d: %x and %x became %x and %x", suite, first, second, m.first, m.second)
			}
		}
	}
}

// P28 and P29: the same first message is made, and heard, again and again, each time
// by itself.
func TestBeginAgain(t *testing.T) {
	for _, suite := range suites() {
		m, again := drawnMeeting(suite, 4), drawnMeeting(suite, 4)
		b, h := m.meet(t)
		b2, h2 := again.meet(t)
		if m.first != again.first || m.second != again.second {
			t.Error("not the same")
		}
		if b.Begun == b2.Begun || h.Heard == h2.Heard {
			t.Error("the same thing once more")
		}
		m.wantEnd(t, b2, h)
		m.wantEnd(t, b, h2)
	}
}

// P29 and P30: two meetings of the same two that are under way at once, with each
// other's messages in between.
func TestAtOnce(t *testing.T) {
	for _, suite := range suites() {
		one, other := drawnMeeting(suite, 5), drawnMeeting(suite, 5)
		other.begin.once, other.begin.index = squares(3), 78
		other.answer.once, other.answer.index = squares(4), 89
		one.first, other.first = "", ""
		first, b, _ := one.begin.want(t)
		second, b2, _ := other.begin.want(t)
		_, h2, _ := wantHear(t, other.theirs, second)
		_, h, _ := wantHear(t, one.theirs, first)
		mine, _, _ := h.want(t, one.answer)
		its, _, _ := h2.want(t, other.answer)
		b.wantError(t, its, api.ErrForm)
		b2.wantError(t, mine, api.ErrForm)
		// Nothing seals the index, but the keys are others.
		b.wantError(t, its[:6]+four(77)+its[10:], api.ErrSum)
		b2.wantError(t, mine[:6]+four(78)+mine[10:], api.ErrSum)
		other.wantEnd(t, b2, h2)
		one.wantEnd(t, b, h)
		if one.second != mine || other.second != its {
			t.Error("answered otherwise")
		}
	}
}

// P30: two that are begun with one index, once by the same key, once by another one,
// and once at another time.
func TestSameIndex(t *testing.T) {
	for _, suite := range suites() {
		m := drawnMeeting(suite, 6)
		m.meet(t)
		for i := range 3 {
			other := drawnMeeting(suite, 6)
			switch i {
			case 0:
				other.begin.once = squares(5)
			case 1:
				other.begin.t.Nano++
			case 2:
				other.begin.best = 1
			}
			b, _ := other.meet(t)
			b.wantError(t, m.second, api.ErrSum)
		}
	}
}

// P29 and P30: the other one begins, by the same keys.
func TestBothWays(t *testing.T) {
	for _, suite := range suites() {
		m := drawnMeeting(suite, 7)
		b, _ := m.meet(t)
		back := drawnMeeting(suite, 7)
		back.theirs, back.begin.c.Own, back.begin.c.Peer = m.begin.c.Own, m.theirs, pub(m.begin.c.Own)
		b2, _ := back.meet(t)
		b.wantError(t, back.second, api.ErrSum)
		b2.wantError(t, m.second, api.ErrSum)
		wantHearError(t, m.begin.c.Own, m.first, api.ErrSum)
		wantHearError(t, m.theirs, back.first, api.ErrSum)
	}
}

// P27: keys are clamped by whoever uses them, so that one that isn't is the same as
// one that is.
func TestUnclamped(t *testing.T) {
	for _, suite := range suites() {
		m := drawnMeeting(suite, 8)
		m.begin.c.Own, m.begin.once = sames("\xff"), sames("\x07")
		m.theirs, m.answer.once = turned(sames("\x00"), 0, 7), turned(sames("\xff"), 31, 0x40)
		m.begin.c.Peer = pub(m.theirs)
		m.meet(t)
		for i := range 5 {
			other := *m
			for j, key := range []*string{&other.begin.c.Own, &other.begin.once, &other.theirs, &other.answer.once} {
				if i == j || i == 4 {
					clamped, _ := curve.Clamp(*key)
					if clamped == *key {
						t.Fatalf("%x is clamped", *key)
					}
					*key = clamped
				}
			}
			other.meet(t)
			if other.first != m.first || other.second != m.second {
				t.Errorf("suite %d: key %d is another one", suite, i)
			}
		}
		m.theirs = turned(m.theirs, 1, 1)
		wantHearError(t, m.theirs, m.first, api.ErrSum)
	}
}

// P27: keys that are one's own: who meets oneself, and who has but one key for all.
func TestOneself(t *testing.T) {
	for _, suite := range suites() {
		for i := range 5 {
			m := drawnMeeting(suite, 9+i)
			if i > 0 {
				m.theirs = m.begin.c.Own
			}
			if i > 1 {
				m.begin.once = m.begin.c.Own
			}
			if i > 2 {
				m.answer.once = m.theirs
			}
			if i > 3 {
				m.answer.psk = pub(m.theirs)
				m.begin.c.Psk = m.answer.psk
			}
			m.begin.c.Peer = pub(m.theirs)
			m.meet(t)
		}
		m := drawnMeeting(suite, 9)
		m.answer.once = m.begin.once
		m.meet(t)
	}
}

// P27: keys of noughts alone, and of bytes 255, but for those whose secret is nought.
func TestOddKeys(t *testing.T) {
	for _, suite := range suites() {
		for i := range 5 {
			m := drawnMeeting(suite, 14)
			for j, key := range []*string{&m.begin.c.Own, &m.begin.c.Psk, &m.begin.once, &m.theirs, &m.answer.once} {
				*key = sames([]string{"\x00", "\xff"}[(1<<i|i)>>j&1])
			}
			m.answer.psk, m.begin.c.Peer = m.begin.c.Psk, pub(m.theirs)
			m.meet(t)
		}
	}
}

// P28: what is mixed of Peer are its bytes, so one whose highest bit is 1 is nobody's,
// though the secret is the same.
func TestHighPeer(t *testing.T) {
	for _, suite := range suites() {
		m := drawnMeeting(suite, 15)
		m.meet(t)
		high := m.begin
		high.c.Peer = turned(high.c.Peer, 31, 0x80)
		first, _, e := high.want(t)
		if e != api.OK || first[:38] != m.first[:38] || first == m.first {
			t.Errorf("suite %d: %x, %d", suite, first, e)
		}
		wantHearError(t, m.theirs, first, api.ErrSum)
	}
}

// forged answers a first message as somebody may send it who seals otherwise.
func (m *meeting) forged(e, static, text string) string {
	suite := m.begin.c.Suite
	_, p := mixFirst(suite, m.begin.c.Own, m.begin.c.Peer, m.begin.once, e, static, text)
	return "\x01" + string(rune(suite)) + four(m.begin.index) + p.all()
}

// forgedSecond does so for a second one.
func (m *meeting) forgedSecond(e, text string) string {
	_, s, _ := m.begin.said()
	c := s.mixSecond(m.answer.psk, m.answer.once, e, pub(m.begin.once), pub(m.begin.c.Own), text)
	return "\x02" + string(rune(m.begin.c.Suite)) + four(m.answer.index) + four(m.begin.index) + e + c
}

// rightly is what B seals if nothing is wrong.
func (m *meeting) rightly() string {
	when, _ := stamp.Write(m.begin.t)
	return when + string(rune(m.begin.best))
}

// P29 and P30: of an E and a Static whose highest bit is 1 the bytes are mixed, and
// told, as they come.
func TestHighPoints(t *testing.T) {
	for _, suite := range suites() {
		m := drawnMeeting(suite, 16)
		b, _ := m.meet(t)
		e, static := turned(pub(m.begin.once), 31, 0x80), turned(pub(m.begin.c.Own), 31, 0x80)
		for i, first := range []string{m.forged(e, pub(m.begin.c.Own), m.rightly()), m.forged(pub(m.begin.once), static, m.rightly()), m.forged(e, static, m.rightly())} {
			told, h, err := wantHear(t, m.theirs, first)
			if right := []string{pub(m.begin.c.Own), static, static}[i]; told.Static != right || err != api.OK {
				t.Errorf("suite %d: told %x, %d; want %x", suite, told.Static, err, right)
			}
			if second, _, err := h.want(t, m.answer); err != api.OK || second[:42] != m.second[:42] || second == m.second {
				t.Errorf("suite %d: answered %x, %d", suite, second, err)
			}
		}
		second := m.forgedSecond(turned(pub(m.answer.once), 31, 0x80), "\x02")
		if got := b.want(t, second); got.best != 2 || got.e != api.OK {
			t.Errorf("suite %d: finished %x", suite, got)
		}
	}
}

// P29 and P30, the edges: first messages of 114 bytes and fewer, of 116 and more, and
// second ones of 58 and 60; what stands in them counts no more.
func TestSizes(t *testing.T) {
	for _, suite := range suites() {
		m := drawnMeeting(suite, 17)
		b, h := m.meet(t)
		for n := range firstLong {
			wantHearError(t, m.theirs, m.first[:n], api.ErrShort)
			wantHearError(t, m.theirs, m.first[firstLong-n:], api.ErrShort)
			wantHearError(t, m.theirs, strings.Repeat("\x00", n), api.ErrShort)
			wantHearError(t, m.theirs, strings.Repeat("\xff", n), api.ErrShort)
		}
		for n := range secondLong {
			b.wantError(t, m.second[:n], api.ErrShort)
			b.wantError(t, m.second[secondLong-n:], api.ErrShort)
			b.wantError(t, m.first[:n], api.ErrShort)
			b.wantError(t, strings.Repeat("\x00", n), api.ErrShort)
		}
		for _, n := range []int{1, 2, 15, 16, 100, 256, 2000, 65536, 65536 + firstLong, 70000} {
			for _, more := range []string{strings.Repeat("\x00", n), strings.Repeat("\x01", n), strings.Repeat("\xff", n)} {
				wantHearError(t, m.theirs, m.first+more, api.ErrForm)
				wantHearError(t, m.theirs, more+m.first, api.ErrForm)
				b.wantError(t, m.second+more, api.ErrForm)
				b.wantError(t, more+m.second, api.ErrForm)
			}
		}
		wantHearError(t, m.theirs, m.second, api.ErrShort)
		wantHearError(t, m.theirs, m.first+m.second, api.ErrForm)
		b.wantError(t, m.first, api.ErrForm)
		b.wantError(t, m.second+m.second, api.ErrForm)
		m.wantEnd(t, b, h)
	}
}

// lengths are none of a key's.
func lengths() []int { return []int{0, 1, 15, 16, 30, 31, 33, 34, 63, 64, 65, 255, 256, 288, 2000} }

// longer answers key in so many bytes.
func longer(key string, n int) string { return strings.Repeat(key, n/len(key)+1)[:n] }

// P28 and P29, the edges: keys of 31 and 33 bytes, of none and of many, each by
// itself.
func TestKeyLengths(t *testing.T) {
	for _, suite := range suites() {
		m := drawnMeeting(suite, 18)
		b, h := m.meet(t)
		for _, n := range lengths() {
			for i := range 4 {
				wrong := m.begin
				key := []*string{&wrong.c.Own, &wrong.c.Peer, &wrong.c.Psk, &wrong.once}[i]
				*key = longer(*key, n)
				wrong.wantError(t, api.ErrArg)
			}
			wantHearError(t, longer(m.theirs, n), m.first, api.ErrArg)
			h.wantError(t, answer{longer(m.answer.psk, n), m.answer.once, 1, 88}, api.ErrArg)
			h.wantError(t, answer{m.answer.psk, longer(m.answer.once, n), 1, 88}, api.ErrArg)
			h.wantError(t, answer{longer(m.answer.psk, n), longer(m.answer.once, 64-n%64), 1, 88}, api.ErrArg)
		}
		m.wantEnd(t, b, h)
	}
}

// neither are none of 1 and 2; some of them are in fewer bits.
func neither() []int {
	return []int{0, 3, -1, -2, 4, 5, 100, 127, 128, 129, 130, 255, 256, 257, 258, -255, -254, 1<<16 + 1, 1<<16 + 2, 1<<31 - 1, 1 << 31, -1 << 31, 1<<32 + 1, 1<<32 + 2,
		-1<<32 + 1, -1<<32 + 2, 1<<40 + 2, math.MaxInt, math.MinInt, math.MaxInt - 1, math.MinInt + 1, math.MinInt + 2}
}

// P28 and P29, the edges: a Suite, and a best, that is none of the two.
func TestNeither(t *testing.T) {
	for _, suite := range suites() {
		m := drawnMeeting(suite, 19)
		b, h := m.meet(t)
		for _, n := range neither() {
			wrong := m.begin
			wrong.best = n
			wrong.wantError(t, api.ErrArg)
			wrong = m.begin
			wrong.c.Suite = n
			wrong.wantError(t, api.ErrArg)
			h.wantError(t, answer{m.answer.psk, m.answer.once, n, 88}, api.ErrArg)
		}
		m.wantEnd(t, b, h)
	}
}

// P28, the edges: times one beyond their bounds, and far beyond.
func TestStamps(t *testing.T) {
	for _, suite := range suites() {
		m := drawnMeeting(suite, 20)
		for _, sec := range []int{-1, 1<<40 + 1, 1 << 41, 1 << 62, -1 << 62, math.MaxInt, math.MinInt} {
			for _, nano := range []int{0, 7, 999999999} {
				wrong := m.begin
				wrong.t = api.Stamp{Sec: sec, Nano: nano}
				wrong.wantError(t, api.ErrArg)
			}
		}
		for _, nano := range []int{-1, 1000000000, 1 << 32, 1<<32 + 7, -1 << 32, math.MaxInt, math.MinInt} {
			for _, sec := range []int{0, 258, 1 << 40, -1} {
				wrong := m.begin
				wrong.t = api.Stamp{Sec: sec, Nano: nano}
				wrong.wantError(t, api.ErrArg)
			}
		}
		for _, right := range []api.Stamp{{}, {Sec: 1 << 40}, {Nano: 999999999}, {Sec: 1 << 40, Nano: 999999999}} {
			m.begin.t = right
			if _, _, e := m.begin.want(t); e != api.OK {
				t.Errorf("Begin at %d: %d", right, e)
			}
		}
	}
}

// noughts are public keys of which each secret is nought.
func noughts() []string {
	var list []string
	for _, h := range []string{
		"0000000000000000000000000000000000000000000000000000000000000000",
		"0100000000000000000000000000000000000000000000000000000000000000",
		"e0eb7a7c3b41b8ae1656e3faf19fc46ada098deb9c32b1fd866205165f49b800",
		"5f9c95bca3508c24b1d0b1559c83ef5b04445cc4581c8e86d8224eddd09f1157",
		"ecffffffffffffffffffffffffffffffffffffffffffffffffffffffffffff7f",
		"edffffffffffffffffffffffffffffffffffffffffffffffffffffffffffff7f",
		"eeffffffffffffffffffffffffffffffffffffffffffffffffffffffffffff7f",
	} {
		key, _ := hex.DecodeString(h)
		list = append(list, string(key), turned(string(key), 31, 0x80))
	}
	return list
}

// P28, the edges: a Peer whose secrets are nought.
func TestZeroPeer(t *testing.T) {
	for _, suite := range suites() {
		m := drawnMeeting(suite, 21)
		for _, nought := range noughts() {
			m.begin.c.Peer = nought
			m.begin.wantError(t, api.ErrZero)
		}
	}
}

// P29, the edges: an E, and a Static that was rightly sealed, whose secrets are
// nought.
func TestZeroFirst(t *testing.T) {
	for _, suite := range suites() {
		m := drawnMeeting(suite, 22)
		b, h := m.meet(t)
		for _, nought := range noughts() {
			wantHearError(t, m.theirs, m.first[:6]+nought+m.first[38:], api.ErrZero)
			wantHearError(t, m.theirs, m.forged(pub(m.begin.once), nought, m.rightly()), api.ErrZero)
		}
		m.wantEnd(t, b, h)
	}
}

// P30, the edges: an E whose secrets are nought.
func TestZeroSecond(t *testing.T) {
	for _, suite := range suites() {
		m := drawnMeeting(suite, 23)
		b, h := m.meet(t)
		for _, nought := range noughts() {
			b.wantError(t, m.second[:10]+nought+m.second[42:], api.ErrZero)
			b.wantError(t, m.forgedSecond(nought, "\x01"), api.ErrZero)
		}
		m.wantEnd(t, b, h)
	}
}

// P29, the edges: the same in Answer. Whose secret is nought with one key, that is so
// with each, so Hear has said it already, and what it keeps is set here.
func TestZeroAnswer(t *testing.T) {
	for _, suite := range suites() {
		m := drawnMeeting(suite, 24)
		_, h := m.meet(t)
		for _, nought := range noughts() {
			for i := range 3 {
				zero := *h.Heard
				if i != 0 {
					zero.once = nought
				}
				if i != 1 {
					zero.static = nought
				}
				before := zero
				second, keys, e := zero.Answer(m.answer.psk, m.answer.once, m.answer.best, m.answer.index)
				if second != "" || keys != (api.Keys{}) || e != api.ErrZero || zero != before {
					t.Errorf("Answer to %x = %x, %x, %d", nought, second, keys, e)
				}
				if _, _, e := zero.Answer(m.answer.psk, m.answer.once, 3, m.answer.index); e != api.ErrArg {
					t.Errorf("Answer to %x with a best of 3: %d", nought, e)
				}
			}
		}
	}
}

// P29, wrong inputs: each first byte that isn't 1, and each second one that is none of
// the two.
func TestFirstKinds(t *testing.T) {
	for _, suite := range suites() {
		m := drawnMeeting(suite, 25)
		m.meet(t)
		for n := range 256 {
			if n != 1 {
				wantHearError(t, m.theirs, with(m.first, 0, n), api.ErrForm)
			}
			if n != 1 && n != 2 {
				wantHearError(t, m.theirs, with(m.first, 1, n), api.ErrForm)
			}
		}
		wantHearError(t, m.theirs, with(with(m.first, 0, 2), 1, 3), api.ErrForm)
	}
}

// P30, wrong inputs: each first byte that isn't 2, each second one that isn't Suite,
// and each bit of the second index.
func TestSecondKinds(t *testing.T) {
	for _, suite := range suites() {
		for _, index := range indexes()[:4] {
			m := drawnMeeting(suite, 26)
			m.begin.index, m.answer.index = index, ^index
			b, h := m.meet(t)
			for n := range 256 {
				if n != 2 {
					b.wantError(t, with(m.second, 0, n), api.ErrForm)
				}
				if n != suite {
					b.wantError(t, with(m.second, 1, n), api.ErrForm)
				}
			}
			for bit := range 32 {
				b.wantError(t, turned(m.second, 6+bit/8, 1<<(bit%8)), api.ErrForm)
			}
			b.wantError(t, m.second[:2]+m.second[6:10]+m.second[2:6]+m.second[10:], api.ErrForm)
			m.wantEnd(t, b, h)
		}
	}
}

// P30: the first index is what it is, since nothing seals it.
func TestFirstIndex(t *testing.T) {
	for _, suite := range suites() {
		m := drawnMeeting(suite, 27)
		b, _ := m.meet(t)
		for _, index := range indexes() {
			if got := b.want(t, m.second[:2]+four(index)+m.second[6:]); got.index != index || got.best != 1 || got.e != api.OK {
				t.Errorf("index %d is finished as %x", index, got)
			}
		}
	}
}

// P29 and P30, wrong inputs: each byte of E, A, B and C turned.
func TestTurned(t *testing.T) {
	for _, suite := range suites() {
		m := drawnMeeting(suite, 28)
		b, h := m.meet(t)
		for i := 6; i < firstLong; i++ {
			wantHearError(t, m.theirs, turned(m.first, i, []byte{1 << (i % 8), 0xff}[i%2]), api.ErrSum)
		}
		wantHearError(t, m.theirs, turned(m.first, 37, 0x80), api.ErrSum)
		for i := 10; i < secondLong; i++ {
			b.wantError(t, turned(m.second, i, []byte{0xff, 1 << (i % 8)}[i%2]), api.ErrSum)
		}
		b.wantError(t, turned(m.second, 41, 0x80), api.ErrSum)
		m.wantEnd(t, b, h)
	}
}

// P29 and P30, wrong inputs: parts of one message in another one.
func TestParts(t *testing.T) {
	for _, suite := range suites() {
		m, other := drawnMeeting(suite, 29), drawnMeeting(suite, 29)
		other.begin.once, other.answer.once, other.begin.t.Sec = squares(6), squares(7), 259
		b, _ := m.meet(t)
		other.meet(t)
		for _, bounds := range [][2]int{{6, 38}, {38, 86}, {86, 115}, {6, 86}, {38, 115}} {
			mixed := m.first[:bounds[0]] + other.first[bounds[0]:bounds[1]] + m.first[bounds[1]:]
			wantHearError(t, m.theirs, mixed, api.ErrSum)
		}
		b.wantError(t, m.second[:42]+other.second[42:], api.ErrSum)
		b.wantError(t, other.second[:42]+m.second[42:], api.ErrSum)
		// All of another one's but the index is that one's.
		told, _, e := wantHear(t, m.theirs, m.first[:6]+other.first[6:])
		if told.Stamp.Sec != 259 || e != api.OK {
			t.Errorf("told %x, %d", told, e)
		}
	}
}

// P29, wrong inputs: a first message for somebody else, and for oneself.
func TestSomebodyElse(t *testing.T) {
	for _, suite := range suites() {
		m := drawnMeeting(suite, 30)
		m.meet(t)
		for _, key := range []string{m.begin.c.Own, m.begin.once, m.answer.once, m.begin.c.Psk, m.begin.c.Peer, pub(m.begin.c.Own), sames("\x00"), turned(m.theirs, 0, 8), turned(m.theirs, 31, 0x20)} {
			wantHearError(t, key, m.first, api.ErrSum)
		}
	}
}

// P29 and P30, wrong inputs: a second message that was made by another psk, on either
// side.
func TestOtherPsk(t *testing.T) {
	for _, suite := range suites() {
		m := drawnMeeting(suite, 31)
		b, h := m.meet(t)
		for bit := 0; bit < 256; bit += 37 {
			psk := turned(m.answer.psk, bit/8, 1<<(bit%8))
			second, _, e := h.want(t, answer{psk, m.answer.once, 1, 88})
			if e != api.OK || second[:42] != m.second[:42] {
				t.Errorf("Answer by another psk: %x, %d", second, e)
			}
			b.wantError(t, second, api.ErrSum)
			its := m.begin
			its.c.Psk = psk
			first, b2, _ := its.want(t)
			if first != m.first {
				t.Error("the psk is mixed into the first message")
			}
			b2.wantError(t, m.second, api.ErrSum)
			if got := b2.want(t, second); got.e != api.OK {
				t.Errorf("by both: %x", got)
			}
		}
		m.wantEnd(t, b, h)
	}
}

// P29, wrong inputs: what was rightly sealed, but is no time, or no best.
func TestWronglySaid(t *testing.T) {
	for _, suite := range suites() {
		m := drawnMeeting(suite, 32)
		e, static := pub(m.begin.once), pub(m.begin.c.Own)
		when := m.rightly()[:12]
		hear := func(text string, right api.Errno) {
			t.Helper()
			wantHearError(t, m.theirs, m.forged(e, static, text), right)
		}
		hear(m.rightly(), api.OK)
		hear(when+"\x01", api.OK)
		for _, best := range []string{"\x00", "\x03", "\x04", "\x80", "\x81", "\x82", "\xff"} {
			hear(when+best, api.ErrForm)
		}
		for _, wrong := range []string{
			strings.Repeat("\x00", 12),
			strings.Repeat("\xff", 12),
			"\x40\x00\x01\x00\x00\x00\x00\x00\x3b\x9a\xca\x00",
			"\x40\x00\x01\x00\x00\x00\x00\x01\x00\x00\x00\x00",
			"\x3f\xff\xff\xff\xff\xff\xff\xff\x00\x00\x00\x00",
			"\xc0\x00\x00\x00\x00\x00\x00\x00\x00\x00\x00\x00",
			"\x00\x00\x00\x00\x00\x00\x01\x02\x00\x00\x00\x07",
			turned(when, 0, 0x40),
		} {
			hear(wrong+"\x01", api.ErrForm)
			hear(wrong+"\x02", api.ErrForm)
			hear(wrong+"\x03", api.ErrForm)
		}
		hear("\x40\x00\x01\x00\x00\x00\x00\x00\x3b\x9a\xc9\xff\x02", api.OK)
	}
}

// P30, wrong inputs: what was rightly sealed, but is no best.
func TestWronglyAnswered(t *testing.T) {
	for _, suite := range suites() {
		m := drawnMeeting(suite, 33)
		b, h := m.meet(t)
		e := pub(m.answer.once)
		for _, best := range []string{"\x00", "\x03", "\x04", "\x80", "\x81", "\x82", "\xff"} {
			b.wantError(t, m.forgedSecond(e, best), api.ErrForm)
		}
		for best := 1; best <= 2; best++ {
			if got := b.want(t, m.forgedSecond(e, string(rune(best)))); got.best != best || got.e != api.OK {
				t.Errorf("suite %d: best %d is finished as %x", suite, best, got)
			}
		}
		m.wantEnd(t, b, h)
	}
}

// P28, wrong inputs: of several at once the one that is told first is the answer.
func TestSeveralWrongBegin(t *testing.T) {
	nought := sames("\x00")
	for _, suite := range suites() {
		for i := range 6 {
			wrong := drawnMeeting(suite, 34).begin
			wrong.c.Peer = nought
			switch i {
			case 0:
				wrong.c.Suite = 3
			case 1:
				wrong.c.Own = wrong.c.Own[:31]
			case 2:
				wrong.c.Psk += "\x00"
			case 3:
				wrong.once = ""
			case 4:
				wrong.best = 0
			case 5:
				wrong.t.Nano = -1
			}
			wrong.wantError(t, api.ErrArg)
		}
	}
	begin{c: api.Config{Suite: -1}, best: 7, t: api.Stamp{Sec: -1}}.wantError(t, api.ErrArg)
}

// P29, wrong inputs: likewise in Hear.
func TestSeveralWrongHear(t *testing.T) {
	nought := sames("\x00")
	for _, suite := range suites() {
		m := drawnMeeting(suite, 35)
		m.meet(t)
		first := m.first
		wantHearError(t, "", "", api.ErrArg)
		wantHearError(t, m.theirs[1:], first[:114], api.ErrArg)
		wantHearError(t, m.theirs+"\x00", with(first, 0, 2), api.ErrArg)
		wantHearError(t, m.theirs[1:], first[:6]+nought+first[38:], api.ErrArg)
		wantHearError(t, m.theirs[1:], turned(first, 50, 1), api.ErrArg)
		wantHearError(t, m.theirs, with(first, 0, 2)[:114], api.ErrShort)
		wantHearError(t, m.theirs, with(first, 1, 3)[:2], api.ErrShort)
		wantHearError(t, m.theirs, first[:6]+nought+first[38:114], api.ErrShort)
		// E counts only where the message is formed rightly.
		for _, wrong := range []string{with(first, 0, 2), with(first, 1, 0), first + "\x00"} {
			wantHearError(t, m.theirs, wrong[:6]+nought+wrong[38:], api.ErrForm)
			wantHearError(t, m.theirs, turned(wrong, 50, 1), api.ErrForm)
		}
		// A counts only behind E, Static behind A, and B behind Static.
		zero := m.forged(pub(m.begin.once), nought, "no time, none")
		wantHearError(t, m.theirs, turned(first[:6]+nought+first[38:], 50, 1), api.ErrZero)
		wantHearError(t, m.theirs, turned(first[:6]+nought+first[38:], 100, 1), api.ErrZero)
		wantHearError(t, m.theirs, zero, api.ErrZero)
		wantHearError(t, m.theirs, turned(zero, 100, 1), api.ErrZero)
		wantHearError(t, m.theirs, turned(zero, 50, 1), api.ErrSum)
		// What B says counts only if nothing was turned.
		wrong := m.forged(pub(m.begin.once), pub(m.begin.c.Own), "no time, none")
		wantHearError(t, m.theirs, wrong, api.ErrForm)
		wantHearError(t, m.theirs, turned(wrong, 100, 1), api.ErrSum)
		wantHearError(t, m.theirs, turned(wrong, 50, 1), api.ErrSum)
		wantHearError(t, m.begin.c.Own, wrong, api.ErrSum)
	}
}

// P29, wrong inputs: likewise in Answer.
func TestSeveralWrongAnswer(t *testing.T) {
	for _, suite := range suites() {
		m := drawnMeeting(suite, 36)
		_, h := m.meet(t)
		h.wantError(t, answer{"", "", 0, 0}, api.ErrArg)
		h.wantError(t, answer{m.answer.psk, "", 3, 1}, api.ErrArg)
		h.wantError(t, answer{"", m.answer.once, -1, 1}, api.ErrArg)
	}
}

// P30, wrong inputs: likewise in Finish.
func TestSeveralWrongFinish(t *testing.T) {
	nought := sames("\x00")
	for _, suite := range suites() {
		m := drawnMeeting(suite, 37)
		b, h := m.meet(t)
		second := m.second
		zero := second[:10] + nought + second[42:]
		b.wantError(t, with(second, 0, 1)[:58], api.ErrShort)
		b.wantError(t, with(second, 1, 3)[:58], api.ErrShort)
		b.wantError(t, turned(second, 6, 1)[:10], api.ErrShort)
		b.wantError(t, zero[:58], api.ErrShort)
		for _, wrong := range []string{zero, turned(second, 50, 1), m.forgedSecond(pub(m.answer.once), "\x03")} {
			b.wantError(t, wrong+"\x00", api.ErrForm)
			b.wantError(t, with(wrong, 0, 1), api.ErrForm)
			b.wantError(t, with(wrong, 1, 3-suite), api.ErrForm)
			b.wantError(t, turned(wrong, 9, 1), api.ErrForm)
		}
		b.wantError(t, turned(zero, 50, 1), api.ErrZero)
		b.wantError(t, turned(m.forgedSecond(pub(m.answer.once), "\x03"), 50, 1), api.ErrSum)
		m.wantEnd(t, b, h)
	}
}

// shares says whether two texts have a byte of memory in common.
func shares(a, b string) bool {
	if len(a) == 0 || len(b) == 0 {
		return false
	}
	p, q := uintptr(unsafe.Pointer(unsafe.StringData(a))), uintptr(unsafe.Pointer(unsafe.StringData(b)))
	return p < q+uintptr(len(b)) && q < p+uintptr(len(a))
}

// lender lends texts that lie in its bytes, and change as they do.
type lender struct{ all []byte }

func newLender() *lender { return &lender{make([]byte, 0, 10000)} }

// lend answers s as one of them; behind it there is room.
func (l *lender) lend(s string) string {
	at := len(l.all)
	l.all = append(append(l.all, s...), "room behind"...)
	return unsafe.String(&l.all[at], len(s))
}

// P2: what is handed in is not changed, and neither an answer nor what is kept lies in
// it, or in another answer.
func TestNothingShared(t *testing.T) {
	for _, suite := range suites() {
		m := drawnMeeting(suite, 38)
		m.meet(t)
		l := newLender()
		c := api.Config{Suite: suite, Own: l.lend(m.begin.c.Own), Peer: l.lend(m.begin.c.Peer), Psk: l.lend(m.begin.c.Psk)}
		once, theirs, psk, second := l.lend(m.begin.once), l.lend(m.theirs), l.lend(m.answer.psk), l.lend(m.answer.once)
		hears, ends := l.lend(m.first), l.lend(m.second)
		before := string(l.all)
		first, b, e := Begin(c, once, m.begin.t, m.begin.best, m.begin.index)
		told, h, err := Hear(theirs, hears)
		if e != api.OK || err != api.OK {
			t.Fatal(e, err)
		}
		message, keys, e := h.Answer(psk, second, m.answer.best, m.answer.index)
		again, others, err := h.Answer(psk, second, m.answer.best, m.answer.index)
		if e != api.OK || err != api.OK {
			t.Fatal(e, err)
		}
		end, _, _, e := b.Finish(ends)
		last, _, _, err := b.Finish(ends)
		if e != api.OK || err != api.OK {
			t.Fatal(e, err)
		}
		if string(l.all) != before {
			t.Errorf("%x became %x", before, l.all)
		}
		answers := []string{first, told.Static, message, keys.Send, keys.Recv, again, others.Send, others.Recv, end.Send, end.Recv, last.Send, last.Recv}
		kept := []string{b.own, b.once, b.psk, h.once, h.static}
		wantApart(t, answers, append(kept, unsafe.String(&l.all[0], len(l.all))))
		wantApart(t, kept, []string{unsafe.String(&l.all[0], len(l.all))})
	}
}

// wantApart holds that no text of list lies in another one, or in one of others.
func wantApart(t *testing.T, list, others []string) {
	t.Helper()
	for i, s := range list {
		if slices.ContainsFunc(list[i+1:], func(other string) bool { return shares(s, other) }) {
			t.Errorf("%x lies in another one", s)
		}
		if slices.ContainsFunc(others, func(other string) bool { return shares(s, other) }) {
			t.Errorf("%x lies in what was handed in, or is kept", s)
		}
	}
}

// P2: what was begun, and heard, stays so where bytes that were handed in change later
// on; and so does what was told, where it changes, too.
func TestNotKept(t *testing.T) {
	for _, suite := range suites() {
		m := drawnMeeting(suite, 39)
		m.meet(t)
		l := newLender()
		c := api.Config{Suite: suite, Own: l.lend(m.begin.c.Own), Peer: l.lend(m.begin.c.Peer), Psk: l.lend(m.begin.c.Psk)}
		first, b, _ := Begin(c, l.lend(m.begin.once), m.begin.t, m.begin.best, m.begin.index)
		told, h, _ := Hear(l.lend(m.theirs), l.lend(first))
		clear(l.all)
		if told != m.told() || first != m.first {
			t.Errorf("told %x; want %x", told, m.told())
		}
		second, keys, _ := h.Answer(l.lend(m.answer.psk), l.lend(m.answer.once), m.answer.best, m.answer.index)
		clear(l.all)
		end, best, index, _ := b.Finish(l.lend(second))
		clear(l.all)
		if second != m.second || end != (api.Keys{Send: keys.Recv, Recv: keys.Send}) || best != m.answer.best || index != m.answer.index {
			t.Errorf("%x, %x, %x, %d, %d", second, keys, end, best, index)
		}
		m.wantEnd(t, begunBoth{b, m.begin}, heardBoth{h, m.theirs, m.first})
	}
}

// P2: meetings have nothing to do with each other: in whatever order the same calls
// come, they answer the same.
func TestAnyOrder(t *testing.T) {
	var calls []func() any
	for _, suite := range suites() {
		for i := range 2 {
			m := drawnMeeting(suite, 40+i)
			b, h := m.meet(t)
			calls = append(calls,
				func() any {
					first, _, e := Begin(m.begin.c, m.begin.once, m.begin.t, m.begin.best, m.begin.index)
					return [2]any{first, e}
				},
				func() any {
					told, _, e := Hear(m.theirs, m.first)
					return [2]any{told, e}
				},
				func() any {
					second, keys, e := h.Answer(m.answer.psk, m.answer.once, m.answer.best, m.answer.index)
					return [3]any{second, keys, e}
				},
				func() any {
					keys, best, index, e := b.Finish(m.second)
					return finished{keys, best, index, e}
				},
				func() any {
					keys, best, index, e := b.Finish(turned(m.second, 55, 1))
					return finished{keys, best, index, e}
				},
			)
		}
	}
	var right []any
	for _, call := range calls {
		right = append(right, call())
	}
	r := rand.New(rand.NewSource(18))
	for range 4 {
		for _, i := range r.Perm(len(calls)) {
			if got := calls[i](); got != right[i] {
				t.Errorf("call %d: %x; want %x", i, got, right[i])
			}
		}
	}
}

// P2: the same at the same time, by things that are each one's own.
func TestAnswersStay(t *testing.T) {
	old := drawnMeeting(api.Blake, 42)
	b, h := old.meet(t)
	var group sync.WaitGroup
	for i := range 12 {
		group.Go(func() {
			m := drawnMeeting(suites()[i%2], 43+i/4)
			first, b, _ := m.begin.want(t)
			_, h, _ := wantHear(t, m.theirs, first)
			for range 3 {
				second, _, _ := h.want(t, m.answer)
				if got := b.want(t, second); got.e != api.OK {
					t.Errorf("meeting %d: %x", i, got)
				}
			}
		})
	}
	group.Wait()
	old.wantEnd(t, b, h)
}

// P1: whatever comes, of all sizes, is answered as the chapter's words say.
func TestAnythingAnswers(t *testing.T) {
	r := rand.New(rand.NewSource(1))
	m := drawnMeeting(api.Blake, 46)
	b, h := m.meet(t)
	size := func(right int) int {
		return []int{right, right, right, r.Intn(right), right + 1 + r.Intn(100)}[r.Intn(5)]
	}
	for range 60 {
		its := begin{
			c:     api.Config{Suite: r.Intn(4), Own: chance(r, size(32)), Peer: chance(r, size(32)), Psk: chance(r, size(32))},
			once:  chance(r, size(32)),
			t:     api.Stamp{Sec: r.Intn(1<<40) - r.Intn(3), Nano: r.Intn(1000000002) - 1},
			best:  r.Intn(4),
			index: r.Uint32(),
		}
		its.want(t)
		text := chance(r, size(115))
		wantHear(t, chance(r, size(32)), text)
		wantHear(t, chance(r, 32), "\x01"+string(rune(1+r.Intn(2)))+chance(r, 113))
		h.want(t, answer{chance(r, size(32)), chance(r, size(32)), r.Intn(4), r.Uint32()})
		b.want(t, chance(r, size(59)))
		b.want(t, m.second[:10]+chance(r, 49))
	}
	m.wantEnd(t, b, h)
}

// short answers at most so many bytes of s.
func short(s string, most int) string { return s[:min(len(s), most)] }

// P27 to P30 and P1 for whatever comes: at first as it is, then with the keys made
// right; of either message the byte at is turned by by.
func FuzzAnything(f *testing.F) {
	m := drawnMeeting(api.Blake, 47)
	first, _, _ := m.begin.said()
	second, _, _ := m.answer.said(m.theirs, first)
	f.Add(1, m.begin.c.Own, m.theirs, m.begin.c.Psk, m.begin.once, m.answer.once, 258, 7, 2, 1, uint32(77), uint32(88), 0, byte(0), first, second)
	f.Add(2, sames("\x00"), sames("\xff"), sames("k"), sames("1"), sames("2"), 1<<40, 999999999, 1, 2, uint32(0), uint32(256), 40, byte(1), first[:114], second+"\x00")
	f.Add(3, "", "short", sames("k")+"\x00", sames("1")[1:], "", -1, 1000000000, 0, 3, uint32(1), uint32(1<<32-1), 12, byte(0x80), "", "")
	for _, n := range neither() {
		f.Add(n, sames("o"), sames("p"), sames("k"), sames("1"), sames("2"), n, n, n, n, uint32(n), uint32(n), n, byte(n), "\x01\x02", "\x02\x01")
	}
	f.Fuzz(func(t *testing.T, suite int, own, theirs, psk, once, answers string, sec, nano, best, its int, index, other uint32, at int, by byte, first, second string) {
		b := begin{api.Config{Suite: suite, Own: own, Peer: theirs, Psk: psk}, once, api.Stamp{Sec: sec, Nano: nano}, best, index}
		b.want(t)
		wantHear(t, own, first)
		right := func(key string) string { return longer(short(key, 32)+".", 32) }
		b.c = api.Config{Suite: 1 + suite&1, Own: right(own), Peer: pub(right(theirs)), Psk: right(psk)}
		b.once, b.t, b.best = right(once), api.Stamp{Sec: sec & (1<<40 - 1), Nano: nano & (1<<29 - 1)}, 1+best&1
		m := &meeting{begin: b, theirs: right(theirs), answer: answer{b.c.Psk, right(answers), 1 + its&1, other}}
		begun, heard := m.meet(t)
		heard.want(t, answer{psk, answers, its, other})
		begun.want(t, second)
		begun.want(t, turned(m.second, at&math.MaxInt%secondLong, by))
		wantHear(t, m.theirs, turned(m.first, at&math.MaxInt%firstLong, by))
		m.wantEnd(t, begun, heard)
	})
}
