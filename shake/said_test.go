package shake

import (
	"encoding/binary"
	"strings"
	"sync"
	"testing"

	"souterrain/api"
	"souterrain/curve"
	"souterrain/noise"
	"souterrain/stamp"
)

// The document's own numbers.
const (
	firstLong  = 115
	secondLong = 59
	keyLong    = 32
)

func suites() []int { return []int{api.Blake, api.Sha} }

// begin is what Begin is handed.
type begin struct {
	c     api.Config
	once  string
	t     api.Stamp
	best  int
	index uint32
}

// answer is what Answer is handed.
type answer struct {
	psk, once string
	best      int
	index     uint32
}

// said is a state into which P27's to P30's own words mix, by the calls of chapters
// 3, 14 and 17, each time from the first word on, and the error that came first.
type said struct {
	*noise.State
	e api.Errno
}

func say(suite int, peer string) *said {
	s, e := noise.New(suite, "souterrain"+string(rune(suite)))
	if e != api.OK {
		return &said{e: e}
	}
	s.MixHash(peer)
	return &said{s, api.OK}
}

func (s *said) first(e api.Errno) {
	if s.e == api.OK {
		s.e = e
	}
}

func (s *said) point(e string) {
	s.MixHash(e)
	s.MixKey(e)
}

func (s *said) secret(own, peer string) {
	secret, e := share(own, peer)
	s.first(e)
	s.MixKey(secret)
}

func (s *said) seal(text string) string {
	sealed, e := s.Seal(text)
	s.first(e)
	return sealed
}

func (s *said) open(sealed string) string {
	text, e := s.Open(sealed)
	s.first(e)
	return text
}

// answered is what curve answers, which takes its time: so it is asked once.
type answered struct {
	key string
	e   api.Errno
}

var shared, publics sync.Map

func share(own, peer string) (string, api.Errno) {
	if was, ok := shared.Load([2]string{own, peer}); ok {
		return was.(answered).key, was.(answered).e
	}
	key, e := curve.Share(own, peer)
	shared.Store([2]string{strings.Clone(own), strings.Clone(peer)}, answered{key, e})
	return key, e
}

func pub(own string) string {
	if was, ok := publics.Load(own); ok {
		return was.(string)
	}
	key, _ := curve.Public(own)
	publics.Store(strings.Clone(own), key)
	return key
}

func four(n uint32) string { return string(binary.LittleEndian.AppendUint32(nil, n)) }

// parts is a first message, and what stands in it.
type parts struct{ e, a, b string }

func cut(first string) parts { return parts{first[6:38], first[38:86], first[86:]} }

func (p parts) all() string { return p.e + p.a + p.b }

// mixFirst seals static and text as A and B, as somebody may whose keys are these.
func mixFirst(suite int, own, peer, once, e, static, text string) (*said, parts) {
	s := say(suite, peer)
	p := parts{e: e}
	s.point(e)
	s.secret(once, peer)
	p.a = s.seal(static)
	s.secret(own, peer)
	p.b = s.seal(text)
	return s, p
}

// mixSecond seals text as C.
func (s *said) mixSecond(psk, once, e, theirs, static, text string) string {
	s.point(e)
	s.secret(once, theirs)
	s.secret(once, static)
	s.MixBoth(psk)
	return s.seal(text)
}

func isLong(keys ...string) bool {
	for _, key := range keys {
		if len(key) != keyLong {
			return false
		}
	}
	return true
}

func isOneOrTwo(n int) bool { return n == 1 || n == 2 }

// said answers the first message, and the state behind it.
func (b begin) said() (string, *said, api.Errno) {
	when, wrong := stamp.Write(b.t)
	if !isOneOrTwo(b.c.Suite) || !isLong(b.c.Own, b.c.Peer, b.c.Psk, b.once) || !isOneOrTwo(b.best) || wrong != api.OK {
		return "", nil, api.ErrArg
	}
	s, p := mixFirst(b.c.Suite, b.c.Own, b.c.Peer, b.once, pub(b.once), pub(b.c.Own), when+string(rune(b.best)))
	if s.e != api.OK {
		return "", nil, s.e
	}
	return "\x01" + string(rune(b.c.Suite)) + four(b.index) + p.all(), s, api.OK
}

// saidHear answers what first tells, and the state behind it.
func saidHear(own, first string) (api.Told, *said, api.Errno) {
	none := api.Told{}
	switch {
	case !isLong(own):
		return none, nil, api.ErrArg
	case len(first) < firstLong:
		return none, nil, api.ErrShort
	case len(first) > firstLong, first[0] != 1, !isOneOrTwo(int(first[1])):
		return none, nil, api.ErrForm
	}
	p := cut(first)
	s := say(int(first[1]), pub(own))
	s.point(p.e)
	s.secret(own, p.e)
	if s.e != api.OK {
		return none, nil, s.e
	}
	static := s.open(p.a)
	if s.e != api.OK {
		return none, nil, s.e
	}
	s.secret(own, static)
	if s.e != api.OK {
		return none, nil, s.e
	}
	text := s.open(p.b)
	if s.e != api.OK {
		return none, nil, s.e
	}
	t, wrong := stamp.Read(text[:12])
	if wrong != api.OK || !isOneOrTwo(int(text[12])) {
		return none, nil, api.ErrForm
	}
	return api.Told{Suite: int(first[1]), Index: binary.LittleEndian.Uint32([]byte(first[2:6])), Static: static, Stamp: t, Best: int(text[12])}, s, api.OK
}

// said answers the second message and its Keys, from Hear of first on.
func (a answer) said(own, first string) (string, api.Keys, api.Errno) {
	if !isLong(a.psk, a.once) || !isOneOrTwo(a.best) {
		return "", api.Keys{}, api.ErrArg
	}
	told, s, e := saidHear(own, first)
	if e != api.OK {
		return "", api.Keys{}, e
	}
	c := s.mixSecond(a.psk, a.once, pub(a.once), cut(first).e, told.Static, string(rune(a.best)))
	if s.e != api.OK {
		return "", api.Keys{}, s.e
	}
	one, other := s.Split()
	return "\x02" + first[1:2] + four(a.index) + first[2:6] + pub(a.once) + c, api.Keys{Recv: one, Send: other}, api.OK
}

// finished is what Finish answers.
type finished struct {
	keys  api.Keys
	best  int
	index uint32
	e     api.Errno
}

// finish answers what Finish does, from Begin on.
func (b begin) finish(second string) finished {
	switch {
	case len(second) < secondLong:
		return finished{e: api.ErrShort}
	case len(second) > secondLong, second[0] != 2, int(second[1]) != b.c.Suite, second[6:10] != four(b.index):
		return finished{e: api.ErrForm}
	}
	_, s, e := b.said()
	if e != api.OK {
		return finished{e: e}
	}
	s.point(second[10:42])
	s.secret(b.once, second[10:42])
	s.secret(b.c.Own, second[10:42])
	if s.e != api.OK {
		return finished{e: s.e}
	}
	s.MixBoth(b.c.Psk)
	text := s.open(second[42:])
	if s.e != api.OK {
		return finished{e: s.e}
	}
	if !isOneOrTwo(int(text[0])) {
		return finished{e: api.ErrForm}
	}
	one, other := s.Split()
	return finished{api.Keys{Send: one, Recv: other}, int(text[0]), binary.LittleEndian.Uint32([]byte(second[2:6])), api.OK}
}

// begunBoth is a Begun, and what it was made of.
type begunBoth struct {
	*Begun
	was begin
}

// heardBoth is a Heard, and what it was made of.
type heardBoth struct {
	*Heard
	own, first string
}

// want holds Begin against the chapter's words, and answers what it answers.
func (b begin) want(t *testing.T) (string, begunBoth, api.Errno) {
	t.Helper()
	right, _, err := b.said()
	first, begun, e := Begin(b.c, b.once, b.t, b.best, b.index)
	if first != right || e != err || (begun != nil) != (e == api.OK) {
		t.Errorf("Begin of %x = %x, %p, %d; want %x, %d", b, first, begun, e, right, err)
	}
	return first, begunBoth{begun, b}, e
}

// wantHear does so for Hear.
func wantHear(t *testing.T, own, first string) (api.Told, heardBoth, api.Errno) {
	t.Helper()
	right, _, err := saidHear(own, first)
	told, heard, e := Hear(own, first)
	if told != right || e != err || (heard != nil) != (e == api.OK) {
		t.Errorf("Hear(%.100x, %.200x) = %x, %p, %d; want %x, %d", own, first, told, heard, e, right, err)
	}
	return told, heardBoth{heard, own, first}, e
}

// want does so for Answer, which leaves the Heard as it is.
func (h heardBoth) want(t *testing.T, a answer) (string, api.Keys, api.Errno) {
	t.Helper()
	right, are, err := a.said(h.own, h.first)
	before := *h.Heard
	second, keys, e := h.Answer(a.psk, a.once, a.best, a.index)
	if second != right || keys != are || e != err {
		t.Errorf("Answer of %x = %x, %x, %d; want %x, %x, %d", a, second, keys, e, right, are, err)
	}
	if *h.Heard != before {
		t.Errorf("Answer of %x changed what was heard", a)
	}
	return second, keys, e
}

// want does so for Finish, which leaves the Begun as it is.
func (b begunBoth) want(t *testing.T, second string) finished {
	t.Helper()
	right := b.was.finish(second)
	before := *b.Begun
	var got finished
	got.keys, got.best, got.index, got.e = b.Finish(second)
	if got != right {
		t.Errorf("Finish(%.200x) = %x; want %x", second, got, right)
	}
	if *b.Begun != before {
		t.Errorf("Finish(%.200x) changed what was begun", second)
	}
	return got
}

// wantError holds that Begin answers right beside nothing, as the chapter's words do.
func (b begin) wantError(t *testing.T, right api.Errno) {
	t.Helper()
	if _, _, e := b.want(t); e != right {
		t.Errorf("Begin of %.200x: %d; want %d", b, e, right)
	}
}

func wantHearError(t *testing.T, own, first string, right api.Errno) {
	t.Helper()
	if _, _, e := wantHear(t, own, first); e != right {
		t.Errorf("Hear(%.100x, %.200x): %d; want %d", own, first, e, right)
	}
}

func (h heardBoth) wantError(t *testing.T, a answer, right api.Errno) {
	t.Helper()
	if _, _, e := h.want(t, a); e != right {
		t.Errorf("Answer of %.200x: %d; want %d", a, e, right)
	}
}

func (b begunBoth) wantError(t *testing.T, second string, right api.Errno) {
	t.Helper()
	if got := b.want(t, second); got != (finished{e: right}) {
		t.Errorf("Finish(%.200x): %x; want %d", second, got, right)
	}
}

// meeting is what two have who meet: all but first and second is what was handed in.
type meeting struct {
	begin
	theirs string // the private key of who answers
	answer
	first, second string
}

// meet holds all of a meeting that is right against the chapter's words, and answers
// what either side has kept.
func (m *meeting) meet(t *testing.T) (begunBoth, heardBoth) {
	t.Helper()
	var b begunBoth
	var e api.Errno
	if m.first, b, e = m.begin.want(t); e != api.OK {
		t.Fatalf("Begin of %x: %d", m.begin, e)
	}
	told, h, e := wantHear(t, m.theirs, m.first)
	if e != api.OK || told != m.told() {
		t.Fatalf("Hear(%x, %x) = %x, %d; want %x", m.theirs, m.first, told, e, m.told())
	}
	m.wantEnd(t, b, h)
	return b, h
}

// told answers what who begins tells.
func (m *meeting) told() api.Told {
	return api.Told{Suite: m.begin.c.Suite, Index: m.begin.index, Static: pub(m.begin.c.Own), Stamp: m.begin.t, Best: m.begin.best}
}

// wantEnd holds that what was heard is answered, and what was begun is finished by
// that, and keeps the second message.
func (m *meeting) wantEnd(t *testing.T, b begunBoth, h heardBoth) {
	t.Helper()
	second, keys, e := h.want(t, m.answer)
	if e != api.OK {
		t.Fatalf("Answer of %x: %d", m.answer, e)
	}
	m.second = second
	right := finished{api.Keys{Send: keys.Recv, Recv: keys.Send}, m.answer.best, m.answer.index, api.OK}
	if got := b.want(t, second); got != right {
		t.Fatalf("Finish(%x) = %x; want %x", second, got, right)
	}
	if len(keys.Send) != keyLong || len(keys.Recv) != keyLong || keys.Send == keys.Recv {
		t.Errorf("keys %x", keys)
	}
}
