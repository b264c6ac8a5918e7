package noise

import (
	"encoding/binary"
	"testing"

	"souterrain/api"
	"souterrain/gcm"
	"souterrain/kdf"
	"souterrain/seal"
)

// The document's own numbers: package words holds api's against them.
const (
	mostText   = 2000
	mostSealed = 2016
	tag        = 16
)

func suites() []int { return []int{api.Blake, api.Sha} }

// said is a state in P25's and P26's own words, by the calls of chapters 7, 10
// and 13.
type said struct {
	suite            int
	hash, chain, key string
	is               bool // whether there is a KEY
	n                uint64
}

func say(suite int, prologue string) *said {
	start := saidSum(suite, "souterrain 1")
	if suite == api.Sha {
		start = saidSum(suite, "souterrain 2")
	}
	return &said{suite: suite, hash: saidSum(suite, start+prologue), chain: start}
}

func saidSum(suite int, s string) string {
	sum, _ := kdf.Sum(suite, s)
	return sum
}

func (s *said) derive(text string, n int) []string {
	keys, _ := kdf.Derive(s.suite, s.chain, text, n)
	return keys
}

func (s *said) mixHash(text string) { s.hash = saidSum(s.suite, s.hash+text) }

func (s *said) mixKey(text string) {
	two := s.derive(text, 2)
	s.chain, s.key = two[0], two[1]
	s.is, s.n = true, 0
}

func (s *said) mixBoth(text string) {
	three := s.derive(text, 3)
	s.chain, s.key = three[0], three[2]
	s.mixHash(three[1])
	s.is, s.n = true, 0
}

func (s *said) split() [2]string { return [2]string(s.derive("", 2)) }

func (s *said) nonce() string {
	four := []byte{0, 0, 0, 0}
	if s.suite == api.Blake {
		return string(binary.LittleEndian.AppendUint64(four, s.n))
	}
	return string(binary.BigEndian.AppendUint64(four, s.n))
}

func (s *said) seal(text string) (string, api.Errno) {
	if !s.is {
		return "", api.ErrState
	}
	if len(text) > mostText {
		return "", api.ErrLarge
	}
	var sealed string
	if s.suite == api.Blake {
		sealed, _ = seal.Seal(s.key, s.nonce(), s.hash, text)
	} else {
		sealed, _ = gcm.Seal(s.key, s.nonce(), s.hash, text)
	}
	s.mixHash(sealed)
	s.n++
	return sealed, api.OK
}

func (s *said) open(sealed string) (string, api.Errno) {
	if !s.is {
		return "", api.ErrState
	}
	if len(sealed) > mostSealed {
		return "", api.ErrLarge
	}
	if len(sealed) < tag {
		return "", api.ErrShort
	}
	text, e := gcm.Open(s.key, s.nonce(), s.hash, sealed)
	if s.suite == api.Blake {
		text, e = seal.Open(s.key, s.nonce(), s.hash, sealed)
	}
	if e != api.OK {
		return "", api.ErrSum
	}
	s.mixHash(sealed)
	s.n++
	return text, api.OK
}

// both is a State, and what the chapter says of it.
type both struct {
	*State
	said *said
}

func newBoth(t *testing.T, suite int, prologue string) both {
	t.Helper()
	return both{made(t, suite, prologue), say(suite, prologue)}
}

// made is for what is right.
func made(t *testing.T, suite int, prologue string) *State {
	t.Helper()
	s, e := New(suite, prologue)
	if s == nil || e != api.OK {
		t.Fatalf("New(%d, %.100x) = %p, %d", suite, prologue, s, e)
	}
	return s
}

// keyed answers one that has a KEY.
func keyed(t *testing.T, suite int, prologue string) both {
	t.Helper()
	b := newBoth(t, suite, prologue)
	b.mixKey("key")
	return b
}

// copied answers one that is the same so far.
func (b both) copied() both {
	s, what := *b.State, *b.said
	return both{&s, &what}
}

func (b both) mixHash(text string) {
	b.MixHash(text)
	b.said.mixHash(text)
}

func (b both) mixKey(text string) {
	b.MixKey(text)
	b.said.mixKey(text)
}

func (b both) mixBoth(text string) {
	b.MixBoth(text)
	b.said.mixBoth(text)
}

func (b both) wantHash(t *testing.T) {
	t.Helper()
	if got := b.Hash(); got != b.said.hash {
		t.Errorf("suite %d: Hash() = %x; want %x", b.said.suite, got, b.said.hash)
	}
}

func (b both) wantSplit(t *testing.T) {
	t.Helper()
	one, other := b.Split()
	if got, right := [2]string{one, other}, b.said.split(); got != right {
		t.Errorf("suite %d: Split() = %x; want %x", b.said.suite, got, right)
	}
}

// wantSeal answers what text becomes.
func (b both) wantSeal(t *testing.T, text string) string {
	t.Helper()
	right, err := b.said.seal(text)
	got, e := b.Seal(text)
	if got != right || e != err {
		t.Errorf("suite %d: Seal(%.100x), of %d bytes, = %.100x, %d; want %.100x, %d", b.said.suite, text, len(text), got, e, right, err)
	}
	return right
}

func (b both) wantOpen(t *testing.T, sealed string) {
	t.Helper()
	right, err := b.said.open(sealed)
	got, e := b.Open(sealed)
	if got != right || e != err {
		t.Errorf("suite %d: Open(%.100x), of %d bytes, = %.100x, %d; want %.100x, %d", b.said.suite, sealed, len(sealed), got, e, right, err)
	}
}

// wantText holds that sealed is opened as text.
func (b both) wantText(t *testing.T, sealed, text string) {
	t.Helper()
	b.said.open(sealed)
	if got, e := b.Open(sealed); got != text || e != api.OK {
		t.Errorf("suite %d: Open(%.100x), of %d bytes, = %.100x, %d; want %.100x", b.said.suite, sealed, len(sealed), got, e, text)
	}
}

// next answers what another one that is the same so far makes of text.
func (b both) next(text string) string {
	sealed, _ := b.copied().said.seal(text)
	return sealed
}

// wantWhole holds all that may be asked of it, and alters nothing: what is sealed,
// and opened, is so by copies.
func (b both) wantWhole(t *testing.T) {
	t.Helper()
	before := *b.State
	b.wantHash(t)
	b.wantSplit(t)
	for _, text := range []string{"", "text"} {
		c := b.copied()
		c.wantSeal(t, text)
		c.wantSeal(t, text)
		c.wantHash(t)
		c = b.copied()
		c.wantOpen(t, b.next(text))
		c.wantOpen(t, b.next(text))
		c.wantHash(t)
	}
	b.wantHash(t)
	b.wantSplit(t)
	if *b.State != before {
		t.Errorf("suite %d: %x became %x", b.said.suite, before, *b.State)
	}
}

// wantSealError holds that Seal answers right beside the empty text, and that
// nothing is as if it had been asked.
func (b both) wantSealError(t *testing.T, text string, right api.Errno) {
	t.Helper()
	before := *b.State
	if got, e := b.Seal(text); got != "" || e != right {
		t.Errorf("suite %d: Seal(%.100x), of %d bytes, = %.100x, %d; want %d", b.said.suite, text, len(text), got, e, right)
	}
	if *b.State != before {
		t.Errorf("suite %d: Seal of %d bytes changed it", b.said.suite, len(text))
	}
	b.wantHash(t)
}

// wantOpenError is the same for Open.
func (b both) wantOpenError(t *testing.T, sealed string, right api.Errno) {
	t.Helper()
	before := *b.State
	if got, e := b.Open(sealed); got != "" || e != right {
		t.Errorf("suite %d: Open(%.100x), of %d bytes, = %.100x, %d; want %d", b.said.suite, sealed, len(sealed), got, e, right)
	}
	if *b.State != before {
		t.Errorf("suite %d: Open of %d bytes changed it", b.said.suite, len(sealed))
	}
	b.wantHash(t)
}
