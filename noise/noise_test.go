package noise

import (
	"math"
	"math/rand"
	"strings"
	"sync"
	"testing"
	"unsafe"

	"souterrain/api"
	"souterrain/gcm"
	"souterrain/kdf"
	"souterrain/seal"
)

// chance answers texts that are the same in each run.
func chance(count, length int) []string {
	r := rand.New(rand.NewSource(2526))
	list := make([]string, count)
	for i := range list {
		b := make([]byte, length)
		r.Read(b)
		list[i] = string(b)
	}
	return list
}

// up answers the bytes 0, 1, 2 and so on, behind 255 from 0 on again.
func up(n int) string {
	b := make([]byte, n)
	for i := range b {
		b[i] = byte(i)
	}
	return string(b)
}

// flipped answers s with one bit changed.
func flipped(s string, bit int) string {
	b := []byte(s)
	b[bit/8] ^= 1 << (bit % 8)
	return string(b)
}

// texts answers some of each kind, short ones and long ones.
func texts() []string {
	return []string{"", "\x00", "text", "souterrain 1", "souterrain 2", up(31), up(32), up(33), up(64), up(65), strings.Repeat("\xff", 200), up(mostText)}
}

// prologues answers texts that a state may begin with.
func prologues() []string {
	return append(texts(), "souterrain", "souterrain\x01", "souterrain\x02", up(mostText+1), up(70000))
}

// P25: what stands behind New, in words: HASH and CHAIN are one Sum, and the
// prologue is in the HASH alone.
func TestNew(t *testing.T) {
	for suite, start := range map[int]string{api.Blake: "souterrain 1", api.Sha: "souterrain 2"} {
		begun, _ := kdf.Sum(suite, start)
		keys, _ := kdf.Derive(suite, begun, "", 2)
		for _, prologue := range prologues() {
			s := made(t, suite, prologue)
			right, _ := kdf.Sum(suite, begun+prologue)
			if got := s.Hash(); got != right || len(got) != 32 {
				t.Errorf("suite %d: Hash() = %x; want %x", suite, got, right)
			}
			if one, other := s.Split(); one != keys[0] || other != keys[1] {
				t.Errorf("suite %d: Split() = %x, %x; want %x", suite, one, other, keys)
			}
			newBoth(t, suite, prologue).wantWhole(t)
		}
	}
}

// P25: each prologue makes another HASH, in each suite another one, and none is
// like a state that has mixed it once more.
func TestProloguesDiffer(t *testing.T) {
	seen := map[string]string{}
	for _, suite := range suites() {
		for _, prologue := range prologues() {
			s := made(t, suite, prologue)
			for range 3 {
				if was, ok := seen[s.Hash()]; ok {
					t.Errorf("suite %d: %.100x makes the same as %.100x", suite, prologue, was)
				}
				seen[s.Hash()] = prologue
				s.MixHash(prologue)
			}
		}
	}
}

// P25: New mixes the prologue as MixHash does.
func TestPrologueIsMixed(t *testing.T) {
	for _, suite := range suites() {
		for _, prologue := range prologues() {
			begun, _ := kdf.Sum(suite, []string{"", "souterrain 1", "souterrain 2"}[suite])
			s := &State{suite: made(t, suite, "").suite, hash: begun, chain: begun}
			s.MixHash(prologue)
			if got := made(t, suite, prologue); *got != *s {
				t.Errorf("suite %d: %x; want %x", suite, *got, *s)
			}
		}
	}
}

// P25: each of the three mixes by itself, in words, from a state that has no KEY
// and from one that has.
func TestMix(t *testing.T) {
	for _, suite := range suites() {
		for _, text := range append(texts(), up(70000)) {
			for _, b := range []both{newBoth(t, suite, "p"), keyed(t, suite, "p")} {
				hash, chain := b.Hash(), b.chain
				one, other := b.Split()
				c := b.copied()
				c.mixHash(text)
				if right, _ := kdf.Sum(suite, hash+text); c.Hash() != right {
					t.Errorf("suite %d: behind MixHash Hash() = %x; want %x", suite, c.Hash(), right)
				}
				if got, and := c.Split(); got != one || and != other {
					t.Errorf("suite %d: MixHash changed the CHAIN", suite)
				}
				c.wantWhole(t)
				c = b.copied()
				c.mixKey(text)
				if c.Hash() != hash {
					t.Errorf("suite %d: MixKey changed the HASH", suite)
				}
				two, _ := kdf.Derive(suite, chain, text, 2)
				wantKept(t, c, two[0], two[1])
				c = b.copied()
				c.mixBoth(text)
				three, _ := kdf.Derive(suite, chain, text, 3)
				if right, _ := kdf.Sum(suite, hash+three[1]); c.Hash() != right {
					t.Errorf("suite %d: behind MixBoth Hash() = %x; want %x", suite, c.Hash(), right)
				}
				wantKept(t, c, three[0], three[2])
			}
		}
	}
}

// wantKept holds what b's CHAIN and KEY are, as seen by Split and Seal, and that N
// is 0.
func wantKept(t *testing.T, b both, chain, key string) {
	t.Helper()
	right, _ := kdf.Derive(b.said.suite, chain, "", 2)
	if one, other := b.Split(); one != right[0] || other != right[1] {
		t.Errorf("suite %d: Split() = %x, %x; want %x", b.said.suite, one, other, right)
	}
	b.wantWhole(t)
	with := []func(string, string, string, string) (string, api.Errno){nil, seal.Open, gcm.Open}[b.said.suite]
	c := b.copied()
	hash := c.Hash()
	sealed := c.wantSeal(t, "hello")
	if text, e := with(key, strings.Repeat("\x00", 12), hash, sealed); text != "hello" || e != api.OK {
		t.Errorf("suite %d: what was sealed opens as %x, %d", b.said.suite, text, e)
	}
}

// calls are what may be done to a state, by their numbers.
const calls = 8

// call does one of them, and holds it against the chapter's words.
func (b both) call(t *testing.T, what int, text string) {
	t.Helper()
	switch what {
	case 0:
		b.mixHash(text)
	case 1:
		b.mixKey(text)
	case 2:
		b.mixBoth(text)
	case 3:
		b.wantSeal(t, text)
	case 4:
		b.wantOpen(t, b.next(text))
	case 5:
		b.wantOpen(t, text)
	case 6:
		b.wantSplit(t)
	case 7:
		b.wantHash(t)
	}
}

// P25 and P26: all sequences of four calls, each behind each other, with all that
// may be asked behind each.
func TestEachBehindEach(t *testing.T) {
	for _, suite := range suites() {
		for sequence := range calls * calls * calls * calls {
			b := newBoth(t, suite, "prologue")
			for rest := sequence; rest > 0; rest /= calls {
				b.call(t, rest%calls, []string{"", "text", up(40)}[rest%3])
			}
			b.wantWhole(t)
			if t.Failed() {
				t.Fatalf("suite %d: sequence %o, from its end on", suite, sequence)
			}
		}
	}
}

// P25 and P26: any calls in any order, with texts of all lengths.
func TestAnyOrder(t *testing.T) {
	r := rand.New(rand.NewSource(25))
	for i := range 120 {
		b := newBoth(t, suites()[i%2], up(r.Intn(100)))
		for range 60 {
			size := []int{r.Intn(3), r.Intn(40), r.Intn(300), mostText - r.Intn(2), mostText + r.Intn(20)}[r.Intn(5)]
			b.call(t, r.Intn(calls), up(size))
			b.wantHash(t)
		}
		b.wantWhole(t)
	}
}

// P25: what is mixed ahead of a MixBoth is not what is mixed behind it, while MixHash
// and MixKey have nothing to do with each other's order; and each call mixes otherwise.
func TestOrderCounts(t *testing.T) {
	for _, suite := range suites() {
		seen, kinds := map[string]string{}, map[string]bool{}
		for order := range 81 {
			b := newBoth(t, suite, "")
			kind := []byte{'-', 0, 0}
			for rest, i := order, 0; i < 4; rest, i = rest/3, i+1 {
				b.call(t, rest%3, "same")
				if rest%3 == 2 {
					kind = append(kind, '-', 0, 0)
				} else {
					kind[len(kind)-1-rest%3]++
				}
			}
			b.mixKey("")
			sealed, _ := b.Seal("text")
			if was, ok := seen[sealed]; ok && was != string(kind) {
				t.Errorf("suite %d: %q makes the same as %q", suite, kind, was)
			}
			seen[sealed], kinds[string(kind)] = string(kind), true
		}
		if len(seen) != len(kinds) {
			t.Errorf("suite %d: of %d kinds %d were made", suite, len(kinds), len(seen))
		}
	}
}

// pair answers two states that were made in the same way.
func pair(t *testing.T, suite int) (both, both) {
	t.Helper()
	one, other := newBoth(t, suite, "prologue"), newBoth(t, suite, "prologue")
	for _, b := range []both{one, other} {
		b.mixHash("one")
		b.mixKey("two")
		b.mixBoth("three")
	}
	return one, other
}

// wantSame holds that both have the same in common.
func wantSame(t *testing.T, one, other both) {
	t.Helper()
	a, b := one.Split()
	c, d := other.Split()
	if one.Hash() != other.Hash() || a != c || b != d || a == b || len(a) != 32 || len(b) != 32 {
		t.Errorf("Hash %x and %x, Split %x, %x and %x, %x", one.Hash(), other.Hash(), a, b, c, d)
	}
}

// P26: what one seals the other one opens, one text behind the other.
func TestTwoStates(t *testing.T) {
	for _, suite := range suites() {
		one, other := pair(t, suite)
		wantSame(t, one, other)
		for range 3 {
			for _, text := range append(texts(), "", "", "same", "same") {
				sealed := one.wantSeal(t, text)
				if len(sealed) != len(text)+tag {
					t.Errorf("%d bytes became %d", len(text), len(sealed))
				}
				if one.Hash() == other.Hash() {
					t.Error("what was sealed is not in the HASH")
				}
				other.wantText(t, sealed, text)
				wantSame(t, one, other)
			}
			one.wantWhole(t)
			other.wantWhole(t)
		}
	}
}

// P26: texts of each length.
func TestEachLength(t *testing.T) {
	most := chance(1, 300)[0]
	for _, suite := range suites() {
		one, other := pair(t, suite)
		for n := range 300 {
			other.wantText(t, one.wantSeal(t, most[:n]), most[:n])
			wantSame(t, one, other)
		}
	}
}

// P26: who seals and opens by turns counts both: N is one.
func TestByTurns(t *testing.T) {
	r := rand.New(rand.NewSource(26))
	for _, suite := range suites() {
		one, other := pair(t, suite)
		for i := range 200 {
			text := up(r.Intn(60))
			other.wantText(t, one.wantSeal(t, text), text)
			if i%3 > 0 {
				one, other = other, one
			}
			if one.n != uint64(i+1) || other.n != uint64(i+1) {
				t.Fatalf("N is %d and %d behind %d texts", one.n, other.n, i+1)
			}
			wantSame(t, one, other)
			switch r.Intn(10) {
			case 0:
				one.mixHash(text)
				other.mixHash(text)
			case 1:
				one.wantWhole(t)
				other.wantWhole(t)
			}
		}
	}
}

// P26: the nonce, written out, as seen behind more than 256 texts: what is sealed is
// opened by it and by no other one.
func TestNonce(t *testing.T) {
	for _, suite := range suites() {
		b := keyed(t, suite, "nonce")
		with := []func(string, string, string, string) (string, api.Errno){nil, seal.Open, gcm.Open}[suite]
		for n := range 600 {
			low, high := string([]byte{byte(n % 256)}), string([]byte{byte(n / 256)})
			lowest := "\x00\x00\x00\x00" + low + high + "\x00\x00\x00\x00\x00\x00"
			highest := "\x00\x00\x00\x00\x00\x00\x00\x00\x00\x00" + high + low
			right, wrong := lowest, highest
			if suite == api.Sha {
				right, wrong = highest, lowest
			}
			hash, key := b.Hash(), b.said.key
			sealed := b.wantSeal(t, "text")
			if text, e := with(key, right, hash, sealed); text != "text" || e != api.OK {
				t.Errorf("suite %d: by nonce %x: %x, %d", suite, right, text, e)
			}
			if _, e := with(key, wrong, hash, sealed); e == api.OK && n > 0 {
				t.Errorf("suite %d: by nonce %x, too", suite, wrong)
			}
		}
	}
}

// P26: each byte of N has its place.
func TestPlaces(t *testing.T) {
	for _, c := range []struct {
		n               uint64
		lowest, highest string
	}{
		{0, "\x00\x00\x00\x00\x00\x00\x00\x00", "\x00\x00\x00\x00\x00\x00\x00\x00"},
		{1, "\x01\x00\x00\x00\x00\x00\x00\x00", "\x00\x00\x00\x00\x00\x00\x00\x01"},
		{255, "\xff\x00\x00\x00\x00\x00\x00\x00", "\x00\x00\x00\x00\x00\x00\x00\xff"},
		{256, "\x00\x01\x00\x00\x00\x00\x00\x00", "\x00\x00\x00\x00\x00\x00\x01\x00"},
		{0x0102030405060708, "\x08\x07\x06\x05\x04\x03\x02\x01", "\x01\x02\x03\x04\x05\x06\x07\x08"},
		{0xfffefdfcfbfaf9f8, "\xf8\xf9\xfa\xfb\xfc\xfd\xfe\xff", "\xff\xfe\xfd\xfc\xfb\xfa\xf9\xf8"},
	} {
		for suite, right := range map[int]string{api.Blake: c.lowest, api.Sha: c.highest} {
			its, _ := meant(suite)
			if got := its.nonce(c.n); got != "\x00\x00\x00\x00"+right {
				t.Errorf("suite %d: the nonce of %x is %x; want %x behind four bytes 0", suite, c.n, got, right)
			}
		}
	}
}

// P26: one text again and again becomes another one each time, in each suite, and by
// each state, also ahead of the tag.
func TestSealedDiffer(t *testing.T) {
	seen := map[string]bool{}
	for _, suite := range suites() {
		for _, mix := range []func(*State, string){(*State).MixKey, (*State).MixBoth} {
			for _, key := range []string{"", "key"} {
				hidden := map[string]bool{}
				for _, prologue := range []string{"", "other"} {
					s := made(t, suite, prologue)
					mix(s, key)
					for range 20 {
						sealed, _ := s.Seal("some text")
						if seen[sealed] {
							t.Errorf("%x once more", sealed)
						}
						seen[sealed], hidden[sealed[:9]] = true, true
					}
				}
				// The HASH, in which they part, is in the tag alone.
				if len(hidden) != 20 {
					t.Errorf("suite %d: 20 times one text became %d", suite, len(hidden))
				}
			}
		}
	}
}

// unkeyed answers states that have no KEY yet.
func unkeyed(t *testing.T, suite int) []both {
	t.Helper()
	list := []both{newBoth(t, suite, ""), newBoth(t, suite, "prologue"), newBoth(t, suite, "")}
	list[2].mixHash("")
	many := newBoth(t, suite, "many")
	for _, text := range texts() {
		many.mixHash(text)
	}
	return append(list, many)
}

// P26, the edges: without a KEY each text is ErrState, also one that is too long or
// too short, and behind MixHash alone, too.
func TestNoKey(t *testing.T) {
	for _, suite := range suites() {
		sealed := keyed(t, suite, "").wantSeal(t, "text")
		for _, b := range unkeyed(t, suite) {
			for _, text := range append(texts(), sealed, up(15), up(16), up(2015), up(2016), up(2017), up(70000)) {
				b.wantSealError(t, text, api.ErrState)
				b.wantOpenError(t, text, api.ErrState)
				b.mixHash(text)
				b.wantSealError(t, text, api.ErrState)
				b.wantOpenError(t, text, api.ErrState)
				b.wantSplit(t)
			}
			b.wantWhole(t)
			c := b.copied()
			b.mixKey("")
			b.wantWhole(t)
			b.wantText(t, b.next("text"), "text")
			c.mixBoth("")
			c.wantWhole(t)
			c.wantText(t, c.next("text"), "text")
		}
	}
}

// P25, the edges: N is 0 anew behind MixKey and behind MixBoth, and goes on behind
// MixHash, Split and Hash.
func TestAnew(t *testing.T) {
	for _, suite := range suites() {
		for _, before := range []int{0, 1, 2, 7, 300} {
			b := keyed(t, suite, "anew")
			for range before {
				b.wantSeal(t, "")
			}
			b.mixHash("text")
			b.wantSplit(t)
			if b.n != uint64(before) {
				t.Errorf("suite %d: N is %d behind %d texts", suite, b.n, before)
			}
			b.wantWhole(t)
			for _, mix := range []func(both, string){both.mixKey, both.mixBoth} {
				c := b.copied()
				mix(c, "text")
				if c.n != 0 {
					t.Errorf("suite %d: N is %d behind a new KEY", suite, c.n)
				}
				wantKept(t, c, c.said.chain, c.said.key)
				c.wantSeal(t, "text")
				mix(c, "")
				wantKept(t, c, c.said.chain, c.said.key)
			}
		}
	}
}

// P25, the edges: a Split alters nothing, and answers the same again, also where
// texts are sealed in between.
func TestSplitAltersNothing(t *testing.T) {
	for _, suite := range suites() {
		for _, b := range append(unkeyed(t, suite), keyed(t, suite, "")) {
			before := *b.State
			one, other := b.Split()
			for range 3 {
				if a, c := b.Split(); a != one || c != other || *b.State != before {
					t.Errorf("suite %d: Split() = %x, %x behind %x, %x", suite, a, c, one, other)
				}
			}
			b.wantWhole(t)
			b.wantSeal(t, "text")
			b.mixHash("text")
			if a, c := b.Split(); a != one || c != other {
				t.Errorf("suite %d: Split() = %x, %x behind %x, %x", suite, a, c, one, other)
			}
			b.mixKey("")
			if a, c := b.Split(); a == one || c == other {
				t.Errorf("suite %d: MixKey is not in Split", suite)
			}
		}
	}
}

// P26, the edges: a text of MaxText bytes, one of one more, and far more.
func TestLarge(t *testing.T) {
	for _, suite := range suites() {
		one, other := pair(t, suite)
		for _, n := range []int{mostText - 1, mostText, 0} {
			for _, more := range []int{mostText + 1, mostText + 2, mostSealed, mostSealed + 1, 4096, 65536, 65536 + 16, 70000} {
				one.wantSealError(t, up(more), api.ErrLarge)
			}
			text := up(n)
			sealed := one.wantSeal(t, text)
			if len(sealed) != n+tag {
				t.Errorf("%d bytes became %d", n, len(sealed))
			}
			for _, more := range []int{mostSealed + 1, mostSealed + 2, 4096, 65536, 65536 + 16, 70000} {
				other.wantOpenError(t, up(more), api.ErrLarge)
				other.wantOpenError(t, sealed+up(more), api.ErrLarge)
			}
			other.wantOpenError(t, up(mostSealed), api.ErrSum)
			other.wantText(t, sealed, text)
			wantSame(t, one, other)
		}
	}
}

// P26, the edges: sealed texts of 15 bytes, of none, and of all below 16.
func TestShort(t *testing.T) {
	for _, suite := range suites() {
		one, other := pair(t, suite)
		for _, text := range []string{"", "text", ""} {
			sealed := one.wantSeal(t, text)
			for n := range tag {
				other.wantOpenError(t, sealed[:n], api.ErrShort)
				other.wantOpenError(t, sealed[len(sealed)-n:], api.ErrShort)
				other.wantOpenError(t, strings.Repeat("\x00", n), api.ErrShort)
			}
			other.wantOpenError(t, up(tag), api.ErrSum)
			other.wantText(t, sealed, text)
			wantSame(t, one, other)
		}
	}
}

// wrongSuites are beside both; some of them are right in fewer bits.
func wrongSuites() []int {
	return []int{0, 3, -1, -2, 4, 5, 100, 255, 256, 257, 258, -255, -254, 1<<16 + 1, 1<<16 + 2, 1<<31 - 1, 1 << 31, -1 << 31, 1<<32 + 1, 1<<32 + 2,
		-1<<32 + 1, -1<<32 + 2, 1<<40 + 2, math.MaxInt, math.MinInt, math.MaxInt - 1, math.MinInt + 1, math.MinInt + 2}
}

// P25, wrong inputs: a suite that is none of the two, and a nil state beside it.
func TestWrongSuites(t *testing.T) {
	for _, suite := range wrongSuites() {
		for _, prologue := range prologues() {
			if s, e := New(suite, prologue); s != nil || e != api.ErrArg {
				t.Errorf("New(%d, %.100x) = %p, %d", suite, prologue, s, e)
			}
		}
		if its, e := meant(suite); its != nil || e != api.ErrArg {
			t.Errorf("suite %d means something, or %d", suite, e)
		}
	}
}

// P26, wrong inputs: each bit turned, of texts of several lengths; and the right one
// opens behind it.
func TestTurned(t *testing.T) {
	for _, suite := range suites() {
		one, other := pair(t, suite)
		for _, n := range []int{0, 1, 15, 16, 17, 64, 100} {
			text := up(n)
			sealed := one.wantSeal(t, text)
			for bit := range 8 * len(sealed) {
				other.wantOpenError(t, flipped(sealed, bit), api.ErrSum)
			}
			other.wantText(t, sealed, text)
			wantSame(t, one, other)
		}
		sealed := one.wantSeal(t, up(mostText))
		for i := range sealed {
			other.wantOpenError(t, flipped(sealed, 8*i+i%8), api.ErrSum)
		}
		other.wantText(t, sealed, up(mostText))
		wantSame(t, one, other)
	}
}

// P26, wrong inputs: a byte less, one more, at either end, and the tag at the other.
func TestCut(t *testing.T) {
	for _, suite := range suites() {
		one, other := pair(t, suite)
		text := up(50)
		sealed := one.wantSeal(t, text)
		for n := 1; n <= 50; n++ {
			other.wantOpenError(t, sealed[n:], api.ErrSum)
			other.wantOpenError(t, sealed[:len(sealed)-n], api.ErrSum)
			other.wantOpenError(t, sealed+sealed[:n], api.ErrSum)
			other.wantOpenError(t, sealed+strings.Repeat("\x00", n), api.ErrSum)
			other.wantOpenError(t, strings.Repeat("\x00", n)+sealed, api.ErrSum)
		}
		other.wantOpenError(t, sealed[50:]+sealed[:50], api.ErrSum)
		other.wantOpenError(t, text+sealed[50:], api.ErrSum)
		other.wantText(t, sealed, text)
		wantSame(t, one, other)
	}
}

// P26, wrong inputs: what was opened is opened no more, nor is what was sealed by
// oneself, and what comes ahead of its turn is not opened until then.
func TestJustOnce(t *testing.T) {
	for _, suite := range suites() {
		one, other := pair(t, suite)
		var all []string
		for i := range 12 {
			all = append(all, one.wantSeal(t, up(i)))
		}
		for i, sealed := range all {
			for j, wrong := range all {
				if j != i {
					other.wantOpenError(t, wrong, api.ErrSum)
				}
			}
			other.wantText(t, sealed, up(i))
		}
		for _, sealed := range all {
			one.wantOpenError(t, sealed, api.ErrSum)
			other.wantOpenError(t, sealed, api.ErrSum)
		}
		wantSame(t, one, other)
		other.wantText(t, one.wantSeal(t, "more"), "more")
	}
}

// others answers states none of which has all that one has, by what they part in.
func others(t *testing.T, suite int) map[string]both {
	t.Helper()
	list := map[string]both{}
	for _, name := range []string{"HASH", "HASH beforehand", "KEY", "N", "N and KEY", "CHAIN"} {
		_, list[name] = pair(t, suite)
	}
	list["HASH"].mixHash("")
	list["KEY"].mixKey("")
	list["CHAIN"].mixBoth("")
	list["N"].n++
	list["N"].said.n++
	list["N and KEY"].mixKey("")
	list["N and KEY"].wantSeal(t, "")
	list["HASH beforehand"] = newBoth(t, suite, "prologue")
	list["HASH beforehand"].mixHash("other")
	list["HASH beforehand"].mixKey("two")
	list["HASH beforehand"].mixBoth("three")
	_, list["suite"] = pair(t, 3-suite)
	list["prologue"] = newBoth(t, suite, "prologues")
	list["prologue"].mixHash("one")
	list["prologue"].mixKey("two")
	list["prologue"].mixBoth("three")
	list["all"] = keyed(t, suite, "other")
	return list
}

// P26, wrong inputs: what another state has sealed, of the other suite, of another N,
// of another HASH, of another KEY.
func TestOfAnother(t *testing.T) {
	for _, suite := range suites() {
		one, other := pair(t, suite)
		for name, another := range others(t, suite) {
			for _, text := range []string{"", "text", up(100)} {
				other.wantOpenError(t, another.next(text), api.ErrSum)
				another.wantOpenError(t, one.next(text), api.ErrSum)
				another.wantText(t, another.next(text), text)
			}
			another.wantWhole(t)
			if t.Failed() {
				t.Fatalf("suite %d: another %s", suite, name)
			}
		}
		other.wantText(t, one.wantSeal(t, "text"), "text")
		wantSame(t, one, other)
	}
}

// P26, wrong inputs: of several at once the one that is told first is the answer.
func TestSeveralWrong(t *testing.T) {
	for _, suite := range suites() {
		none, b := newBoth(t, suite, ""), keyed(t, suite, "")
		sealed := b.next("text")
		none.wantOpenError(t, sealed+up(mostSealed), api.ErrState)
		none.wantOpenError(t, sealed[:3], api.ErrState)
		none.wantOpenError(t, flipped(sealed, 3), api.ErrState)
		none.wantSealError(t, up(mostText+1), api.ErrState)
		b.wantOpenError(t, sealed+up(mostSealed), api.ErrLarge)
		b.wantOpenError(t, sealed[:3], api.ErrShort)
		b.wantOpenError(t, flipped(sealed, 3), api.ErrSum)
		b.wantSealError(t, up(mostText+1), api.ErrLarge)
	}
}

// wrong asks for what is refused, and answers how often nothing was.
func wrong(s *State, r *rand.Rand) int {
	bad := 0
	for range r.Intn(6) {
		if text, e := s.Open(up(r.Intn(40))); text != "" || e == api.OK {
			bad++
		}
		if text, e := s.Open(up(mostSealed - 1 + r.Intn(4))); text != "" || e == api.OK {
			bad++
		}
		if sealed, e := s.Seal(up(mostText + 1 + r.Intn(50))); sealed != "" || e == api.OK {
			bad++
		}
	}
	return bad
}

// P26: a state that is asked wrong things in between is like one that never was, as
// far as anybody can see.
func TestAsIfNever(t *testing.T) {
	r := rand.New(rand.NewSource(2625))
	for i := range 40 {
		suite := suites()[i%2]
		asked, never := made(t, suite, "p"), made(t, suite, "p")
		for range 30 {
			bad := wrong(asked, r)
			text, what := up(r.Intn(50)), r.Intn(6)
			var a, b string
			for j, s := range []*State{asked, never} {
				out := []*string{&a, &b}[j]
				switch what {
				case 0:
					s.MixHash(text)
				case 1:
					s.MixKey(text)
				case 2:
					s.MixBoth(text)
				default:
					*out, _ = s.Seal(text)
				}
			}
			bad += wrong(asked, r)
			p, q := asked.Split()
			v, w := never.Split()
			if bad > 0 || a != b || asked.Hash() != never.Hash() || p != v || q != w {
				t.Fatalf("suite %d: %d, %x and %x", suite, bad, a, b)
			}
		}
	}
}

// P2: states have nothing to do with each other, those of one suite and those of
// two, and those that are made in between.
func TestApart(t *testing.T) {
	r := rand.New(rand.NewSource(2))
	for _, pair := range [][2]int{{api.Blake, api.Blake}, {api.Sha, api.Sha}, {api.Blake, api.Sha}} {
		one, other := newBoth(t, pair[0], "p"), newBoth(t, pair[1], "p")
		for range 100 {
			one.call(t, r.Intn(calls), up(r.Intn(50)))
			newBoth(t, pair[r.Intn(2)], "p").wantHash(t)
			other.call(t, r.Intn(calls), up(r.Intn(50)))
			one.wantHash(t)
			one.wantSplit(t)
			other.wantHash(t)
			other.wantSplit(t)
		}
		one.wantWhole(t)
		other.wantWhole(t)
	}
}

// P2: each answer of New is another state, that has no KEY.
func TestNewEachTime(t *testing.T) {
	seen := map[*State]bool{}
	for i := range 50 {
		b := newBoth(t, suites()[i%2], "same")
		if seen[b.State] {
			t.Fatal("the same state once more", i)
		}
		seen[b.State] = true
		b.wantHash(t)
		b.wantSealError(t, "text", api.ErrState)
		b.mixHash("text")
		b.mixBoth("text")
		b.wantSeal(t, "text")
	}
}

// A copy of a state goes on by itself: what is done to it leaves the other as it was.
func TestCopy(t *testing.T) {
	r := rand.New(rand.NewSource(17))
	for _, suite := range suites() {
		b := keyed(t, suite, "copied")
		for range 30 {
			c := b.copied()
			for range 10 {
				c.call(t, r.Intn(calls), up(r.Intn(50)))
			}
			c.wantWhole(t)
			b.wantWhole(t)
			b.call(t, r.Intn(calls), up(r.Intn(50)))
			c.wantWhole(t)
		}
	}
}

// P2: nothing is kept but in a State: the same calls answer the same, at the same
// time as those of other states.
func TestAnswersStay(t *testing.T) {
	old := keyed(t, api.Blake, "old")
	var group sync.WaitGroup
	for i := range 20 {
		group.Go(func() {
			r := rand.New(rand.NewSource(int64(i % 3)))
			s, what := made(t, suites()[i%2], "p"), say(suites()[i%2], "p")
			b := both{s, what}
			for range 60 {
				b.call(t, r.Intn(calls), up(r.Intn(50)))
			}
			b.wantWhole(t)
		})
	}
	group.Wait()
	old.wantWhole(t)
}

// shares says whether two texts have a byte of memory in common.
func shares(a, b string) bool {
	if len(a) == 0 || len(b) == 0 {
		return false
	}
	p, q := uintptr(unsafe.Pointer(unsafe.StringData(a))), uintptr(unsafe.Pointer(unsafe.StringData(b)))
	return p < q+uintptr(len(b)) && q < p+uintptr(len(a))
}

// lent answers a text that lies in those bytes, and changes as they do.
func lent(b []byte) string { return unsafe.String(unsafe.SliceData(b), len(b)) }

// answers gathers what a state made of text answers, and texts that are kept.
func answers(t *testing.T, suite int, text string) (list, kept []string) {
	t.Helper()
	s := made(t, suite, text)
	s.MixHash(text)
	s.MixKey(text)
	s.MixBoth(text)
	other := *s
	sealed, e := s.Seal(text)
	opened, err := other.Open(sealed)
	if e != api.OK || err != api.OK || opened != text {
		t.Fatal(e, err)
	}
	one, two := s.Split()
	return []string{sealed, opened, s.Hash(), s.Hash(), other.Hash(), one, two}, []string{s.hash, s.chain, s.key, other.hash, sealed}
}

// P2: what is handed in stays, the room behind it too, and neither an answer nor what
// is kept lies in it.
func TestNothingShared(t *testing.T) {
	for _, suite := range suites() {
		for _, n := range []int{0, 1, 16, 31, 32, 33, 64, 65, 300, mostText} {
			room := chance(1, n)[0] + "room behind"
			handed := []byte(room)
			whole := lent(handed)
			list, kept := answers(t, suite, whole[:n])
			for _, s := range append(list, kept...) {
				if shares(s, whole) {
					t.Errorf("suite %d: %.100x lies in what was handed in", suite, s)
				}
			}
			if string(handed) != room {
				t.Errorf("%x became %x", room, handed)
			}
		}
	}
}

// P2: no two answers lie in the same memory, nor does one in what is kept.
func TestAnswersApart(t *testing.T) {
	for _, suite := range suites() {
		for _, text := range []string{"", "text", up(40)} {
			list, kept := answers(t, suite, text)
			for i, s := range list {
				for _, other := range list[i+1:] {
					if shares(s, other) {
						t.Errorf("suite %d: two answers share %x", suite, s)
					}
				}
				for _, other := range kept[:4] {
					if shares(s, other) {
						t.Errorf("suite %d: an answer shares %x with what is kept", suite, s)
					}
				}
			}
		}
	}
}

// P2: what was mixed, sealed and opened stays so where bytes that were handed in
// change later on.
func TestNotKept(t *testing.T) {
	for _, suite := range suites() {
		handed := []byte(strings.Repeat("some text", 5))
		text := lent(handed)
		b := newBoth(t, suite, text)
		for _, mix := range []func(both, string){both.mixHash, both.mixKey, both.mixBoth} {
			mix(b, text)
			handed[0]++
			b.wantWhole(t)
		}
		sealed := b.copied().wantSeal(t, text)
		lentOne := []byte(sealed)
		opened, e := b.Open(lent(lentOne))
		right, _ := b.said.open(sealed)
		clear(lentOne)
		clear(handed)
		if opened != right || e != api.OK {
			t.Errorf("%x, %d; want %x", opened, e, right)
		}
		b.wantWhole(t)
	}
}

// P2: what was answered stays, whatever becomes of the state.
func TestAnsweredStays(t *testing.T) {
	for _, suite := range suites() {
		b := keyed(t, suite, "p")
		hash, right := b.Hash(), strings.Clone(b.said.hash)
		one, other := b.Split()
		split := b.said.split()
		sealed := b.wantSeal(t, "text")
		was := strings.Clone(sealed)
		b.mixHash("text")
		b.mixBoth("text")
		b.wantSeal(t, "text")
		if hash != right || one != split[0] || other != split[1] || sealed != was {
			t.Error("answers changed")
		}
	}
}

// P1: whatever comes, of all sizes, is answered as the chapter's words say.
func TestAnythingAnswers(t *testing.T) {
	r := rand.New(rand.NewSource(1))
	for range 200 {
		suite := r.Intn(6) - 2
		s, e := New(suite, up(r.Intn(3000)))
		if right := suite == 1 || suite == 2; (s != nil) != right || (e == api.OK) != right {
			t.Fatalf("New(%d) = %p, %d", suite, s, e)
		}
		if s == nil {
			continue
		}
		for range 20 {
			text := chance(1, r.Intn(2100))[0]
			s.MixHash(text)
			s.Open(text)
			s.Seal(text)
			s.Split()
			if r.Intn(3) == 0 {
				s.MixKey(text)
			}
			s.Open(s.Hash())
			if r.Intn(3) == 0 {
				s.MixBoth(text)
			}
		}
	}
}

// P25, P26 and P1 for whatever comes: two bytes are a call: what it is, and how many
// of text's bytes it is about.
func FuzzAnything(f *testing.F) {
	f.Add(1, "", "some text", []byte{0, 3, 1, 4, 3, 9, 4, 9, 2, 0, 3, 1, 3, 1, 5, 9, 6, 0, 7, 0})
	f.Add(2, "prologue", up(300), []byte{3, 0, 5, 0, 1, 200, 3, 255, 4, 255, 0, 7, 4, 0, 5, 16, 5, 15, 2, 64, 3, 65, 1, 0, 3, 3})
	f.Add(1, "far", up(mostText+2), []byte{1, 0, 11, 0, 19, 0, 12, 0, 11, 255, 13, 0, 13, 255, 3, 255})
	f.Add(2, "far", up(mostText+18), []byte{1, 0, 11, 0, 19, 0, 12, 0, 11, 255, 13, 0, 13, 255, 3, 255})
	for _, suite := range wrongSuites() {
		f.Add(suite, "", "", []byte{1, 0})
	}
	f.Fuzz(func(t *testing.T, suite int, prologue, text string, list []byte) {
		if suite != 1 && suite != 2 {
			if s, e := New(suite, prologue); s != nil || e != api.ErrArg {
				t.Errorf("New(%d, %x) = %p, %d", suite, prologue, s, e)
			}
			return
		}
		b := newBoth(t, suite, prologue)
		for list = list[:min(len(list), 100)]; len(list) >= 2; list = list[2:] {
			n := min(int(list[1]), len(text))
			// Above 8 it is about all bytes but so many.
			if list[0]&8 != 0 {
				n = len(text) - n
			}
			b.call(t, int(list[0]%calls), text[:n])
			b.wantHash(t)
		}
		b.wantWhole(t)
	})
}
