package gcm

import (
	"crypto/aes"
	"crypto/cipher"
	"encoding/binary"
	"encoding/hex"
	"math/rand"
	"slices"
	"strings"
	"sync"
	"testing"
	"unsafe"

	"souterrain/api"
	"souterrain/ghash"
)

// unhex leaves blanks and line ends out.
func unhex(t *testing.T, h string) string {
	t.Helper()
	b, err := hex.DecodeString(strings.Join(strings.Fields(h), ""))
	if err != nil {
		t.Fatal(h)
	}
	return string(b)
}

func want(t *testing.T, name, got string, e api.Errno, text string, err api.Errno, in ...string) {
	t.Helper()
	if got != text || e != err {
		t.Errorf("%s(%.100x) = %.100x, %d; want %.100x, %d", name, in, got, e, text, err)
	}
}

// wantBoth holds Seal against what is known of it, and Open, too.
func wantBoth(t *testing.T, key, nonce, more, text, sealed string) {
	t.Helper()
	got, e := Seal(key, nonce, more, text)
	want(t, "Seal", got, e, sealed, api.OK, key, nonce, more, text)
	got, e = Open(key, nonce, more, sealed)
	want(t, "Open", got, e, text, api.OK, key, nonce, more, sealed)
}

func wantOpen(t *testing.T, key, nonce, more, sealed, text string, err api.Errno) {
	t.Helper()
	got, e := Open(key, nonce, more, sealed)
	want(t, "Open", got, e, text, err, key, nonce, more, sealed)
}

// chance answers texts that are the same in each run.
func chance(count, length int) []string {
	r := rand.New(rand.NewSource(7))
	list := make([]string, count)
	for i := range list {
		b := make([]byte, length)
		r.Read(b)
		list[i] = string(b)
	}
	return list
}

// flipped answers s with one bit changed.
func flipped(s string, bit int) string {
	b := []byte(s)
	b[bit/8] ^= 1 << (bit % 8)
	return string(b)
}

// both answers a key and a nonce.
func both() (string, string) { return chance(1, 32)[0], chance(1, 44)[0][32:] }

func newLibrary(t *testing.T, key string) cipher.Block {
	t.Helper()
	c, err := aes.NewCipher([]byte(key))
	if err != nil {
		t.Fatal(err)
	}
	return c
}

// librarySealed is what Go's own library seals.
func librarySealed(t *testing.T, key, nonce, more, text string) string {
	t.Helper()
	g, err := cipher.NewGCM(newLibrary(t, key))
	if err != nil {
		t.Fatal(err)
	}
	return string(g.Seal(nil, []byte(nonce), []byte(text), []byte(more)))
}

// encrypted is Encrypt by Go's own library.
func encrypted(t *testing.T, key, block string) string {
	t.Helper()
	var out [16]byte
	newLibrary(t, key).Encrypt(out[:], []byte(block))
	return string(out[:])
}

// blockOf is BLOCK n.
func blockOf(t *testing.T, key, nonce string, n uint32) string {
	t.Helper()
	return encrypted(t, key, string(binary.BigEndian.AppendUint32([]byte(nonce), n)))
}

// P12: GCM's paper (McGrew and Viega), test cases 13 to 16.
func TestWrittenOut(t *testing.T) {
	key, nonce := "feffe9928665731c6d6a8f9467308308 feffe9928665731c6d6a8f9467308308", "cafebabefacedbaddecaf888"
	text := `d9313225f88406e5a55909c5aff5269a 86a7a9531534f7da2e4c303d8a318a72
		1c3c0c95956809532fcf0e2449a6b525 b16aedf5aa0de657ba637b39`
	hidden := `522dc1f099567d07f47f37a32a84427d 643a8cdcbfe5c0c97598a2bd2555d1aa
		8cb08e48590dbb3da7b08b1056828838 c5f61e6393ba7a0abcc9f662`
	noughts := strings.Repeat("00", 32)
	for _, c := range [][5]string{
		{noughts, noughts[:24], "", "", "530f8afbc74536b9a963b4f1c4cb738b"},
		{noughts, noughts[:24], "", noughts[:32], "cea7403d4d606b6e074ec5d3baf39d18 d0d1c8a799996bf0265b98b5d48ab919"},
		{key, nonce, "", text + "1aafd255", hidden + "898015ad b094dac5d93471bdec1a502270e3cc6c"},
		{key, nonce, "feedfacedeadbeeffeedfacedeadbeefabaddad2", text, hidden + "76fc6ece0f4e1768cddf8853bb2d551b"},
	} {
		wantBoth(t, unhex(t, c[0]), unhex(t, c[1]), unhex(t, c[2]), unhex(t, c[3]), unhex(t, c[4]))
	}
}

// P12, the document's example.
func TestHello(t *testing.T) {
	key, nonce := both()
	s, e := Seal(key, nonce, "", "hello")
	if len(s) != 21 || e != api.OK {
		t.Errorf("%x, %d", s, e)
	}
	wantOpen(t, key, nonce, "", s, "hello", api.OK)
}

// P12: texts of no byte, of whole blocks and of others, with more of these
// lengths, too; and the greatest ones.
func TestAgainstLibrary(t *testing.T) {
	lengths := []int{0, 1, 2, 8, 15, 16, 17, 31, 32, 33, 47, 48, 49, 64, 100, 255, 256, 257, 1999, 2000}
	keys, nonces := chance(len(lengths), 32), chance(len(lengths), 12)
	for i, n := range lengths {
		for j, m := range lengths {
			key, nonce, more, text := keys[i], nonces[j], chance(1, m)[0], chance(1, n)[0]
			sealed := librarySealed(t, key, nonce, more, text)
			if len(sealed) != n+16 {
				t.Fatal(len(sealed))
			}
			wantBoth(t, key, nonce, more, text, sealed)
		}
	}
	key, nonce := both()
	for n := range api.MaxText + 1 {
		text := strings.Repeat("\xa5", n)
		wantBoth(t, key, nonce, text[n/2:], text, librarySealed(t, key, nonce, text[n/2:], text))
	}
}

// P12: keys, nonces and texts of one byte again and again.
func TestEdgesAgainstLibrary(t *testing.T) {
	list := []string{"\x00", "\x01", "\x7f", "\x80", "\xff"}
	for _, k := range list {
		for _, o := range list {
			for _, b := range list {
				key, nonce, text := strings.Repeat(k, 32), strings.Repeat(o, 12), strings.Repeat(b, 40)
				wantBoth(t, key, nonce, text[:20], text, librarySealed(t, key, nonce, text[:20], text))
			}
		}
	}
}

// P12: text is xored with BLOCK 2 and those behind it, all of them up to the
// last one that there can be; also where nonce ends in bits that are all 1.
func TestBlocksOfText(t *testing.T) {
	for _, nonce := range append(chance(3, 12), strings.Repeat("\x00", 12), strings.Repeat("\xff", 12)) {
		key, text := chance(1, 32)[0], chance(1, api.MaxText)[0]
		s, e := Seal(key, nonce, "more", text)
		if len(s) != api.MaxText+16 || e != api.OK {
			t.Fatalf("%d bytes, %d", len(s), e)
		}
		for i := range 125 {
			got, right := xored(s[16*i:16*i+16], text[16*i:]), blockOf(t, key, nonce, uint32(i+2))
			if got != right {
				t.Errorf("block %d of the text is xored with %x, not %x", i, got, right)
			}
		}
	}
}

// P12: n in four bytes, the highest first, also where no text is as long.
func TestNumbered(t *testing.T) {
	for _, c := range []struct {
		n     uint32
		right string
	}{
		{1, "\x00\x00\x00\x01"},
		{126, "\x00\x00\x00\x7e"},
		{255, "\x00\x00\x00\xff"},
		{256, "\x00\x00\x01\x00"},
		{0x10203, "\x00\x01\x02\x03"},
		{0x81828384, "\x81\x82\x83\x84"},
		{0xffffffff, "\xff\xff\xff\xff"},
	} {
		if got := numbered("twelve bytes", c.n); got != "twelve bytes"+c.right {
			t.Errorf("%d: %x", c.n, got)
		}
	}
}

// P12: the TAG is the sum, by the block of 0 encrypted, of more and of what
// text has become, xored with BLOCK 1.
func TestTag(t *testing.T) {
	for i, nonce := range chance(50, 12) {
		key, more, text := chance(50, 32)[i], chance(1, 3*i%41)[0], chance(1, i)[0]
		s, e := Seal(key, nonce, more, text)
		if len(s) != i+16 || e != api.OK {
			t.Fatalf("%d bytes, %d", len(s), e)
		}
		sum, e := ghash.Sum(encrypted(t, key, strings.Repeat("\x00", 16)), more, s[:i])
		if right := xored(sum, blockOf(t, key, nonce, 1)); s[i:] != right || e != api.OK {
			t.Errorf("the tag of %x is %x, not %x", s[:i], s[i:], right)
		}
	}
}

// P12: more is in the tag alone, and text that has no byte is a tag alone.
func TestMoreIsInTheTagAlone(t *testing.T) {
	key, nonce := both()
	seen := map[string]int{}
	for n := range 60 {
		more := strings.Repeat("\x00", n)
		with, e := Seal(key, nonce, more, "some text")
		without, f := Seal(key, nonce, "", "some text")
		if len(with) != 25 || with[:9] != without[:9] || e != api.OK || f != api.OK {
			t.Errorf("%x, %x, %d, %d", with, without, e, f)
		}
		seen[with]++
		alone, e := Seal(key, nonce, more, "")
		if len(alone) != 16 || e != api.OK {
			t.Errorf("%x, %d", alone, e)
		}
		seen[alone]++
		wantOpen(t, key, nonce, more, alone, "", api.OK)
	}
	if len(seen) != 120 {
		t.Errorf("%d answers", len(seen))
	}
}

// P12: just as many bytes as there may be, and one more.
func TestLimits(t *testing.T) {
	key, nonce := both()
	most := chance(1, api.MaxText)[0]
	for _, c := range [][2]string{{"", most}, {most, ""}, {most, most}} {
		wantBoth(t, key, nonce, c[0], c[1], librarySealed(t, key, nonce, c[0], c[1]))
	}
	for _, extra := range []string{"x", "\x00", most, strings.Repeat("x", 1<<20)} {
		large := most + extra
		for _, c := range [][2]string{{"", large}, {large, ""}, {large, most}, {most, large}, {large, large}} {
			got, e := Seal(key, nonce, c[0], c[1])
			want(t, "Seal", got, e, "", api.ErrLarge, c[0], c[1])
			// Its tag is right: only its length is wrong.
			wantOpen(t, key, nonce, c[0], librarySealed(t, key, nonce, c[0], c[1]), "", api.ErrLarge)
		}
	}
}

// P12: sealed may have more bytes than text, by the 16 of the tag and no more,
// also where its tag is wrong.
func TestLimitOfSealed(t *testing.T) {
	key, nonce := both()
	for n, err := range map[int]api.Errno{16: api.ErrSum, 2000: api.ErrSum, 2001: api.ErrSum, 2015: api.ErrSum, 2016: api.ErrSum, 2017: api.ErrLarge, 4000: api.ErrLarge} {
		wantOpen(t, key, nonce, "", strings.Repeat("x", n), "", err)
	}
}

// P12: fewer than 16 bytes are too short, whatever they are: also the front of
// what was sealed; and 16 are not.
func TestShort(t *testing.T) {
	key, nonce := both()
	for _, text := range []string{"", "hello", strings.Repeat("\x00", 16)} {
		sealed, _ := Seal(key, nonce, "more", text)
		for n := range 16 {
			wantOpen(t, key, nonce, "more", sealed[:n], "", api.ErrShort)
			wantOpen(t, key, nonce, "", strings.Repeat("\x00", n), "", api.ErrShort)
		}
		for n := 16; n < len(sealed); n++ {
			wantOpen(t, key, nonce, "more", sealed[:n], "", api.ErrSum)
			wantOpen(t, key, nonce, "more", sealed[len(sealed)-n:], "", api.ErrSum)
		}
	}
	tag, _ := Seal(key, nonce, "more", "")
	wantOpen(t, key, nonce, "more", tag, "", api.OK)
	wantOpen(t, key, nonce, "more", strings.Repeat("\x00", 16), "", api.ErrSum)
}

// P12: a bit turned, each one, in each of the four: nothing of the text is told.
func TestTurned(t *testing.T) {
	key, nonce := both()
	for _, text := range []string{"", "hello", strings.Repeat("a", 16), strings.Repeat("a", 40)} {
		for _, more := range []string{"more", strings.Repeat("m", 16), strings.Repeat("m", 20)} {
			in := [4]string{key, nonce, more, librarySealed(t, key, nonce, more, text)}
			wantOpen(t, in[0], in[1], in[2], in[3], text, api.OK)
			for i, s := range in {
				for bit := range 8 * len(s) {
					turned := in
					turned[i] = flipped(s, bit)
					wantOpen(t, turned[0], turned[1], turned[2], turned[3], "", api.ErrSum)
				}
			}
		}
	}
}

// P12: bytes turned in the greatest text, each one and each of its tag.
func TestTurnedInTheGreatest(t *testing.T) {
	key, nonce := both()
	most := chance(1, api.MaxText)[0]
	sealed := librarySealed(t, key, nonce, most, most)
	for at := range sealed {
		wantOpen(t, key, nonce, most, flipped(sealed, 8*at+at%8), "", api.ErrSum)
	}
	for at := range most {
		wantOpen(t, key, nonce, flipped(most, 8*at+at%8), sealed, "", api.ErrSum)
	}
}

// P12: bytes 0 more or fewer at the end, bytes that went from more to the text
// or back, the tag alone, another one's tag, and the same bytes twice.
func TestOthersTags(t *testing.T) {
	key, nonce := both()
	more, text := "some more\x00", "some text\x00"
	sealed := librarySealed(t, key, nonce, more, text)
	hidden, tag := sealed[:10], sealed[10:]
	other := librarySealed(t, key, nonce, more, "some test\x00")
	for _, c := range [][2]string{
		{more + "\x00", sealed},
		{more[:9], sealed},
		{more + hidden[:1], hidden[1:] + tag},
		{more[:9], more[9:] + sealed},
		{"", sealed},
		{hidden, more + tag},
		{more, hidden + "\x00" + tag},
		{more, hidden[:9] + tag},
		{more, tag},
		{more, hidden + other[10:]},
		{more, sealed + sealed},
		{more, sealed + "\x00"},
		{more, "\x00" + sealed},
		{more, tag + hidden},
		// The tag is of what text has become, not of text.
		{more, text + tag},
	} {
		wantOpen(t, key, nonce, c[0], c[1], "", api.ErrSum)
	}
}

// wrongTexts have not that many bytes.
func wrongTexts(right int) []string {
	list := []string{strings.Repeat("\xff", 1000), strings.Repeat("\x00", 1<<20), strings.Repeat("é", right)}
	for n := range 70 {
		if n != right {
			list = append(list, strings.Repeat("\x00", n), chance(1, n)[0])
		}
	}
	return list
}

// wantRefused asks both ways for ErrArg.
func wantRefused(t *testing.T, key, nonce, more, text string) {
	t.Helper()
	got, e := Seal(key, nonce, more, text)
	want(t, "Seal", got, e, "", api.ErrArg, key, nonce, more, text)
	wantOpen(t, key, nonce, more, text, "", api.ErrArg)
}

// P12, wrong inputs: keys of 16 bytes, which chapter 5 takes, and nonces that
// are a whole block among them.
func TestWrongKeysAndNonces(t *testing.T) {
	key, nonce := both()
	sealed, _ := Seal(key, nonce, "more", "hello")
	for _, wrong := range wrongTexts(32) {
		wantRefused(t, wrong, nonce, "more", sealed)
		wantRefused(t, wrong, nonce, "", "")
		wantRefused(t, wrong, key, "", "")
	}
	for _, wrong := range wrongTexts(12) {
		wantRefused(t, key, wrong, "more", sealed)
		wantRefused(t, key, wrong, "", "")
		wantRefused(t, nonce, wrong, "", "")
	}
	whole := key + nonce
	for n := range len(whole) + 1 {
		if n != 32 {
			wantRefused(t, whole[:n], whole[n:], "more", sealed)
		}
	}
}

// firstOf answers the error that P12 tells first of those that hold.
func firstOf(arg, large, short, sum bool) api.Errno {
	switch {
	case arg:
		return api.ErrArg
	case large:
		return api.ErrLarge
	case short:
		return api.ErrShort
	case sum:
		return api.ErrSum
	}
	return api.OK
}

// P12: which error stands, for all that can be wrong at once.
func TestWhichErrorStands(t *testing.T) {
	rightKey, rightNonce := both()
	large := strings.Repeat("x", 2017)
	sealed := librarySealed(t, rightKey, rightNonce, "more", "hello")
	for _, key := range []string{rightKey, "", rightKey[:16], rightKey + "x"} {
		for _, nonce := range []string{rightNonce, "", rightNonce[:11], rightNonce + "x"} {
			for _, more := range []string{"more", "", "less", large[:2001], large} {
				for _, text := range []string{sealed, "", "short", large[:15], large[:16], large[:2000], large[:2001], large[:2016], large} {
					arg := key != rightKey || nonce != rightNonce
					err := firstOf(arg, len(more) > 2000 || len(text) > 2016, len(text) < 16, more != "more" || text != sealed)
					opened := ""
					if err == api.OK {
						opened = "hello"
					}
					wantOpen(t, key, nonce, more, text, opened, err)
					err = firstOf(arg, len(more) > 2000 || len(text) > 2000, false, false)
					got, e := Seal(key, nonce, more, text)
					if err == api.OK {
						want(t, "Seal", got, e, librarySealed(t, key, nonce, more, text), err, key, nonce, more, text)
					} else {
						want(t, "Seal", got, e, "", err, key, nonce, more, text)
					}
				}
			}
		}
	}
}

// P12: what Open takes is what Seal makes of its answer, and nothing else.
func checkOpen(t *testing.T, key, nonce, more, sealed string) {
	t.Helper()
	text, e := Open(key, nonce, more, sealed)
	if e != api.OK {
		want(t, "Open", text, e, "", e, key, nonce, more, sealed)
		return
	}
	got, e := Seal(key, nonce, more, text)
	want(t, "Seal of Open", got, e, sealed, api.OK, key, nonce, more, text)
}

// P1 and P12 for whatever comes.
func FuzzAnything(f *testing.F) {
	key, nonce := both()
	for _, n := range []int{0, 1, 15, 16, 17, 40, 2000, 2001, 2016, 2017} {
		f.Add(key, nonce, chance(1, n)[0], chance(1, n)[0])
		f.Add(key, nonce, "", chance(1, n)[0])
		f.Add(key[:16], nonce, "", chance(1, n)[0])
	}
	sealed, _ := Seal(key, nonce, "more", "hello")
	f.Add(key, nonce, "more", sealed)
	f.Add("", "é", "", "")
	f.Fuzz(func(t *testing.T, key, nonce, more, text string) {
		checkOpen(t, key, nonce, more, text)
		err := firstOf(len(key) != 32 || len(nonce) != 12, len(more) > 2000 || len(text) > 2000, false, false)
		if err == api.OK {
			wantBoth(t, key, nonce, more, text, librarySealed(t, key, nonce, more, text))
			return
		}
		got, e := Seal(key, nonce, more, text)
		want(t, "Seal", got, e, "", err, key, nonce, more, text)
	})
}

// calls answers what each call makes of what is handed in.
func calls(key, nonce, more, text, sealed string) []string {
	var list []string
	keep := func(s string, _ api.Errno) { list = append(list, s) }
	keep(Seal(key, nonce, more, text))
	keep(Seal(key, nonce, text, more))
	keep(Open(key, nonce, more, sealed))
	keep(Open(key, nonce, sealed, text))
	return list
}

// shares says whether two texts have a byte of memory in common.
func shares(a, b string) bool {
	if len(a) == 0 || len(b) == 0 {
		return false
	}
	p, q := uintptr(unsafe.Pointer(unsafe.StringData(a))), uintptr(unsafe.Pointer(unsafe.StringData(b)))
	return p < q+uintptr(len(b)) && q < p+uintptr(len(a))
}

// P2: what is handed in stays, the room behind it too, and no answer lies in
// it: also where all that is handed in lies in the same bytes.
func TestNothingShared(t *testing.T) {
	key, nonce := both()
	for _, n := range []int{0, 1, 5, 16, 40, 2000, 2001} {
		text := chance(1, n)[0]
		sealed := librarySealed(t, key, nonce, "more", text)
		room := key + nonce + "more" + text + sealed + "room behind"
		handed := []byte(room)
		whole := unsafe.String(unsafe.SliceData(handed), len(handed))
		myKey, myNonce, myMore, myText, mySealed := whole[:32], whole[32:44], whole[44:48], whole[48:48+n], whole[48+n:64+2*n]
		answers := slices.Concat(
			calls(myKey, myNonce, myMore, myText, mySealed),
			calls(myKey, myKey[:12], myKey, myKey, myKey),
			calls(myKey, myNonce, "", mySealed, myText),
			calls(myNonce, myKey, myMore, myText, mySealed),
		)
		for _, answer := range answers {
			if shares(answer, whole) {
				t.Errorf("an answer to a text of %d bytes lies in what was handed in", n)
			}
		}
		if string(handed) != room {
			t.Errorf("%x became %x", room, handed)
		}
	}
}

// P2: no two answers lie in the same memory, and what was answered stays where
// bytes that were handed in change later on.
func TestAnswersApart(t *testing.T) {
	key, nonce := both()
	handed := []byte(strings.Repeat("some text", 5))
	text := unsafe.String(unsafe.SliceData(handed), len(handed))
	sealed, _ := Seal(key, nonce, "more", text)
	answers := slices.Concat(calls(key, nonce, "more", text, sealed), calls(key, nonce, "more", text, sealed), calls(key, nonce, "", "", sealed))
	for i, s := range answers {
		for _, other := range answers[i+1:] {
			if shares(s, other) {
				t.Fatalf("two answers share %x", s)
			}
		}
	}
	first := strings.Join(answers, "")
	clear(handed)
	if strings.Join(answers, "") != first {
		t.Error("answers changed")
	}
}

// P2: nothing is kept: the same call answers the same, whatever came between,
// what was refused included, and at the same time as others.
func TestAnswersStay(t *testing.T) {
	key, nonce := both()
	sealed, _ := Seal(key, nonce, "more", "some text")
	all := calls(key, nonce, "more", "some text", sealed)
	first := strings.Join(all, "")
	var group sync.WaitGroup
	for _, other := range append(chance(40, 32), "", "short") {
		group.Go(func() {
			calls(other, nonce, "more", "some text", sealed)
			calls(key, other[:len(other)*3/8], "more", "some text", sealed)
			calls(key, nonce, other, other, other)
			if !slices.Equal(calls(key, nonce, "more", "some text", sealed), all) {
				t.Errorf("answers differ behind %x", other)
			}
		})
	}
	group.Wait()
	if strings.Join(all, "") != first {
		t.Error("answers changed")
	}
}

func BenchmarkSeal(b *testing.B) {
	key, nonce := both()
	text := chance(1, api.MaxText)[0]
	for b.Loop() {
		Seal(key, nonce, text, text)
	}
}
