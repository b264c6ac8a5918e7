package seal

import (
	"crypto/sha256"
	"encoding/binary"
	"encoding/hex"
	"math/rand"
	"slices"
	"strings"
	"sync"
	"testing"
	"unsafe"

	"souterrain/api"
	"souterrain/chacha"
	"souterrain/poly"
)

// way is one of the two ways to seal, by a short nonce or by a long one.
type way struct {
	sealName, openName string
	nonce              int // how many bytes a nonce has
	seal, open         func(key, nonce, more, text string) (string, api.Errno)
}

func ways() []way {
	return []way{
		{"Seal", "Open", 12, Seal, Open},
		{"Long", "Unlong", 24, Long, Unlong},
	}
}

// unhex leaves blanks and line ends out.
func unhex(t *testing.T, h string) string {
	t.Helper()
	b, err := hex.DecodeString(strings.Join(strings.Fields(h), ""))
	if err != nil {
		t.Fatal(h)
	}
	return string(b)
}

func want(t *testing.T, name, got string, e api.Errno, text string, err api.Errno, in ...string) {
	t.Helper()
	if got != text || e != err {
		t.Errorf("%s(%.100x) = %.100x, %d; want %.100x, %d", name, in, got, e, text, err)
	}
}

func (w way) wantSealed(t *testing.T, key, nonce, more, text, sealed string, err api.Errno) {
	t.Helper()
	got, e := w.seal(key, nonce, more, text)
	want(t, w.sealName, got, e, sealed, err, key, nonce, more, text)
}

func (w way) wantOpened(t *testing.T, key, nonce, more, sealed, text string, err api.Errno) {
	t.Helper()
	got, e := w.open(key, nonce, more, sealed)
	want(t, w.openName, got, e, text, err, key, nonce, more, sealed)
}

// wantBoth holds sealing against what is known of it, and opening, too.
func (w way) wantBoth(t *testing.T, key, nonce, more, text, sealed string) {
	t.Helper()
	w.wantSealed(t, key, nonce, more, text, sealed, api.OK)
	w.wantOpened(t, key, nonce, more, sealed, text, api.OK)
}

// chance answers texts that are the same in each run.
func chance(count, length int) []string {
	r := rand.New(rand.NewSource(7))
	list := make([]string, count)
	for i := range list {
		b := make([]byte, length)
		r.Read(b)
		list[i] = string(b)
	}
	return list
}

// flipped answers s with one bit changed.
func flipped(s string, bit int) string {
	b := []byte(s)
	b[bit/8] ^= 1 << (bit % 8)
	return string(b)
}

// both answers a key and a nonce.
func (w way) both() (string, string) {
	s := chance(1, 32+w.nonce)[0]
	return s[:32], s[32:]
}

// saidShort answers the key and the nonce that P17 makes of a long nonce.
func saidShort(t *testing.T, key, nonce string) (string, string) {
	t.Helper()
	if len(nonce) != 24 {
		return key, nonce
	}
	sub, e := chacha.Sub(key, nonce[:16])
	if e != api.OK {
		t.Fatal(e)
	}
	return sub, "\x00\x00\x00\x00" + nonce[16:]
}

// saidBlock is Block n.
func saidBlock(t *testing.T, key, nonce string, n uint32) string {
	t.Helper()
	s, e := chacha.Block(key, nonce, n)
	if len(s) != 64 || e != api.OK {
		t.Fatal(e)
	}
	return s
}

// saidTag is the TAG in P16's words.
func saidTag(t *testing.T, key, nonce, more, hidden string) string {
	t.Helper()
	var b []byte
	for _, s := range []string{more, hidden} {
		b = append(b, s...)
		for len(b)%16 != 0 {
			b = append(b, 0)
		}
	}
	b = binary.LittleEndian.AppendUint64(b, uint64(len(more)))
	b = binary.LittleEndian.AppendUint64(b, uint64(len(hidden)))
	s, e := poly.Tag(saidBlock(t, key, nonce, 0)[:32], string(b))
	if e != api.OK {
		t.Fatal(e)
	}
	return s
}

// said is what a text is sealed to in the chapter's words, however long it is;
// which way, the nonce tells.
func said(t *testing.T, key, nonce, more, text string) string {
	t.Helper()
	key, nonce = saidShort(t, key, nonce)
	hidden := []byte(text)
	for i := 0; i < len(text); i += 64 {
		block := saidBlock(t, key, nonce, uint32(1+i/64))
		for j := i; j < min(i+64, len(text)); j++ {
			hidden[j] ^= block[j-i]
		}
	}
	return string(hidden) + saidTag(t, key, nonce, more, string(hidden))
}

// P16 and P17: RFC 8439, 2.8.2 and A.5, and draft-irtf-cfrg-xchacha, A.3.1; and
// what noughts alone come to.
func TestWrittenOut(t *testing.T) {
	key, more := "808182838485868788898a8b8c8d8e8f 909192939495969798999a9b9c9d9e9f", "50515253c0c1c2c3c4c5c6c7"
	text := "Ladies and Gentlemen of the class of '99: If I could offer you only one tip for the future, sunscreen would be it."
	drafts := "Internet-Drafts are draft documents valid for a maximum of six months and may be updated, replaced, " +
		"or obsoleted by other documents at any time. It is inappropriate to use Internet-Drafts as reference " +
		"material or to cite them other than as /\xe2\x80\x9cwork in progress./\xe2\x80\x9d"
	noughts := strings.Repeat("00", 32)
	short, long := ways()[0], ways()[1]
	for _, c := range []struct {
		way                    way
		key, nonce, more, text string
		sealed                 string
	}{
		{short, key, "070000004041424344454647", more, text, `
			d31a8d34648e60db7b86afbc53ef7ec2 a4aded51296e08fea9e2b5a736ee62d6
			3dbea45e8ca9671282fafb69da92728b 1a71de0a9e060b2905d6a5b67ecd3b36
			92ddbd7f2d778b8c9803aee328091b58 fab324e4fad675945585808b4831d7bc
			3ff4def08e4b7a9de576d26586cec64b 6116
			1ae10b594f09e26a7e902ecbd0600691`},
		{short, "1c9240a5eb55d38af333888604f6b5f0 473917c1402b80099dca5cbc207075c0", "000000000102030405060708", "f33388860000000000004e91", drafts, `
			64a0861575861af460f062c79be643bd 5e805cfd345cf389f108670ac76c8cb2
			4c6cfc18755d43eea09ee94e382d26b0 bdb7b73c321b0100d4f03b7f355894cf
			332f830e710b97ce98c8a84abd0b9481 14ad176e008d33bd60f982b1ff37c855
			9797a06ef4f0ef61c186324e2b350638 3606907b6a7c02b0f9f6157b53c867e4
			b9166c767b804d46a59b5216cde7a4e9 9040c5a40433225ee282a1b0a06c523e
			af4534d7f83fa1155b0047718cbc546a 0d072b04b3564eea1b422273f548271a
			0bb2316053fa76991955ebd63159434e cebb4e466dae5a1073a6727627097a10
			49e617d91d361094fa68f0ff77987130 305beaba2eda04df997b714d6c6f2c29
			a6ad5cb4022b02709b
			eead9d67890cbb22392336fea1851f38`},
		{short, noughts, noughts[:24], "", "", "4eb972c9a8fb3a1b382bb4d36f5ffad1"},
		{long, key, "404142434445464748494a4b4c4d4e4f 5051525354555657", more, text, `
			bd6d179d3e83d43b9576579493c0e939 572a1700252bfaccbed2902c21396cbb
			731c7f1b0b4aa6440bf3a82f4eda7e39 ae64c6708c54c216cb96b72e1213b452
			2f8c9ba40db5d945b11b69b982c1bb9e 3f3fac2bc369488f76b2383565d3fff9
			21f9664c97637da9768812f615c68b13 b52e
			c0875924c1c7987947deafd8780acf49`},
		{long, noughts, noughts[:48], "", "", "8f3b945a51906dc8600de9f8962d00e6"},
	} {
		c.way.wantBoth(t, unhex(t, c.key), unhex(t, c.nonce), unhex(t, c.more), c.text, unhex(t, c.sealed))
	}
}

// P16 and P17: the SHA-256 of all that texts of each length are sealed to, as
// others work it out.
func TestKnownOfEachLength(t *testing.T) {
	key, nonce := strings.Repeat("k", 32), "a nonce of 24 bytes: 000"
	for i, right := range []string{
		"e729cee978f30d30a91fad10192684a216b10e7079657e47c4d91a68d59ae26b",
		"b945be95017c90017809cca7afc8185e8e8d91b95aa5f3045df9fb123f3694a2",
	} {
		w, all := ways()[i], sha256.New()
		for n := range api.MaxText + 1 {
			text := strings.Repeat("\xa5", n)
			s, e := w.seal(key, nonce[24-w.nonce:], text[n/2:], text)
			if e != api.OK {
				t.Fatal(e)
			}
			all.Write([]byte(s))
		}
		if got := hex.EncodeToString(all.Sum(nil)); got != right {
			t.Errorf("%s: %s", w.sealName, got)
		}
	}
}

// The document's example: what was sealed with other bytes as more is ErrSum.
func TestOtherMore(t *testing.T) {
	for _, w := range ways() {
		key, nonce := w.both()
		s, e := w.seal(key, nonce, "more", "hello")
		if len(s) != 21 || e != api.OK {
			t.Errorf("%x, %d", s, e)
		}
		w.wantOpened(t, key, nonce, "more", s, "hello", api.OK)
		for _, other := range []string{"", "less", "more\x00", "mor", "MORE", "more more"} {
			w.wantOpened(t, key, nonce, other, s, "", api.ErrSum)
		}
	}
}

// P16 and P17: texts of no byte, of whole blocks and of others, with more of
// these lengths, too; and each length that there may be.
func TestAgainstWords(t *testing.T) {
	lengths := []int{0, 1, 2, 8, 15, 16, 17, 31, 32, 33, 48, 63, 64, 65, 127, 128, 129, 255, 256, 257, 1984, 1999, 2000}
	for _, w := range ways() {
		keys, nonces := chance(len(lengths), 32), chance(len(lengths), w.nonce)
		for i, n := range lengths {
			for j, m := range lengths {
				key, nonce, more, text := keys[i], nonces[j], chance(1, m)[0], chance(1, n)[0]
				sealed := said(t, key, nonce, more, text)
				if len(sealed) != n+16 {
					t.Fatal(len(sealed))
				}
				w.wantBoth(t, key, nonce, more, text, sealed)
			}
		}
		key, nonce := w.both()
		for n := range api.MaxText + 1 {
			text := strings.Repeat("\xa5", n)
			w.wantBoth(t, key, nonce, text[n/2:], text, said(t, key, nonce, text[n/2:], text))
		}
	}
}

// P16 and P17: keys, nonces and texts of one byte again and again.
func TestEdges(t *testing.T) {
	list := []string{"\x00", "\x01", "\x7f", "\x80", "\xff"}
	for _, w := range ways() {
		for _, k := range list {
			for _, o := range list {
				for _, b := range list {
					key, nonce, text := strings.Repeat(k, 32), strings.Repeat(o, w.nonce), strings.Repeat(b, 70)
					w.wantBoth(t, key, nonce, text[:20], text, said(t, key, nonce, text[:20], text))
				}
			}
		}
	}
}

// P16: a text of bytes 0 becomes Block 1 and those behind it, all of them up to
// the last one that there can be: none is Block 0.
func TestBlocksOfText(t *testing.T) {
	w := ways()[0]
	for i, nonce := range append(chance(3, 12), strings.Repeat("\x00", 12), strings.Repeat("\xff", 12)) {
		key := chance(5, 32)[i]
		s, e := Seal(key, nonce, "more", strings.Repeat("\x00", api.MaxText))
		if len(s) != api.MaxText+16 || e != api.OK {
			t.Fatalf("%d bytes, %d", len(s), e)
		}
		var all strings.Builder
		for n := range 32 {
			all.WriteString(saidBlock(t, key, nonce, uint32(1+n)))
		}
		if s[:api.MaxText] != all.String()[:api.MaxText] {
			t.Errorf("by %x the blocks are others", nonce)
		}
		w.wantOpened(t, key, nonce, "more", s, strings.Repeat("\x00", api.MaxText), api.OK)
	}
}

// P16: the TAG's key is the first 32 bytes of Block 0, and no others.
func TestKeyOfTag(t *testing.T) {
	for i, nonce := range chance(50, 12) {
		key, more, text := chance(50, 32)[i], chance(1, 3*i%41)[0], chance(1, i)[0]
		s, e := Seal(key, nonce, more, text)
		if len(s) != i+16 || e != api.OK {
			t.Fatalf("%d bytes, %d", len(s), e)
		}
		if right := saidTag(t, key, nonce, more, s[:i]); s[i:] != right {
			t.Errorf("the tag of %x is %x, not %x", s[:i], s[i:], right)
		}
	}
}

// P16: what the TAG is made of, written out.
func TestTagged(t *testing.T) {
	noughts := strings.Repeat("\x00", 16)
	sixteen := "sixteen bytes it"
	for _, c := range []struct{ more, hidden, right string }{
		{"", "", noughts},
		{"a", "", "a" + noughts[:15] + "\x01" + noughts[:15]},
		{"", "b", "b" + noughts[:15] + noughts[:8] + "\x01" + noughts[:7]},
		{"ab", "cde", "ab" + noughts[:14] + "cde" + noughts[:13] + "\x02" + noughts[:7] + "\x03" + noughts[:7]},
		{sixteen[:15], sixteen, sixteen[:15] + "\x00" + sixteen + "\x0f" + noughts[:7] + "\x10" + noughts[:7]},
		{sixteen, sixteen[:15], sixteen + sixteen[:15] + "\x00" + "\x10" + noughts[:7] + "\x0f" + noughts[:7]},
		{sixteen + "x", "", sixteen + "x" + noughts[:15] + "\x11" + noughts[:15]},
		{strings.Repeat("m", 2000), strings.Repeat("t", 257), strings.Repeat("m", 2000) + strings.Repeat("t", 257) +
			noughts[:15] + "\xd0\x07" + noughts[:6] + "\x01\x01" + noughts[:6]},
	} {
		if got := tagged(c.more, c.hidden); got != c.right {
			t.Errorf("tagged(%q, %q) = %x, want %x", c.more, c.hidden, got, c.right)
		}
	}
}

// P16: numbers of bytes in eight bytes, the lowest first, also where no text is
// as long.
func TestTold(t *testing.T) {
	for n, right := range map[int]string{
		0:                  "\x00\x00\x00\x00\x00\x00\x00\x00",
		1:                  "\x01\x00\x00\x00\x00\x00\x00\x00",
		255:                "\xff\x00\x00\x00\x00\x00\x00\x00",
		256:                "\x00\x01\x00\x00\x00\x00\x00\x00",
		2000:               "\xd0\x07\x00\x00\x00\x00\x00\x00",
		0x0807060504030201: "\x01\x02\x03\x04\x05\x06\x07\x08",
		1<<63 - 1:          "\xff\xff\xff\xff\xff\xff\xff\x7f",
	} {
		if got := told(n); got != right {
			t.Errorf("told(%d) = %x", n, got)
		}
	}
}

// P16 and P17: more is in the tag alone, and a text that has no byte is a tag
// alone.
func TestMoreIsInTheTagAlone(t *testing.T) {
	for _, w := range ways() {
		key, nonce := w.both()
		seen := map[string]int{}
		for n := range 60 {
			more := strings.Repeat("\x00", n)
			with, e := w.seal(key, nonce, more, "some text")
			without, f := w.seal(key, nonce, "", "some text")
			if len(with) != 25 || with[:9] != without[:9] || e != api.OK || f != api.OK {
				t.Errorf("%x, %x, %d, %d", with, without, e, f)
			}
			seen[with]++
			alone, e := w.seal(key, nonce, more, "")
			if len(alone) != 16 || e != api.OK {
				t.Errorf("%x, %d", alone, e)
			}
			seen[alone]++
			w.wantOpened(t, key, nonce, more, alone, "", api.OK)
		}
		if len(seen) != 120 {
			t.Errorf("%d answers", len(seen))
		}
	}
}

// P17: Long and Unlong are Seal and Open by what they make of key and nonce.
func TestLongBySub(t *testing.T) {
	short, long := ways()[0], ways()[1]
	nonces := append(chance(30, 24), strings.Repeat("\x00", 24), strings.Repeat("\xff", 24),
		strings.Repeat("\x00", 16)+"12345678", "0123456789abcdef"+strings.Repeat("\x00", 8))
	for i, nonce := range nonces {
		key, more, text := chance(40, 32)[i], chance(1, 2*i)[0], chance(1, 3*i)[0]
		sub, e := chacha.Sub(key, nonce[:16])
		if e != api.OK {
			t.Fatal(e)
		}
		rest := "\x00\x00\x00\x00" + nonce[16:]
		sealed, e := Seal(sub, rest, more, text)
		if e != api.OK {
			t.Fatal(e)
		}
		long.wantBoth(t, key, nonce, more, text, sealed)
		sealed, e = Long(key, nonce, more, text)
		if e != api.OK {
			t.Fatal(e)
		}
		short.wantBoth(t, sub, rest, more, text, sealed)
		short.wantOpened(t, key, nonce[:12], more, sealed, "", api.ErrSum)
		short.wantOpened(t, key, nonce[12:], more, sealed, "", api.ErrSum)
		short.wantOpened(t, key, rest, more, sealed, "", api.ErrSum)
	}
}

// P16 and P17: just as many bytes as there may be, and one more.
func TestLimits(t *testing.T) {
	most := chance(1, api.MaxText)[0]
	for _, w := range ways() {
		key, nonce := w.both()
		for _, c := range [][2]string{{"", most}, {most, ""}, {most, most}} {
			w.wantBoth(t, key, nonce, c[0], c[1], said(t, key, nonce, c[0], c[1]))
		}
		for _, extra := range []string{"x", "\x00", most, strings.Repeat("x", 1<<20)} {
			large := most + extra
			for _, c := range [][2]string{{"", large}, {large, ""}, {large, most}, {most, large}, {large, large}} {
				w.wantSealed(t, key, nonce, c[0], c[1], "", api.ErrLarge)
				// Its tag is right: only its length is wrong.
				w.wantOpened(t, key, nonce, c[0], said(t, key, nonce, c[0], c[1]), "", api.ErrLarge)
			}
		}
	}
}

// P16 and P17: sealed may have more bytes than text, by the 16 of the tag and
// no more, also where its tag is wrong.
func TestLimitOfSealed(t *testing.T) {
	for _, w := range ways() {
		key, nonce := w.both()
		for n, err := range map[int]api.Errno{16: api.ErrSum, 2000: api.ErrSum, 2001: api.ErrSum, 2015: api.ErrSum, 2016: api.ErrSum, 2017: api.ErrLarge, 4000: api.ErrLarge} {
			w.wantOpened(t, key, nonce, "", strings.Repeat("x", n), "", err)
		}
	}
}

// P16 and P17: fewer than 16 bytes are too short, whatever they are: also the
// front of what was sealed; and 16 are not.
func TestShort(t *testing.T) {
	for _, w := range ways() {
		key, nonce := w.both()
		for _, text := range []string{"", "hello", strings.Repeat("\x00", 16)} {
			sealed := said(t, key, nonce, "more", text)
			for n := range 16 {
				w.wantOpened(t, key, nonce, "more", sealed[:n], "", api.ErrShort)
				w.wantOpened(t, key, nonce, "", strings.Repeat("\x00", n), "", api.ErrShort)
			}
			for n := 16; n < len(sealed); n++ {
				w.wantOpened(t, key, nonce, "more", sealed[:n], "", api.ErrSum)
				w.wantOpened(t, key, nonce, "more", sealed[len(sealed)-n:], "", api.ErrSum)
			}
		}
		w.wantOpened(t, key, nonce, "more", said(t, key, nonce, "more", ""), "", api.OK)
		w.wantOpened(t, key, nonce, "more", strings.Repeat("\x00", 16), "", api.ErrSum)
	}
}

// P16 and P17: a bit turned, each one, in each of the four: nothing of the text
// is told.
func TestTurned(t *testing.T) {
	for _, w := range ways() {
		key, nonce := w.both()
		for _, text := range []string{"", "hello", strings.Repeat("a", 16), strings.Repeat("a", 70)} {
			for _, more := range []string{"more", strings.Repeat("m", 16), strings.Repeat("m", 20)} {
				in := [4]string{key, nonce, more, said(t, key, nonce, more, text)}
				w.wantOpened(t, in[0], in[1], in[2], in[3], text, api.OK)
				for i, s := range in {
					for bit := range 8 * len(s) {
						turned := in
						turned[i] = flipped(s, bit)
						w.wantOpened(t, turned[0], turned[1], turned[2], turned[3], "", api.ErrSum)
					}
				}
			}
		}
	}
}

// P16 and P17: bytes turned in the greatest text, each one and each of its tag.
func TestTurnedInTheGreatest(t *testing.T) {
	most := chance(1, api.MaxText)[0]
	for _, w := range ways() {
		key, nonce := w.both()
		sealed := said(t, key, nonce, most, most)
		for at := range sealed {
			w.wantOpened(t, key, nonce, most, flipped(sealed, 8*at+at%8), "", api.ErrSum)
		}
		for at := range most {
			w.wantOpened(t, key, nonce, flipped(most, 8*at+at%8), sealed, "", api.ErrSum)
		}
	}
}

// P16 and P17: bytes 0 more or fewer at the end, bytes that went from more to
// the text or back, the tag alone, another one's tag, and the same bytes twice.
func TestOthersTags(t *testing.T) {
	more, text := "some more\x00", "some text\x00"
	for _, w := range ways() {
		key, nonce := w.both()
		sealed := said(t, key, nonce, more, text)
		hidden, tag := sealed[:10], sealed[10:]
		other := said(t, key, nonce, more, "some test\x00")
		for _, c := range [][2]string{
			{more + "\x00", sealed},
			{more[:9], sealed},
			{more + hidden[:1], hidden[1:] + tag},
			{more[:9], more[9:] + sealed},
			{"", sealed},
			{hidden, more + tag},
			{more, hidden + "\x00" + tag},
			{more, hidden[:9] + tag},
			{more, tag},
			{more, hidden + other[10:]},
			{more, sealed + sealed},
			{more, sealed + "\x00"},
			{more, "\x00" + sealed},
			{more, tag + hidden},
			// The tag is of what text has become, not of text.
			{more, text + tag},
			{text, hidden + saidTag(t, key, nonce[:12], text, text)},
		} {
			w.wantOpened(t, key, nonce, c[0], c[1], "", api.ErrSum)
		}
	}
}

// P16 and P17: what one way seals the other one doesn't open, nor does it by
// another key or nonce.
func TestOthersSealed(t *testing.T) {
	short, long := ways()[0], ways()[1]
	key, nonce := long.both()
	other := chance(3, 32)[2]
	sealed := said(t, key, nonce, "more", "hello")
	long.wantOpened(t, other, nonce, "more", sealed, "", api.ErrSum)
	long.wantOpened(t, key, other[:24], "more", sealed, "", api.ErrSum)
	long.wantOpened(t, key, nonce[12:]+nonce[:12], "more", sealed, "", api.ErrSum)
	sealed = said(t, key, nonce[:12], "more", "hello")
	short.wantOpened(t, other, nonce[:12], "more", sealed, "", api.ErrSum)
	short.wantOpened(t, key, other[:12], "more", sealed, "", api.ErrSum)
	long.wantOpened(t, key, nonce, "more", sealed, "", api.ErrSum)
}

// wrongTexts have not that many bytes.
func wrongTexts(right int) []string {
	list := []string{strings.Repeat("\xff", 1000), strings.Repeat("\x00", 1<<20), strings.Repeat("é", right)}
	for n := range 70 {
		if n != right {
			list = append(list, strings.Repeat("\x00", n), chance(1, n)[0])
		}
	}
	return list
}

// wantRefused asks both directions for ErrArg.
func (w way) wantRefused(t *testing.T, key, nonce, more, text string) {
	t.Helper()
	w.wantSealed(t, key, nonce, more, text, "", api.ErrArg)
	w.wantOpened(t, key, nonce, more, text, "", api.ErrArg)
}

// P16 and P17, wrong inputs: among them a nonce of 24 bytes for Seal, one of 12
// for Long, and one of 16, which chapter 8's Sub takes.
func TestWrongKeysAndNonces(t *testing.T) {
	for _, w := range ways() {
		key, nonce := w.both()
		sealed := said(t, key, nonce, "more", "hello")
		for _, wrong := range wrongTexts(32) {
			w.wantRefused(t, wrong, nonce, "more", sealed)
			w.wantRefused(t, wrong, nonce, "", "")
			w.wantRefused(t, wrong, key, "", "")
		}
		for _, wrong := range wrongTexts(w.nonce) {
			w.wantRefused(t, key, wrong, "more", sealed)
			w.wantRefused(t, key, wrong, "", "")
			w.wantRefused(t, nonce, wrong, "", "")
		}
		whole := key + nonce
		for n := range len(whole) + 1 {
			if n != 32 {
				w.wantRefused(t, whole[:n], whole[n:], "more", sealed)
			}
		}
	}
}

// firstOf answers the error that P16 tells first of those that hold.
func firstOf(arg, large, short, sum bool) api.Errno {
	switch {
	case arg:
		return api.ErrArg
	case large:
		return api.ErrLarge
	case short:
		return api.ErrShort
	case sum:
		return api.ErrSum
	}
	return api.OK
}

// wantSaid holds sealing against the chapter's words, whatever is handed in.
func (w way) wantSaid(t *testing.T, key, nonce, more, text string) {
	t.Helper()
	arg := len(key) != 32 || len(nonce) != w.nonce
	err := firstOf(arg, len(more) > 2000 || len(text) > 2000, false, false)
	if err != api.OK {
		w.wantSealed(t, key, nonce, more, text, "", err)
		return
	}
	w.wantBoth(t, key, nonce, more, text, said(t, key, nonce, more, text))
}

// P16 and P17: which error stands, for all that can be wrong at once.
func TestWhichErrorStands(t *testing.T) {
	large := strings.Repeat("x", 2017)
	for _, w := range ways() {
		rightKey, rightNonce := w.both()
		sealed := said(t, rightKey, rightNonce, "more", "hello")
		for _, key := range []string{rightKey, "", rightKey[:16], rightKey + "x"} {
			for _, nonce := range []string{rightNonce, "", rightNonce[1:], rightNonce + "x", large[:36-w.nonce]} {
				for _, more := range []string{"more", "", "less", large[:2001], large} {
					for _, text := range []string{sealed, "", "short", large[:15], large[:16], large[:2000], large[:2001], large[:2016], large} {
						arg := key != rightKey || nonce != rightNonce
						err := firstOf(arg, len(more) > 2000 || len(text) > 2016, len(text) < 16, more != "more" || text != sealed)
						opened := ""
						if err == api.OK {
							opened = "hello"
						}
						w.wantOpened(t, key, nonce, more, text, opened, err)
						w.wantSaid(t, key, nonce, more, text)
					}
				}
			}
		}
	}
}

// checkOpen: what is opened is what its text is sealed to, and nothing else is.
func (w way) checkOpen(t *testing.T, key, nonce, more, sealed string) {
	t.Helper()
	text, e := w.open(key, nonce, more, sealed)
	if e != api.OK {
		want(t, w.openName, text, e, "", e, key, nonce, more, sealed)
		return
	}
	w.wantSealed(t, key, nonce, more, text, sealed, api.OK)
}

// P1, P16 and P17 for whatever comes.
func FuzzAnything(f *testing.F) {
	for _, w := range ways() {
		key, nonce := w.both()
		for _, n := range []int{0, 1, 15, 16, 17, 63, 64, 65, 2000, 2001, 2016, 2017} {
			f.Add(key, nonce, chance(1, n)[0], chance(1, n)[0])
			f.Add(key, nonce, "", chance(1, n)[0])
			f.Add(key[:16], nonce, "", chance(1, n)[0])
		}
		sealed, _ := w.seal(key, nonce, "more", "hello")
		f.Add(key, nonce, "more", sealed)
	}
	f.Add("", "é", "", "")
	f.Fuzz(func(t *testing.T, key, nonce, more, text string) {
		for _, w := range ways() {
			w.checkOpen(t, key, nonce, more, text)
			w.wantSaid(t, key, nonce, more, text)
		}
	})
}

// calls answers what each call makes of what is handed in.
func (w way) calls(key, nonce, more, text, sealed string) []string {
	var list []string
	keep := func(s string, _ api.Errno) { list = append(list, s) }
	keep(w.seal(key, nonce, more, text))
	keep(w.seal(key, nonce, text, more))
	keep(w.open(key, nonce, more, sealed))
	keep(w.open(key, nonce, sealed, text))
	return list
}

// shares says whether two texts have a byte of memory in common.
func shares(a, b string) bool {
	if len(a) == 0 || len(b) == 0 {
		return false
	}
	p, q := uintptr(unsafe.Pointer(unsafe.StringData(a))), uintptr(unsafe.Pointer(unsafe.StringData(b)))
	return p < q+uintptr(len(b)) && q < p+uintptr(len(a))
}

// P2: what is handed in stays, the room behind it too, and no answer lies in
// it: also where all that is handed in lies in the same bytes.
func TestNothingShared(t *testing.T) {
	for _, w := range ways() {
		key, nonce := w.both()
		for _, n := range []int{0, 1, 5, 16, 64, 70, 2000, 2001} {
			text := chance(1, n)[0]
			parts := []string{key, nonce, "more", text, said(t, key, nonce, "more", text), "room behind"}
			room := strings.Join(parts, "")
			handed := []byte(room)
			whole := unsafe.String(unsafe.SliceData(handed), len(handed))
			at := 0
			for i, part := range parts {
				parts[i] = whole[at : at+len(part)]
				at += len(part)
			}
			answers := slices.Concat(
				w.calls(parts[0], parts[1], parts[2], parts[3], parts[4]),
				w.calls(parts[0], parts[0][:w.nonce], parts[0], parts[0], parts[0]),
				w.calls(parts[0], parts[1], "", parts[4], parts[3]),
				w.calls(parts[1], parts[0], parts[2], parts[3], parts[4]),
			)
			for _, answer := range answers {
				if shares(answer, whole) {
					t.Errorf("%s: an answer to a text of %d bytes lies in what was handed in", w.sealName, n)
				}
			}
			if string(handed) != room {
				t.Errorf("%x became %x", room, handed)
			}
		}
	}
}

// P2: no two answers lie in the same memory, and what was answered stays where
// bytes that were handed in change later on.
func TestAnswersApart(t *testing.T) {
	for _, w := range ways() {
		key, nonce := w.both()
		handed := []byte(strings.Repeat("some text", 5))
		text := unsafe.String(unsafe.SliceData(handed), len(handed))
		sealed := said(t, key, nonce, "more", text)
		answers := slices.Concat(w.calls(key, nonce, "more", text, sealed), w.calls(key, nonce, "more", text, sealed), w.calls(key, nonce, "", "", sealed))
		for i, s := range answers {
			for _, other := range answers[i+1:] {
				if shares(s, other) {
					t.Fatalf("two answers share %x", s)
				}
			}
		}
		first := strings.Join(answers, "")
		clear(handed)
		if strings.Join(answers, "") != first {
			t.Error("answers changed")
		}
	}
}

// P2: nothing is kept: the same call answers the same, whatever came between,
// what was refused included, and at the same time as others.
func TestAnswersStay(t *testing.T) {
	for _, w := range ways() {
		key, nonce := w.both()
		sealed := said(t, key, nonce, "more", "some text")
		all := w.calls(key, nonce, "more", "some text", sealed)
		first := strings.Join(all, "")
		var group sync.WaitGroup
		for _, other := range append(chance(40, 32), "", "short") {
			group.Go(func() {
				w.calls(other, nonce, "more", "some text", sealed)
				w.calls(key, other[:len(other)*w.nonce/32], "more", "some text", sealed)
				w.calls(key, nonce, other, other, other)
				if !slices.Equal(w.calls(key, nonce, "more", "some text", sealed), all) {
					t.Errorf("answers differ behind %x", other)
				}
			})
		}
		group.Wait()
		if strings.Join(all, "") != first {
			t.Error("answers changed")
		}
	}
}

func BenchmarkSeal(b *testing.B) {
	for _, w := range ways() {
		b.Run(w.sealName, func(b *testing.B) {
			key, nonce := w.both()
			text := chance(1, api.MaxText)[0]
			for b.Loop() {
				w.seal(key, nonce, text, text)
			}
		})
	}
}
