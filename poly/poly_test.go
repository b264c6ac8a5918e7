package poly

import (
	"encoding/hex"
	"math/big"
	"math/rand"
	"slices"
	"strings"
	"sync"
	"testing"
	"unsafe"

	"souterrain/api"
)

// nought and full are halves of a key, or blocks, of one byte again and again;
// one and two are R as 1 and as 2.
var (
	nought = strings.Repeat("\x00", 16)
	full   = strings.Repeat("\xff", 16)
	one    = "\x01" + nought[1:]
	two    = "\x02" + nought[1:]
)

// unhex leaves blanks and line ends out.
func unhex(t *testing.T, h string) string {
	t.Helper()
	b, err := hex.DecodeString(strings.Join(strings.Fields(h), ""))
	if err != nil {
		t.Fatal(h)
	}
	return string(b)
}

func want(t *testing.T, key, text, right string, err api.Errno) {
	t.Helper()
	got, e := Tag(key, text)
	if got != right || e != err {
		t.Errorf("Tag(%.40x, %.100x), of %d bytes, = %x, %d; want %x, %d", key, text, len(text), got, e, right, err)
	}
}

func wantTag(t *testing.T, key, text, right string) {
	t.Helper()
	want(t, key, text, right, api.OK)
}

// wantSaid holds Tag against the chapter's words.
func wantSaid(t *testing.T, key, text string) {
	t.Helper()
	wantTag(t, key, text, said(key, text))
}

// bigPrime is 2^130 - 5, worked out anew here.
func bigPrime() *big.Int { return near(130, -5) }

// near answers 2^bits + d.
func near(bits uint, d int64) *big.Int {
	n := new(big.Int).Lsh(big.NewInt(1), bits)
	return n.Add(n, big.NewInt(d))
}

// bigOf reads a text as P15 says: the lowest byte first.
func bigOf(s string) *big.Int {
	b := []byte(s)
	slices.Reverse(b)
	return new(big.Int).SetBytes(b)
}

// textOf cuts n to 128 bits.
func textOf(n *big.Int) string {
	cut := new(big.Int).Mod(n, near(128, 0))
	b := cut.FillBytes(make([]byte, 16))
	slices.Reverse(b)
	return string(b)
}

// saidBits says which bits of R stand, in P15's words.
func saidBits() *big.Int {
	r := near(128, -1)
	for _, i := range []int{3, 7, 11, 15} {
		for bit := 4; bit < 8; bit++ {
			r.SetBit(r, 8*i+bit, 0)
		}
	}
	for _, i := range []int{4, 8, 12} {
		for bit := range 2 {
			r.SetBit(r, 8*i+bit, 0)
		}
	}
	return r
}

// saidSum is A, as P15 says it.
func saidSum(key, text string) *big.Int {
	r := new(big.Int).And(bigOf(key[:16]), saidBits())
	a, p := new(big.Int), bigPrime()
	for i := 0; i < len(text); i += 16 {
		a.Add(a, bigOf(text[i:min(i+16, len(text))]+"\x01"))
		a.Mul(a, r)
		a.Mod(a, p)
	}
	return a
}

func said(key, text string) string {
	return textOf(new(big.Int).Add(saidSum(key, text), bigOf(key[16:])))
}

// chance answers texts that are the same in each run.
func chance(count, length int) []string {
	r := rand.New(rand.NewSource(130))
	list := make([]string, count)
	for i := range list {
		b := make([]byte, length)
		r.Read(b)
		list[i] = string(b)
	}
	return list
}

// power answers the half of a key, or the block, of the one bit 2^i.
func power(i uint) string { return textOf(near(i, 0)) }

// halves are halves of keys, and blocks, too: 0, those around the ends of limbs
// and of words, and of one byte again and again.
func halves() []string {
	list := []string{nought, one, two, full, strings.Repeat("\x55", 16), strings.Repeat("\xaa", 16)}
	for _, i := range []uint{8, 26, 32, 52, 64, 78, 96, 104, 123, 127} {
		list = append(list, power(i), textOf(near(i, -1)))
	}
	for d := int64(-7); d < 0; d++ {
		list = append(list, textOf(near(128, d)))
	}
	return list
}

// P15: RFC 8439, section 2.5.2, and some of its appendix A.3: what A comes to
// there lies at the edges of 2^130 - 5.
func TestWrittenOut(t *testing.T) {
	noughts := strings.Repeat("00", 16)
	ones := strings.Repeat("ff", 16)
	steps := "e33594d7505e43b9 0000000000000000 3394d7505e4379cd 0100000000000000 0000000000000000 0000000000000000"
	for _, c := range [][3]string{
		{"85d6be7857556d337f4452fe42d506a8 0103808afb0db2fd4abff6af4149f51b",
			hex.EncodeToString([]byte("Cryptographic Forum Research Group")), "a8061dc1305136c6c22b8baf0c0127a9"},
		{noughts + noughts, noughts + noughts + noughts + noughts, noughts},
		{"1c9240a5eb55d38af333888604f6b5f0 473917c1402b80099dca5cbc207075c0",
			hex.EncodeToString([]byte("'Twas brillig, and the slithy toves\nDid gyre and gimble in the wabe:\n" +
				"All mimsy were the borogoves,\nAnd the mome raths outgrabe.")), "4541669a7eaaee61e708dc7cbcc5eb62"},
		{"02" + noughts[2:] + noughts, ones, "03" + noughts[2:]},
		{"02" + noughts[2:] + ones, "02" + noughts[2:], "03" + noughts[2:]},
		{"01" + noughts[2:] + noughts, ones + "f0" + ones[2:] + "11" + noughts[2:], "05" + noughts[2:]},
		{"01" + noughts[2:] + noughts, ones + "fb" + strings.Repeat("fe", 15) + strings.Repeat("01", 16), noughts},
		{"02" + noughts[2:] + noughts, "fd" + ones[2:], "fa" + ones[2:]},
		{"01000000000000000400000000000000" + noughts, steps + "0100000000000000 0000000000000000", "1400000000000000 5500000000000000"},
		{"01000000000000000400000000000000" + noughts, steps, "13" + noughts[2:]},
		// The tag of the sealed text of section 2.8.2.
		{"7bac2b252db447af09b67a55a4e95584 0ae1d6731075d9eb2a9375783ed553ff",
			`50515253c0c1c2c3c4c5c6c700000000 d31a8d34648e60db7b86afbc53ef7ec2
			a4aded51296e08fea9e2b5a736ee62d6 3dbea45e8ca9671282fafb69da92728b
			1a71de0a9e060b2905d6a5b67ecd3b36 92ddbd7f2d778b8c9803aee328091b58
			fab324e4fad675945585808b4831d7bc 3ff4def08e4b7a9de576d26586cec64b
			61160000000000000000000000000000 0c000000000000007200000000000000`,
			"1ae10b594f09e26a7e902ecbd0600691"},
	} {
		wantTag(t, unhex(t, c[0]), unhex(t, c[1]), unhex(t, c[2]))
	}
}

// P15: RFC 8439, appendix A.3, tests 2 and 3: by R alone, and by N alone.
func TestEachHalfWrittenOut(t *testing.T) {
	text := "Any submission to the IETF intended by the Contributor for publication as all or part of an IETF " +
		"Internet-Draft or RFC and any statement made within the context of an IETF activity is considered an " +
		"\"IETF Contribution\". Such statements include oral statements in IETF sessions, as well as written and " +
		"electronic communications made at any time or place, which are addressed to"
	half := unhex(t, "36e5f6b5c5e06070f0efca96227a863e")
	wantTag(t, nought+half, text, half)
	wantTag(t, half+nought, text, unhex(t, "f3477e7cd95417af89a6b8794c310cf0"))
}

// P15: numbers of key, text and Tag have their lowest byte first; a block of
// fewer than 16 bytes has its byte 1 right behind them.
func TestLowestByteFirst(t *testing.T) {
	count := "\x01\x02\x03\x04\x05\x06\x07\x08\x09\x0a\x0b\x0c\x0d\x0e\x0f\x10"
	r256, r65536 := nought[:1]+one[:15], nought[:2]+one[:14]
	for _, c := range [][3]string{
		{one + nought, "\x05", "\x05\x01" + nought[2:]},
		{one + nought, "\x00", "\x00\x01" + nought[2:]},
		{one + nought, "\x05\x00", "\x05\x00\x01" + nought[3:]},
		{one + nought, "\x00\x05", "\x00\x05\x01" + nought[3:]},
		{one + nought, count[:15], count[:15] + "\x01"},
		{one + nought, count, count}, // the byte 1 is cut
		{two + nought, "\x05\x81", "\x0a\x02\x03" + nought[3:]},
		{r256 + nought, "\x05", "\x00\x05\x01" + nought[3:]},
		{r65536 + nought, "\x05", "\x00\x00\x05\x01" + nought[4:]},
		{one + count, "\x05", "\x06\x03" + count[2:]},
		{one + r256, "\x05\xff", "\x05\x00\x02" + nought[3:]},
		{one + "\xff" + nought[1:], "\x05", "\x04\x02" + nought[2:]},
		{nought + count, count, count},
		// 2^128 times 4 is 2^130, which leaves 5; times 256 it is 64 times that.
		{"\x04" + nought[1:] + nought, nought, "\x05" + nought[1:]},
		{r256 + nought, nought, "\x40\x01" + nought[2:]},
		// The last byte, 16, comes to 2^128, too: to four times 5 more.
		{r256 + nought, count, "\x54\x02" + count[1:15]},
	} {
		wantTag(t, c[0], c[1], c[2])
	}
}

// P15, the edge: of a text of no byte A stays 0, whatever R is.
func TestNoByte(t *testing.T) {
	for _, r := range append(halves(), chance(50, 16)...) {
		for _, n := range append(halves(), chance(50, 16)...) {
			wantTag(t, r+n, "", n)
		}
	}
}

// texts has some of no byte, of whole blocks, and with a last block of fewer
// than 16 bytes; noughts among them, at the ends and alone.
func texts() []string {
	var list []string
	for _, n := range []int{0, 1, 2, 3, 4, 7, 8, 13, 14, 15, 16, 17, 20, 31, 32, 33, 47, 48, 49, 64, 100} {
		list = append(list, chance(1, n)[0], strings.Repeat("\x00", n), strings.Repeat("\xff", n))
	}
	return append(list, "a\x00", "\x00a", nought+"a", "a"+nought)
}

// P15: halves of keys at their edges, and chance.
func TestAgainstWords(t *testing.T) {
	for i, r := range append(halves(), chance(60, 16)...) {
		for j, text := range texts() {
			n := halves()[(i+j)%len(halves())]
			wantSaid(t, r+n, text)
		}
	}
	for _, s := range chance(5000, 100) {
		wantSaid(t, s[:32], s[32:])
	}
}

// P15: each length up to 2100 bytes: whole blocks, and a last one of each number
// of bytes.
func TestEachLength(t *testing.T) {
	key, most := chance(1, 32)[0], chance(1, 2132)[0][32:]
	for n := range len(most) + 1 {
		wantSaid(t, key, most[:n])
		if n%16 != 0 {
			wantSaid(t, full+full, strings.Repeat("\xff", n))
		}
	}
}

// P15: how many bytes 0 a text has at its end counts, and how many blocks.
func TestNoughtsCount(t *testing.T) {
	key := chance(1, 32)[0]
	seen := map[string]string{}
	for n := range 200 {
		for _, front := range []string{"", "a", nought[1:] + "a"} {
			text := front + strings.Repeat("\x00", n)
			tag, e := Tag(key, text)
			if was, ok := seen[tag]; ok || len(tag) != 16 || e != api.OK {
				t.Errorf("Tag of %x = %x, %d, which is that of %x", text, tag, e, was)
			}
			seen[tag] = text
		}
	}
}

// P15: each bit of R by itself, ahead of a text whose number is 256, so that A
// tells which bit it is: those that R must not have come to nothing.
func TestEachBitOfR(t *testing.T) {
	out := 0
	for bit := range uint(128) {
		i, high := bit/8, bit%8
		key := power(bit) + nought
		switch {
		case i%4 == 3 && high >= 4, i%4 == 0 && i > 0 && high < 2:
			out++
			wantTag(t, key, "\x00", nought)
			wantTag(t, key, full+"more", nought)
		default:
			right := near(bit+8, 0)
			wantTag(t, key, "\x00", textOf(right.Mod(right, bigPrime())))
		}
	}
	if out != 22 {
		t.Errorf("%d bits are left out", out)
	}
}

// flipped answers s with one bit changed.
func flipped(s string, bit uint) string {
	b := []byte(s)
	b[bit/8] ^= 1 << (bit % 8)
	return string(b)
}

// P15: each bit of key's and of text's counts, but those that R must not have,
// also where all the others stand.
func TestEachBitCounts(t *testing.T) {
	for _, s := range []string{chance(1, 82)[0], strings.Repeat("\xff", 82), strings.Repeat("\x00", 82)} {
		key, text := s[:32], s[32:]
		if s[0] == 0 {
			key = one + nought
		}
		first, _ := Tag(key, text)
		for bit := range uint(8 * len(s)) {
			other := flipped(key+text, bit)
			wantSaid(t, other[:32], other[32:])
			tag, _ := Tag(other[:32], other[32:])
			counts := bit >= 128 || saidBits().Bit(int(bit)) == 1
			if (tag != first) != counts {
				t.Errorf("bit %d of %x: the tag is %x, and was %x", bit, s, tag, first)
			}
		}
	}
}

// P15, the edge: with R as 0, also as it is left of bits that it must not have,
// each Tag is N.
func TestNoughtAsR(t *testing.T) {
	gone := new(big.Int).Sub(near(128, -1), saidBits())
	if textOf(gone) != "\x00\x00\x00\xf0\x03\x00\x00\xf0\x03\x00\x00\xf0\x03\x00\x00\xf0" {
		t.Errorf("%x", textOf(gone))
	}
	for _, r := range []string{nought, textOf(gone)} {
		for _, n := range append(halves(), chance(20, 16)...) {
			for _, text := range append(texts(), strings.Repeat("\xff", 5000)) {
				wantTag(t, r+n, text, n)
			}
		}
	}
}

// blocksOf answers whole blocks whose numbers, with a byte 1 behind each, are n
// together.
func blocksOf(t *testing.T, n *big.Int) string {
	t.Helper()
	most := near(129, -1)
	text := ""
	for left := new(big.Int).Set(n); left.Sign() > 0; {
		// What is left behind a block is none, or enough for another one.
		block := new(big.Int).Sub(left, near(128, 0))
		if left.Cmp(most) <= 0 {
			block.Set(left)
		} else if block.Cmp(most) > 0 {
			block.Set(most)
		}
		low := new(big.Int).Sub(block, near(128, 0))
		if low.Sign() < 0 {
			t.Fatal(n)
		}
		text += textOf(low)
		left.Sub(left, block)
	}
	return text
}

// P15, the edge: by R as 1 A is what the blocks are together: 2^130 - 5, just
// below it, just above it, and as often again.
func TestAroundPrime(t *testing.T) {
	for _, times := range []int64{1, 2, 3, 10} {
		for d := int64(-40); d <= 40; d++ {
			n := new(big.Int).Mul(bigPrime(), big.NewInt(times))
			text := blocksOf(t, n.Add(n, big.NewInt(d)))
			right := big.NewInt(d)
			if d < 0 {
				right.Add(right, bigPrime())
			}
			wantTag(t, one+nought, text, textOf(right))
			for _, half := range halves() {
				wantTag(t, one+half, text, textOf(new(big.Int).Add(right, bigOf(half))))
			}
			// What comes behind has to count from what A leaves.
			wantSaid(t, one+full, text+"x")
			wantSaid(t, one+full, text+full)
		}
	}
}

// P15, the edge, written out: two blocks by R as 1.
func TestAroundPrimeWrittenOut(t *testing.T) {
	for last, right := range map[string]string{
		"\xf9": "\xf8" + full[1:], // 2^130 - 8
		"\xfa": "\xf9" + full[1:],
		"\xfb": "\xfa" + full[1:], // 2^130 - 6
		"\xfc": nought,            // 2^130 - 5
		"\xfd": "\x01" + nought[1:],
		"\xfe": "\x02" + nought[1:],
		"\xff": "\x03" + nought[1:], // 2^130 - 2
	} {
		wantTag(t, one+nought, full+last+full[1:], right)
		wantTag(t, one+nought, last+full[1:]+full, right)
	}
	// Blocks of noughts alone are 2^128 each.
	for n, right := range []string{nought, nought, nought, nought, "\x05" + nought[1:], "\x05" + nought[1:]} {
		wantTag(t, one+nought, strings.Repeat(nought, n), right)
	}
	wantTag(t, one+nought, full+full+"\x03", "\x06\x01"+nought[2:])
}

// P15, the edge: one block by R as 2, up to the greatest.
func TestAroundPrimeByTwo(t *testing.T) {
	for d := int64(-60); d < 0; d++ {
		// The block is 2^129 + d: twice that is 2^130 - 5 where d is -2.5.
		right := near(130, 2*d)
		wantTag(t, two+nought, textOf(near(128, d)), textOf(right.Mod(right, bigPrime())))
	}
	wantTag(t, two+nought, "\xfd"+full[1:], "\xfa"+full[1:])
	wantTag(t, two+nought, "\xfe"+full[1:], "\x01"+nought[1:])
}

// P15, the edge: A and N together are 2^128 or more, or just less: what goes
// beyond is cut, also where it goes beyond 2^130.
func TestSumIsCut(t *testing.T) {
	for _, c := range [][3]string{
		{nought, full, full},            // 2^128 and 2^128 - 1
		{one, full, nought},             // 2^128 + 1 and 2^128 - 1
		{full, one, nought},             // 2^129 - 1 and 1
		{full, full, "\xfe" + full[1:]}, // 2^129 - 1 and 2^128 - 1
		{"\x05", full, "\x04\x01"},      // 261 and 2^128 - 1
		{full + "\xfb" + full[1:], "\x05" + nought[1:], "\xff" + full[1:]},
		{full + "\xfb" + full[1:], "\x06" + nought[1:], nought}, // 2^130 - 6 and 6
		{full + "\xfb" + full[1:], "\x07" + nought[1:], one},
		{full + "\xfb" + full[1:], full, "\xf9" + full[1:]}, // 2^130 - 6 and 2^128 - 1
		{nought + nought + nought, full, full},              // 3 times 2^128, and 2^128 - 1
		{nought + nought + one, full, nought},
	} {
		wantTag(t, one+c[1], c[0], (c[2] + nought)[:16])
	}
	for _, r := range chance(40, 16) {
		for _, text := range []string{"a", "some text", full, strings.Repeat("long", 30)} {
			a := saidSum(r+nought, text)
			for d := int64(-3); d <= 3; d++ {
				// A and N are 2^128 + d, or that and some times 2^128.
				n := textOf(new(big.Int).Sub(big.NewInt(d), a))
				wantTag(t, r+n, text, textOf(big.NewInt(d)))
			}
			wantTag(t, r+full, text, textOf(new(big.Int).Sub(a, big.NewInt(1))))
		}
	}
}

// P15, the edge: there is no greatest text.
func TestLongTexts(t *testing.T) {
	key := chance(1, 32)[0]
	for _, n := range []int{api.MaxText, api.MaxText + 1, 2016, 4096, 4001, 65535, 1 << 16, 1<<20 + 3} {
		wantSaid(t, key, chance(1, n)[0])
		wantSaid(t, full+full, strings.Repeat("\xff", n))
		wantSaid(t, key, strings.Repeat("\x00", n))
	}
	// By R as 1 so many blocks of noughts are as many times 2^128: 2^18 times
	// 2^130, which leaves 5.
	blocks := 1 << 20
	wantTag(t, one+nought, strings.Repeat("\x00", 16*blocks), textOf(big.NewInt(5<<18)))
	wantTag(t, one+nought, strings.Repeat("\x00", 16*blocks)+"\x07", textOf(big.NewInt(5<<18+256+7)))
}

// P15: R is the first half of a key, and N the last.
func TestHalvesOfKey(t *testing.T) {
	for _, s := range chance(50, 48) {
		r, n, text := s[:16], s[16:32], s[32:]
		a, _ := Tag(r+nought, text)
		wantTag(t, r+n, text, textOf(new(big.Int).Add(bigOf(a), bigOf(n))))
		wantSaid(t, n+r, text)
	}
}

// P15, wrong inputs: a key that has not 32 bytes, whatever text is.
func TestWrongKeys(t *testing.T) {
	list := []string{strings.Repeat("\xff", 1000), strings.Repeat("\x00", 1<<20), strings.Repeat("é", 32), strings.Repeat("é", 15) + "x"}
	for n := range 200 {
		if n != 32 {
			list = append(list, strings.Repeat("\x00", n), strings.Repeat("\xff", n), chance(1, n)[0])
		}
	}
	for _, key := range list {
		for _, text := range []string{"", "x", full, key, strings.Repeat("x", 2001), strings.Repeat("x", 1<<16)} {
			want(t, key, text, "", api.ErrArg)
		}
	}
	whole := chance(1, 100)[0]
	for n := range len(whole) + 1 {
		if n != 32 {
			want(t, whole[:n], whole[n:], "", api.ErrArg)
		}
	}
	// Of 16 signs with two bytes each there are 32 bytes.
	wantSaid(t, strings.Repeat("é", 16), "é")
}

// bigOfNumber takes limbs of any bits.
func bigOfNumber(n number) *big.Int {
	sum := new(big.Int)
	for i, limb := range n {
		sum.Add(sum, new(big.Int).Lsh(new(big.Int).SetUint64(limb), uint(26*i)))
	}
	return sum
}

// numbers are at the edges of what a number may be: limbs of no bit, of all,
// and what lies around 2^130 - 5.
func numbers() []number {
	const most = 1<<26 - 1
	list := []number{{}, {1}, {most}, {0, 1}, {0, 0, 0, 0, most}, {0, 0, 0, 0, 1 << 25}, {1, 1, 1, 1, 1}, {most, 0, most, 0, most}}
	for d := range uint64(12) {
		list = append(list, number{most - d, most, most, most, most})
	}
	r := rand.New(rand.NewSource(130))
	for range 100 {
		var n number
		for i := range n {
			n[i] = uint64(r.Intn(1 << 26))
		}
		list = append(list, n)
	}
	return list
}

// wantNumber asks for a number whose limbs have no more than 26 bits.
func wantNumber(t *testing.T, got number, right *big.Int) {
	t.Helper()
	for _, limb := range got {
		if limb>>26 != 0 {
			t.Errorf("%x has a limb that is too great", got)
		}
	}
	if n := bigOfNumber(got); n.Cmp(right) != 0 {
		t.Errorf("%x, want %x", n, right)
	}
}

// P15: numbers as no key makes them: the greatest that there may be, and sums of
// two of these.
func TestNumbers(t *testing.T) {
	for _, a := range numbers() {
		x := bigOfNumber(a)
		wantNumber(t, a.lowered(), new(big.Int).Mod(x, bigPrime()))
		if got := a.text(); got != textOf(x) {
			t.Errorf("%x becomes %x", a, got)
		}
		for _, b := range numbers() {
			sum := a.plus(b)
			total := new(big.Int).Add(x, bigOfNumber(b))
			if bigOfNumber(sum).Cmp(total) != 0 || sum.text() != textOf(total) {
				t.Errorf("%x and %x are %x", a, b, sum)
			}
			product := new(big.Int).Mul(total, x)
			wantNumber(t, sum.times(a).lowered(), product.Mod(product, bigPrime()))
		}
	}
}

// P15: a text becomes the number that it says, and this the text again.
func TestReadNumbers(t *testing.T) {
	for _, s := range slices.Concat(halves(), texts(), chance(100, 16)) {
		s = s[:min(len(s), 16)]
		wantNumber(t, read(s), bigOf(s))
		wantNumber(t, read(s+"\x01"), bigOf(s+"\x01"))
		if got := read(s).text(); got != (s + nought)[:16] {
			t.Errorf("%x becomes %x", s, got)
		}
	}
}

// P1 and P15 for whatever comes.
func FuzzAnything(f *testing.F) {
	for i, r := range halves() {
		f.Add(r+halves()[len(halves())-1-i], texts()[i])
		f.Add(one+r, full+"\xfc"+full[1:])
		f.Add(r, texts()[i])
	}
	f.Add("", "é")
	f.Fuzz(func(t *testing.T, key, text string) {
		if len(key) != 32 {
			want(t, key, text, "", api.ErrArg)
			return
		}
		wantSaid(t, key, text)
	})
}

// calls answers what calls make of key and text.
func calls(key, text string) []string {
	var list []string
	keep := func(s string, _ api.Errno) { list = append(list, s) }
	keep(Tag(key, text))
	keep(Tag(key, key))
	keep(Tag(text, key))
	keep(Tag(key, ""))
	return list
}

// shares says whether two texts have a byte of memory in common.
func shares(a, b string) bool {
	if len(a) == 0 || len(b) == 0 {
		return false
	}
	p, q := uintptr(unsafe.Pointer(unsafe.StringData(a))), uintptr(unsafe.Pointer(unsafe.StringData(b)))
	return p < q+uintptr(len(b)) && q < p+uintptr(len(a))
}

// P2: what is handed in stays, the room behind it too, and no answer lies in
// it: also where a Tag is N, and where key and text are the same bytes.
func TestNothingShared(t *testing.T) {
	for _, r := range []string{nought, one, full, chance(1, 16)[0]} {
		for _, n := range []int{0, 1, 16, 20, 32, 100, 2001} {
			room := r + full + chance(1, n)[0] + "room behind"
			handed := []byte(room)
			whole := unsafe.String(unsafe.SliceData(handed), len(handed))
			key, text := whole[:32], whole[32:32+n]
			for _, answer := range slices.Concat(calls(key, text), calls(key, whole), calls(whole, text)) {
				if shares(answer, whole) {
					t.Errorf("an answer to %x and a text of %d bytes lies in what was handed in", key, n)
				}
			}
			if string(handed) != room {
				t.Errorf("%x became %x", room, handed)
			}
		}
	}
}

// P2: no two answers lie in the same memory, and what was answered stays where
// bytes that were handed in change later on.
func TestAnswersApart(t *testing.T) {
	for _, r := range []string{nought, one, chance(1, 16)[0]} {
		handed := []byte(r + full + strings.Repeat("some text", 15))
		whole := unsafe.String(unsafe.SliceData(handed), len(handed))
		var answers []string
		for range 3 {
			answers = append(answers, calls(whole[:32], whole[32:])...)
		}
		for i, s := range answers {
			for _, other := range answers[i+1:] {
				if shares(s, other) {
					t.Fatalf("two answers share %x", s)
				}
			}
		}
		first := strings.Join(answers, "")
		clear(handed)
		if strings.Join(answers, "") != first {
			t.Error("answers changed")
		}
	}
}

// P2: nothing is kept: the same call answers the same, whatever came between,
// what was refused included, and at the same time as others.
func TestAnswersStay(t *testing.T) {
	key, text := chance(1, 32)[0], strings.Repeat("some text", 15)
	all := calls(key, text)
	first := strings.Join(all, "")
	var group sync.WaitGroup
	for _, other := range append(chance(40, 32), "", "short") {
		group.Go(func() {
			calls(other, text)
			calls(key, other)
			calls(key[:16]+other, strings.Repeat(other, 70))
			if !slices.Equal(calls(key, text), all) {
				t.Errorf("answers differ behind %x", other)
			}
		})
	}
	group.Wait()
	if strings.Join(all, "") != first {
		t.Error("answers changed")
	}
}

func BenchmarkTag(b *testing.B) {
	key, text := chance(1, 32)[0], chance(1, api.MaxText)[0]
	for b.Loop() {
		Tag(key, text)
	}
}
