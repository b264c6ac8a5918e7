package chacha

import (
	"encoding/binary"
	"encoding/hex"
	"math/rand"
	"slices"
	"strings"
	"sync"
	"testing"
	"unsafe"

	"souterrain/api"
)

// unhex leaves blanks and line ends out.
func unhex(t *testing.T, h string) string {
	t.Helper()
	b, err := hex.DecodeString(strings.Join(strings.Fields(h), ""))
	if err != nil {
		t.Fatal(h)
	}
	return string(b)
}

func want(t *testing.T, name, got string, e api.Errno, text string, err api.Errno, n uint32, in ...string) {
	t.Helper()
	if got != text || e != err {
		t.Errorf("%s(%.100x, %d) = %.100x, %d; want %.100x, %d", name, in, n, got, e, text, err)
	}
}

func wantBlock(t *testing.T, key, nonce string, n uint32, text string, err api.Errno) {
	t.Helper()
	got, e := Block(key, nonce, n)
	want(t, "Block", got, e, text, err, n, key, nonce)
}

func wantXor(t *testing.T, key, nonce string, n uint32, plain, text string, err api.Errno) {
	t.Helper()
	got, e := Xor(key, nonce, n, plain)
	want(t, "Xor", got, e, text, err, n, key, nonce, plain)
}

func wantSub(t *testing.T, key, nonce, text string, err api.Errno) {
	t.Helper()
	got, e := Sub(key, nonce)
	want(t, "Sub", got, e, text, err, 0, key, nonce)
}

// chance answers texts that are the same in each run.
func chance(count, length int) []string {
	r := rand.New(rand.NewSource(8))
	list := make([]string, count)
	for i := range list {
		b := make([]byte, length)
		r.Read(b)
		list[i] = string(b)
	}
	return list
}

// flipped answers s with one bit changed.
func flipped(s string, bit int) string {
	b := []byte(s)
	b[bit/8] ^= 1 << (bit % 8)
	return string(b)
}

// both answers a key and a nonce.
func both() (string, string) { return chance(1, 32)[0], chance(1, 44)[0][32:] }

// starts are numbers of first blocks: those at which a sum is cut among them.
func starts() []uint32 {
	return []uint32{0, 1, 2, 7, 255, 256, 65535, 65536, 0x01020304, 0x7fffffff, 0x80000000, 0xfffffffe, 0xffffffff}
}

type four [4]uint32

func quarter(q four) four {
	a, b, c, d := Quarter(q[0], q[1], q[2], q[3])
	return four{a, b, c, d}
}

func back(q four) four {
	a, b, c, d := Back(q[0], q[1], q[2], q[3])
	return four{a, b, c, d}
}

// saidTurn is what P13 says of a turn: bits that go out come in below.
func saidTurn(n uint64, k int) uint64 {
	for range k {
		n *= 2
		if n > 1<<32-1 {
			n = n - 1<<32 + 1
		}
	}
	return n
}

// saidQuarter is Quarter, as P13 says it, by numbers that don't cut by
// themselves.
func saidQuarter(q four) four {
	a, b, c, d := uint64(q[0]), uint64(q[1]), uint64(q[2]), uint64(q[3])
	const all = 1 << 32
	a = (a + b) % all
	d = saidTurn(d^a, 16)
	c = (c + d) % all
	b = saidTurn(b^c, 12)
	a = (a + b) % all
	d = saidTurn(d^a, 8)
	c = (c + d) % all
	b = saidTurn(b^c, 7)
	return four{uint32(a), uint32(b), uint32(c), uint32(d)}
}

// saidState is S, and saidStirred W, as P14 says them.
func saidState(key, behind string) [16]uint32 {
	text := []byte("expand 32-byte k" + key + behind) // RFC 8439 has the first four numbers as this text
	var s [16]uint32
	for i := range s {
		s[i] = binary.LittleEndian.Uint32(text[4*i:])
	}
	return s
}

func saidStirred(w [16]uint32) [16]uint32 {
	for range 10 {
		for _, at := range [8][4]int{
			{0, 4, 8, 12}, {1, 5, 9, 13}, {2, 6, 10, 14}, {3, 7, 11, 15},
			{0, 5, 10, 15}, {1, 6, 11, 12}, {2, 7, 8, 13}, {3, 4, 9, 14},
		} {
			for i, n := range saidQuarter(four{w[at[0]], w[at[1]], w[at[2]], w[at[3]]}) {
				w[at[i]] = n
			}
		}
	}
	return w
}

func saidBlock(key, nonce string, n uint32) string {
	s := saidState(key, string(binary.LittleEndian.AppendUint32(nil, n))+nonce)
	var out []byte
	for i, w := range saidStirred(s) {
		out = binary.LittleEndian.AppendUint32(out, uint32((uint64(w)+uint64(s[i]))%(1<<32)))
	}
	return string(out)
}

// saidXor asks for the block of each byte, by numbers that don't go round by
// themselves.
func saidXor(key, nonce string, n uint32, text string) string {
	out := []byte(text)
	var block string
	for i := range out {
		if i%64 == 0 {
			block = saidBlock(key, nonce, uint32((int(n)+i/64)%(1<<32)))
		}
		out[i] ^= block[i%64]
	}
	return string(out)
}

func saidSub(key, nonce string) string {
	w := saidStirred(saidState(key, nonce))
	var out []byte
	for _, at := range []int{0, 1, 2, 3, 12, 13, 14, 15} {
		out = binary.LittleEndian.AppendUint32(out, w[at])
	}
	return string(out)
}

// P13: RFC 8439, sections 2.1.1 and 2.2.1, and what noughts and lone bits
// become.
func TestQuarterWrittenOut(t *testing.T) {
	for _, c := range [][2]four{
		{{0x11111111, 0x01020304, 0x9b8d6f43, 0x01234567}, {0xea2a92f4, 0xcb1cf8ce, 0x4581472e, 0x5881c4bb}},
		{{0x516461b1, 0x2a5f714c, 0x53372767, 0x3d631689}, {0xbdb886dc, 0xcfacafd2, 0xe46bea80, 0xccc07c79}},
		{{0, 0, 0, 0}, {0, 0, 0, 0}},
		// a alone: d is 2^16, and c; b is 2^28; a is 1 + 2^28.
		{{1, 0, 0, 0}, {0x10000001, 0x80808808, 0x01010110, 0x01000110}},
		// d alone: d is 2^16, and c; b is 2^28, and a.
		{{0, 0, 0, 1}, {0x10000000, 0x80800808, 0x01010010, 0x01000010}},
		// 2^31 and 2^31 are cut to 0: only b goes on.
		{{0x80000000, 0x80000000, 0, 0}, {0x00000800, 0x04040000, 0x00080000, 0x00080000}},
	} {
		if got := quarter(c[0]); got != c[1] {
			t.Errorf("Quarter(%08x) = %08x, want %08x", c[0], got, c[1])
		}
		if got := back(c[1]); got != c[0] {
			t.Errorf("Back(%08x) = %08x, want %08x", c[1], got, c[0])
		}
	}
}

// wantQuarter holds Quarter against the chapter's words, and undoes it; and
// undone first, too.
func wantQuarter(t *testing.T, q four) {
	t.Helper()
	got := quarter(q)
	if said := saidQuarter(q); got != said {
		t.Fatalf("Quarter(%08x) = %08x, want %08x", q, got, said)
	}
	if again := back(got); again != q {
		t.Fatalf("Back(%08x) = %08x, want %08x", got, again, q)
	}
	undone := back(q)
	if again := saidQuarter(undone); again != q {
		t.Fatalf("Back(%08x) = %08x, which becomes %08x", q, undone, again)
	}
}

// P13: numbers whose sums are cut, in each place; numbers of one bit; others.
func TestQuarterAgainstWords(t *testing.T) {
	edges := []uint32{0, 1, 2, 0x7fff, 0xffff, 0x10000, 0x55555555, 0x7fffffff, 0x80000000, 0x80000001, 0xfffffffe, 0xffffffff}
	for _, a := range edges {
		for _, b := range edges {
			for _, c := range edges {
				for _, d := range edges {
					wantQuarter(t, four{a, b, c, d})
				}
			}
		}
	}
	for place := range 4 {
		for bit := range 32 {
			var q four
			q[place] = 1 << bit
			wantQuarter(t, q)
			for i := range q {
				q[i] = ^q[i]
			}
			wantQuarter(t, q)
		}
	}
	r := rand.New(rand.NewSource(8))
	for range 20000 {
		wantQuarter(t, four{r.Uint32(), r.Uint32(), r.Uint32(), r.Uint32()})
	}
}

// P14: RFC 8439, section 2.3.2 and appendix A.1.
func TestBlockWrittenOut(t *testing.T) {
	noughts := strings.Repeat("00", 32)
	for _, c := range []struct {
		key, nonce string
		n          uint32
		block      string
	}{
		{"000102030405060708090a0b0c0d0e0f101112131415161718191a1b1c1d1e1f", "000000090000004a00000000", 1,
			`10f1e7e4d13b5915500fdd1fa32071c4 c7d1f4c733c068030422aa9ac3d46c4e
			d2826446079faa0914c2d705d98b02a2 b5129cd1de164eb9cbd083e8a2503c4e`},
		{noughts, noughts[:24], 0,
			`76b8e0ada0f13d90405d6ae55386bd28 bdd219b8a08ded1aa836efcc8b770dc7
			da41597c5157488d7724e03fb8d84a37 6a43b8f41518a11cc387b669b2ee6586`},
		{noughts, noughts[:24], 1,
			`9f07e7be5551387a98ba977c732d080d cb0f29a048e3656912c6533e32ee7aed
			29b721769ce64e43d57133b074d839d5 31ed1f28510afb45ace10a1f4b794d6f`},
		{noughts[:62] + "01", noughts[:24], 1,
			`3aeb5224ecf849929b9d828db1ced4dd 832025e8018b8160b82284f3c949aa5a
			8eca00bbb4a73bdad192b5c42f73f2fd 4e273644c8b36125a64addeb006c13a0`},
		{"00ff" + noughts[:60], noughts[:24], 2,
			`72d54dfbf12ec44b362692df94137f32 8fea8da73990265ec1bbbea1ae9af0ca
			13b25aa26cb4a648cb9b9d1be65b2c09 24a66c54d545ec1b7374f4872e99f096`},
		{noughts, noughts[:22] + "02", 0,
			`c2c64d378cd536374ae204b9ef933fcd 1a8b2288b3dfa49672ab765b54ee27c7
			8a970e0e955c14f3a88e741b97c286f7 5f8fc299e8148362fa198a39531bed6d`},
	} {
		wantBlock(t, unhex(t, c.key), unhex(t, c.nonce), c.n, unhex(t, c.block), api.OK)
	}
}

// P14: RFC 8439, section 2.4.2 and appendix A.2.
func TestXorWrittenOut(t *testing.T) {
	noughts := strings.Repeat("00", 32)
	for _, c := range []struct {
		key, nonce string
		n          uint32
		text       string
		hidden     string
	}{
		{"000102030405060708090a0b0c0d0e0f101112131415161718191a1b1c1d1e1f", "000000000000004a00000000", 1,
			"Ladies and Gentlemen of the class of '99: If I could offer you only one tip for the future, sunscreen would be it.",
			`6e2e359a2568f98041ba0728dd0d6981 e97e7aec1d4360c20a27afccfd9fae0b
			f91b65c5524733ab8f593dabcd62b357 1639d624e65152ab8f530c359f0861d8
			07ca0dbf500d6a6156a38e088a22b65e 52bc514d16ccf806818ce91ab7793736
			5af90bbf74a35be6b40b8eedf2785e42 874d`},
		{"1c9240a5eb55d38af333888604f6b5f0473917c1402b80099dca5cbc207075c0", noughts[:22] + "02", 42,
			"'Twas brillig, and the slithy toves\nDid gyre and gimble in the wabe:\nAll mimsy were the borogoves,\nAnd the mome raths outgrabe.",
			`62e6347f95ed87a45ffae7426f27a1df 5fb69110044c0d73118effa95b01e5cf
			166d3df2d721caf9b21e5fb14c616871 fd84c54f9d65b283196c7fe4f60553eb
			f39c6402c42234e32a356b3e764312a6 1a5532055716ead6962568f87d3f3f77
			04c6a8d1bcd1bf4d50d6154b6da731b1 87b58dfd728afa36757a797ac188d1`},
	} {
		key, nonce, hidden := unhex(t, c.key), unhex(t, c.nonce), unhex(t, c.hidden)
		wantXor(t, key, nonce, c.n, c.text, hidden, api.OK)
		wantXor(t, key, nonce, c.n, hidden, c.text, api.OK)
	}
}

// P14: the draft of XChaCha (section 2.2.1), and answers of golang.org/x/crypto.
func TestSubWrittenOut(t *testing.T) {
	noughts, count := strings.Repeat("00", 32), "000102030405060708090a0b0c0d0e0f101112131415161718191a1b1c1d1e1f"
	for _, c := range [][3]string{
		{count, "000000090000004a0000000031415927", "82413b4227b27bfed30e42508a877d73 a0f9e4d58a74a853c12ec41326d3ecdc"},
		{noughts, noughts[:32], "1140704c328d1d5d0e30086cdf209dbd 6a43b8f41518a11cc387b669b2ee6586"},
		{"80" + noughts[:62], noughts[:32], "7d266a7fd808cae4c02a0a70dcbfbcc2 50dae65ce3eae7fc210f54cc8f77df86"},
		{noughts[:62] + "01", noughts[:32], "e0c77ff931bb9163a5460c02ac281c2b 53d792b1c43fea817e9ad275ae546963"},
		{noughts[:62] + "01", noughts[:30] + "02", "8782b5ed16fb434141a6699b9943c80b 07f89e5cf9b93e330a6e4c08af5ba6d3"},
		{count, count[:32], "51e3ff45a895675c4b33b46c64f4a9ac e110d34df6a2ceab486372bacbd3eff6"},
		{"24f11cce8a1b3d61e441561a696c1c1b7e173d084fd4812425435a8896a013dc", "d9660c5900ae19ddad28d6e06e45fe5e",
			"5966b3eec3bff1189f831f06afe4d4e3 be97fa9235ec8c20d08acfbbb4e851e3"},
	} {
		wantSub(t, unhex(t, c[0]), unhex(t, c[1]), unhex(t, c[2]), api.OK)
	}
}

// P14, the document's example.
func TestBlockHas64Bytes(t *testing.T) {
	key, nonce := both()
	if s, e := Block(key, nonce, 0); len(s) != 64 || e != api.OK {
		t.Errorf("%x, %d", s, e)
	}
}

// P14: the first four numbers, as the chapter writes them; each of key's, n and
// each of nonce's has its place, its lowest byte first.
func TestNumbersOfAState(t *testing.T) {
	text := make([]byte, 48)
	for i := range text {
		text[i] = byte(0x81 + i)
	}
	right := state{
		1634760805, 857760878, 2036477234, 1797285236,
		0x84838281, 0x88878685, 0x8c8b8a89, 0x908f8e8d,
		0x94939291, 0x98979695, 0x9c9b9a99, 0xa09f9e9d,
		0xa4a3a2a1, 0xa8a7a6a5, 0xacabaaa9, 0xb0afaead,
	}
	if got := begun(string(text[:32]), string(text[32:])); got != right {
		t.Errorf("%08x, want %08x", got, right)
	}
	if got := told(right[4:]...); got != string(text) {
		t.Errorf("%x, want %x", got, text)
	}
	if got := told(0x01020304); got != "\x04\x03\x02\x01" {
		t.Errorf("%x", got)
	}
	if got := told(); got != "" {
		t.Errorf("%x", got)
	}
}

// wantSaid holds the three calls against the chapter's words.
func wantSaid(t *testing.T, key, nonce string, n uint32, text string) {
	t.Helper()
	wantBlock(t, key, nonce, n, saidBlock(key, nonce, n), api.OK)
	hidden := saidXor(key, nonce, n, text)
	wantXor(t, key, nonce, n, text, hidden, api.OK)
	wantXor(t, key, nonce, n, hidden, text, api.OK)
	long := string(binary.LittleEndian.AppendUint32(nil, n)) + nonce
	wantSub(t, key, long, saidSub(key, long), api.OK)
}

// P14: numbers of blocks at their edges, 0 and 4294967295 among them.
func TestAgainstWords(t *testing.T) {
	keys, nonces, texts := chance(20, 32), chance(20, 12), chance(20, 150)
	for i, key := range keys {
		for _, n := range starts() {
			wantSaid(t, key, nonces[i], n, texts[i])
		}
	}
}

// P14: keys, nonces and texts of one byte again and again.
func TestEdgesAgainstWords(t *testing.T) {
	list := []string{"\x00", "\x01", "\x7f", "\x80", "\xff"}
	for _, k := range list {
		for _, o := range list {
			for _, b := range list {
				for _, n := range []uint32{0, 0xffffffff} {
					wantSaid(t, strings.Repeat(k, 32), strings.Repeat(o, 12), n, strings.Repeat(b, 70))
				}
			}
		}
	}
}

// P14: each length up to the greatest: no byte, whole blocks, a last one of
// fewer bytes; and what is hidden does not hang on how much is behind it.
func TestEachLength(t *testing.T) {
	key, nonce := both()
	most := chance(1, api.MaxText)[0]
	for _, n := range []uint32{0, 1, 0xfffffff0, 0xffffffff} {
		hidden := saidXor(key, nonce, n, most)
		for length := range api.MaxText + 1 {
			wantXor(t, key, nonce, n, most[:length], hidden[:length], api.OK)
		}
	}
}

// P14: n goes round within one text, wherever that is: the blocks from 0 on
// follow the block 4294967295, and nonce stays as it is.
func TestGoesRound(t *testing.T) {
	key, nonce := both()
	noughts := strings.Repeat("\x00", api.MaxText)
	for before := uint32(1); before <= 32; before++ {
		stream, e := Xor(key, nonce, -before, noughts)
		if len(stream) != api.MaxText || e != api.OK {
			t.Fatalf("%d bytes, %d", len(stream), e)
		}
		for i := range uint32(32) {
			block, _ := Block(key, nonce, i-before)
			from := int(64 * i)
			if got := stream[from:min(from+64, len(stream))]; got != block[:len(got)] {
				t.Errorf("%d ahead of 0, block %d: %x, want %x", before, i, got, block)
			}
		}
	}
	first, _ := Block(key, nonce, 0xffffffff)
	second, _ := Block(key, nonce, 0)
	wantXor(t, key, nonce, 0xffffffff, noughts[:128], first+second, api.OK)
}

// P14: where S is added, Block is; Sub is what is left without it, of the first
// four numbers and of the last ones.
func TestNothingAdded(t *testing.T) {
	keys, nonces := chance(50, 32), chance(50, 16)
	for i, key := range keys {
		nonce := nonces[i]
		block, _ := Block(key, nonce[4:], binary.LittleEndian.Uint32([]byte(nonce)))
		sub, e := Sub(key, nonce)
		if len(sub) != 32 || e != api.OK {
			t.Fatalf("%x, %d", sub, e)
		}
		s := saidState(key, nonce)
		for j, at := range []int{0, 1, 2, 3, 12, 13, 14, 15} {
			less := binary.LittleEndian.Uint32([]byte(block[4*at:])) - s[at]
			if got := binary.LittleEndian.Uint32([]byte(sub[4*j:])); got != less {
				t.Errorf("number %d of Sub is %08x, want %08x", j, got, less)
			}
		}
	}
}

// P14: each bit of what is handed in counts.
func TestEachBitCounts(t *testing.T) {
	key, nonce := both()
	long := nonce + "more"
	seen := map[string]bool{}
	add := func(s string, e api.Errno) {
		if seen[s] || e != api.OK {
			t.Errorf("%x, %d, again", s, e)
		}
		seen[s] = true
	}
	add(Block(key, nonce, 0))
	add(Sub(key, long))
	for bit := range 256 {
		add(Block(flipped(key, bit), nonce, 0))
		add(Sub(flipped(key, bit), long))
	}
	for bit := range 96 {
		add(Block(key, flipped(nonce, bit), 0))
	}
	for bit := range 32 {
		add(Block(key, nonce, 1<<bit))
	}
	for bit := range 128 {
		add(Sub(key, flipped(long, bit)))
	}
}

// wrongTexts have not that many bytes.
func wrongTexts(right int) []string {
	list := []string{strings.Repeat("\xff", 1000), strings.Repeat("\x00", 1<<20), strings.Repeat("é", right)}
	for n := range 70 {
		if n != right {
			list = append(list, strings.Repeat("\x00", n), chance(1, n)[0])
		}
	}
	return list
}

// wantRefused asks Block and Xor for ErrArg, also of a text that is too large.
func wantRefused(t *testing.T, key, nonce string) {
	t.Helper()
	for _, n := range []uint32{0, 1, 0xffffffff} {
		wantBlock(t, key, nonce, n, "", api.ErrArg)
		for _, text := range []string{"", "text", strings.Repeat("x", 2000), strings.Repeat("x", 2001)} {
			wantXor(t, key, nonce, n, text, "", api.ErrArg)
		}
	}
}

// P14, wrong inputs: a nonce of 16 bytes for Block and Xor, and one of 12 for
// Sub, among them; and bytes that went from key to nonce or back.
func TestWrongKeysAndNonces(t *testing.T) {
	key, nonce := both()
	long := nonce + "more"
	for _, wrong := range wrongTexts(32) {
		wantRefused(t, wrong, nonce)
		wantRefused(t, wrong, long)
		wantSub(t, wrong, long, "", api.ErrArg)
		wantSub(t, wrong, nonce, "", api.ErrArg)
	}
	for _, wrong := range wrongTexts(12) {
		wantRefused(t, key, wrong)
	}
	for _, wrong := range wrongTexts(16) {
		wantSub(t, key, wrong, "", api.ErrArg)
	}
	whole := key + long
	for n := range len(whole) + 1 {
		if n != 32 {
			wantRefused(t, whole[:n], whole[n:max(n, 44)])
			wantSub(t, whole[:n], whole[n:], "", api.ErrArg)
		}
	}
}

// P14: a text of 2000 bytes is taken, one of 2001 is not.
func TestLargeTexts(t *testing.T) {
	key, nonce := both()
	for _, n := range starts() {
		for _, length := range []int{2001, 2002, 2047, 2048, 4000, 1 << 20} {
			wantXor(t, key, nonce, n, strings.Repeat("x", length), "", api.ErrLarge)
		}
		most := strings.Repeat("x", 2000)
		wantXor(t, key, nonce, n, most, saidXor(key, nonce, n, most), api.OK)
		wantXor(t, key, nonce, n, "", "", api.OK)
	}
}

// firstOf answers the error that P14 tells first of those that hold.
func firstOf(arg, large bool) api.Errno {
	switch {
	case arg:
		return api.ErrArg
	case large:
		return api.ErrLarge
	}
	return api.OK
}

// checkAll holds all calls against the chapter's words, their errors included.
func checkAll(t *testing.T, key, nonce string, n uint32, text string) {
	t.Helper()
	var block, hidden, sub string
	err := firstOf(len(key) != 32 || len(nonce) != 12, false)
	if err == api.OK {
		block = saidBlock(key, nonce, n)
	}
	wantBlock(t, key, nonce, n, block, err)
	err = firstOf(len(key) != 32 || len(nonce) != 12, len(text) > 2000)
	if err == api.OK {
		hidden = saidXor(key, nonce, n, text)
	}
	wantXor(t, key, nonce, n, text, hidden, err)
	err = firstOf(len(key) != 32 || len(nonce) != 16, false)
	if err == api.OK {
		sub = saidSub(key, nonce)
	}
	wantSub(t, key, nonce, sub, err)
}

// P14: which error stands, for all that can be wrong at once.
func TestWhichErrorStands(t *testing.T) {
	rightKey, rightNonce := both()
	large := strings.Repeat("x", 2001)
	for _, key := range []string{rightKey, "", rightKey[:31], rightKey[:16], rightKey + "x", rightKey + rightKey} {
		for _, nonce := range []string{rightNonce, "", rightNonce[:11], rightNonce[:8], rightNonce + "x", rightNonce + "more", rightKey[:24]} {
			for _, text := range []string{"", "text", large[:64], large[:2000], large, large + large} {
				checkAll(t, key, nonce, 1, text)
			}
		}
	}
}

// P1, P13 and P14 for whatever comes.
func FuzzAnything(f *testing.F) {
	key, nonce := both()
	for _, n := range []int{0, 1, 63, 64, 65, 128, 2000, 2001} {
		f.Add(key, nonce, uint32(n), chance(1, n)[0])
		f.Add(key, nonce, -uint32(n), chance(1, n)[0])
		f.Add(key, nonce+"more", uint32(n), chance(1, n)[0])
		f.Add(key[:16], nonce, uint32(n), chance(1, n)[0])
	}
	f.Add("", "é", uint32(0), "")
	f.Fuzz(func(t *testing.T, key, nonce string, n uint32, text string) {
		checkAll(t, key, nonce, n, text)
		wantQuarter(t, four{n, uint32(len(key)), ^n, n * 0x9e3779b1})
	})
}

// calls answers what each call that makes a text makes of what is handed in.
func calls(key, nonce, long, text string) []string {
	var list []string
	keep := func(s string, _ api.Errno) { list = append(list, s) }
	keep(Block(key, nonce, 1))
	keep(Xor(key, nonce, 0, text))
	keep(Xor(key, nonce, 0xffffffff, text))
	keep(Sub(key, long))
	return list
}

// shares says whether two texts have a byte of memory in common.
func shares(a, b string) bool {
	if len(a) == 0 || len(b) == 0 {
		return false
	}
	p, q := uintptr(unsafe.Pointer(unsafe.StringData(a))), uintptr(unsafe.Pointer(unsafe.StringData(b)))
	return p < q+uintptr(len(b)) && q < p+uintptr(len(a))
}

// P2: what is handed in stays, the room behind it too, and no answer lies in
// it: also where all that is handed in lies in the same bytes.
func TestNothingShared(t *testing.T) {
	key, nonce := both()
	for _, n := range []int{0, 1, 5, 64, 100, 2000, 2001} {
		room := key + nonce + "more" + chance(1, n)[0] + "room behind"
		handed := []byte(room)
		whole := unsafe.String(unsafe.SliceData(handed), len(handed))
		myKey, myNonce, myLong, myText := whole[:32], whole[32:44], whole[32:48], whole[48:48+n]
		answers := slices.Concat(
			calls(myKey, myNonce, myLong, myText),
			calls(myKey, myKey[:12], myKey[:16], myKey),
			calls(myKey, myLong, myNonce, myText),
			calls(myNonce, myKey, myKey, myText),
		)
		for _, answer := range answers {
			if shares(answer, whole) {
				t.Errorf("an answer to a text of %d bytes lies in what was handed in", n)
			}
		}
		if string(handed) != room {
			t.Errorf("%x became %x", room, handed)
		}
	}
}

// P2: no two answers lie in the same memory, and what was answered stays where
// bytes that were handed in change later on.
func TestAnswersApart(t *testing.T) {
	key, nonce := both()
	handed := []byte(key + nonce + "more" + strings.Repeat("some text", 15))
	whole := unsafe.String(unsafe.SliceData(handed), len(handed))
	var answers []string
	for range 3 {
		answers = append(answers, calls(whole[:32], whole[32:44], whole[32:48], whole[48:])...)
	}
	for i, s := range answers {
		for _, other := range answers[i+1:] {
			if shares(s, other) {
				t.Fatalf("two answers share %x", s)
			}
		}
	}
	first := strings.Join(answers, "")
	clear(handed)
	if strings.Join(answers, "") != first {
		t.Error("answers changed")
	}
}

// P2: nothing is kept: the same call answers the same, whatever came between,
// what was refused included, and at the same time as others.
func TestAnswersStay(t *testing.T) {
	key, nonce := both()
	text := strings.Repeat("some text", 15)
	all := calls(key, nonce, nonce+"more", text)
	first := strings.Join(all, "")
	var group sync.WaitGroup
	for _, other := range append(chance(40, 32), "", "short") {
		group.Go(func() {
			calls(other, nonce, nonce+"more", text)
			calls(key, other[:len(other)*3/8], other[:len(other)/2], text)
			calls(key, nonce, nonce, strings.Repeat(other, 70))
			Quarter(1, 2, 3, 4)
			if !slices.Equal(calls(key, nonce, nonce+"more", text), all) {
				t.Errorf("answers differ behind %x", other)
			}
		})
	}
	group.Wait()
	if strings.Join(all, "") != first {
		t.Error("answers changed")
	}
}

func BenchmarkXor(b *testing.B) {
	key, nonce := both()
	text := chance(1, api.MaxText)[0]
	for b.Loop() {
		Xor(key, nonce, 1, text)
	}
}
