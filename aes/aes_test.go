package aes

import (
	library "crypto/aes"
	"encoding/binary"
	"encoding/hex"
	"math/bits"
	"math/rand"
	"slices"
	"strings"
	"sync"
	"testing"
	"unsafe"

	"souterrain/api"
	"souterrain/galois"
)

// unhex leaves blanks and line ends out.
func unhex(t *testing.T, h string) string {
	t.Helper()
	b, err := hex.DecodeString(strings.Join(strings.Fields(h), ""))
	if err != nil {
		t.Fatal(h)
	}
	return string(b)
}

func want(t *testing.T, name, got string, e api.Errno, text string, err api.Errno, in ...string) {
	t.Helper()
	if got != text || e != err {
		t.Errorf("%s(%x) = %x, %d; want %x, %d", name, in, got, e, text, err)
	}
}

// wantBoth holds Encrypt against what is known of it, and Decrypt, too.
func wantBoth(t *testing.T, key, block, sealed string) {
	t.Helper()
	got, e := Encrypt(key, block)
	want(t, "Encrypt", got, e, sealed, api.OK, key, block)
	got, e = Decrypt(key, sealed)
	want(t, "Decrypt", got, e, block, api.OK, key, sealed)
}

// xored takes two texts of the same length.
func xored(a, b string) string {
	out := []byte(a)
	for i := range out {
		out[i] ^= b[i]
	}
	return string(out)
}

// flipped answers s with one bit changed.
func flipped(s string, bit int) string {
	b := []byte(s)
	b[bit/8] ^= 1 << (bit % 8)
	return string(b)
}

// chance answers texts that are the same in each run.
func chance(count, length int) []string {
	r := rand.New(rand.NewSource(197))
	list := make([]string, count)
	for i := range list {
		b := make([]byte, length)
		r.Read(b)
		list[i] = string(b)
	}
	return list
}

// edges has texts of one byte again and again, of all bits but one, and of one.
func edges(length int) []string {
	var list []string
	for _, b := range []string{"\x00", "\x01", "\x52", "\x55", "\x63", "\x80", "\xaa", "\xff"} {
		list = append(list, strings.Repeat(b, length))
	}
	for bit := 0; bit < 8*length; bit += 7 {
		list = append(list, flipped(list[0], bit), flipped(list[7], bit))
	}
	return list
}

// keys has some of either size.
func keys() []string {
	return slices.Concat(edges(16), edges(32), chance(20, 16), chance(20, 32))
}

// words is FIPS 197's KeyExpansion, with words as numbers, as it stands there.
func words(key string) string {
	n := len(key) / 4
	w := make([]uint32, 4*(n+7))
	for i := range w {
		if i < n {
			w[i] = binary.BigEndian.Uint32([]byte(key[4*i:]))
			continue
		}
		temp := w[i-1]
		if i%n == 0 {
			rcon := []uint32{0, 1, 2, 4, 8, 16, 32, 64, 128, 27, 54}
			temp = subWord(bits.RotateLeft32(temp, 8)) ^ rcon[i/n]<<24
		} else if n > 6 && i%n == 4 {
			temp = subWord(temp)
		}
		w[i] = w[i-n] ^ temp
	}
	var out []byte
	for _, x := range w {
		out = binary.BigEndian.AppendUint32(out, x)
	}
	return string(out)
}

func subWord(x uint32) uint32 {
	var out uint32
	for shift := 0; shift < 32; shift += 8 {
		out |= uint32(galois.Sub(byte(x>>shift))) << shift
	}
	return out
}

// P9: FIPS 197, appendices A.1 and A.3.
func TestExpandWrittenOut(t *testing.T) {
	for _, list := range []string{
		`2b7e1516 28aed2a6 abf71588 09cf4f3c
		a0fafe17 88542cb1 23a33939 2a6c7605
		f2c295f2 7a96b943 5935807a 7359f67f
		3d80477d 4716fe3e 1e237e44 6d7a883b
		ef44a541 a8525b7f b671253b db0bad00
		d4d1c6f8 7c839d87 caf2b8bc 11f915bc
		6d88a37a 110b3efd dbf98641 ca0093fd
		4e54f70e 5f5fc9f3 84a64fb2 4ea6dc4f
		ead27321 b58dbad2 312bf560 7f8d292f
		ac7766f3 19fadc21 28d12941 575c006e
		d014f9a8 c9ee2589 e13f0cc8 b6630ca6`,
		`603deb10 15ca71be 2b73aef0 857d7781
		1f352c07 3b6108d7 2d9810a3 0914dff4
		9ba35411 8e6925af a51a8b5f 2067fcde
		a8b09c1a 93d194cd be49846e b75d5b9a
		d59aecb8 5bf3c917 fee94248 de8ebe96
		b5a9328a 2678a647 98312229 2f6c79b3
		812c81ad dadf48ba 24360af2 fab8b464
		98c5bfc9 bebd198e 268c3ba7 09e04214
		68007bac b2df3316 96e939e4 6c518d80
		c814e204 76a9fb8a 5025c02d 59c58239
		de136967 6ccc5a71 fa256395 9674ee15
		5886ca5d 2e2f31d7 7e0af1fa 27cf73c3
		749c47ab 18501dda e2757e4f 7401905a
		cafaaae3 e4d59b34 9adf6ace bd10190d
		fe4890d1 e6188d0b 046df344 706c631e`,
	} {
		whole := unhex(t, list)
		key := whole[:16]
		if len(whole) == 240 {
			key = whole[:32]
		}
		got, e := Expand(key)
		want(t, "Expand", got, e, whole, api.OK, key)
	}
}

// P9: as many words as there must be, the key's own ahead, all as FIPS 197
// works them out.
func TestExpand(t *testing.T) {
	for _, key := range keys() {
		got, e := Expand(key)
		want(t, "Expand", got, e, words(key), api.OK, key)
		if len(got) != 16*(len(key)/4+7) || got[:len(key)] != key {
			t.Errorf("Expand(%x) = %x", key, got)
		}
	}
}

// wordAt answers word i of an expanded key.
func wordAt(s string, i int) string { return s[4*i : 4*i+4] }

// P9, word by word in the chapter's own words: the multiples of N, those that
// leave 4 where N is 8, and the others, each by itself.
func TestExpandOfEachWord(t *testing.T) {
	powers := []byte{1, 2, 4, 8, 16, 32, 64, 128, 27, 54}
	for _, key := range keys() {
		n := len(key) / 4
		s, _ := Expand(key)
		if len(s) != 16*(n+7) {
			t.Fatalf("Expand(%x) = %x", key, s)
		}
		for i := n; i < 4*(n+7); i++ {
			ahead := wordAt(s, i-1)
			a, b, c, d := ahead[0], ahead[1], ahead[2], ahead[3]
			switch {
			case i%n == 0:
				a, b, c, d = galois.Sub(b)^powers[i/n-1], galois.Sub(c), galois.Sub(d), galois.Sub(a)
			case n == 8 && i%8 == 4:
				a, b, c, d = galois.Sub(a), galois.Sub(b), galois.Sub(c), galois.Sub(d)
			}
			if right := xored(wordAt(s, i-n), string([]byte{a, b, c, d})); wordAt(s, i) != right {
				t.Errorf("Expand(%x): word %d is %x, not %x", key, i, wordAt(s, i), right)
			}
		}
	}
}

// P10: FIPS 197, appendices B, C.1 and C.3, and SP 800-38A, F.1.1 and F.1.5.
func TestBothWrittenOut(t *testing.T) {
	short, long := "2b7e151628aed2a6abf7158809cf4f3c", "603deb1015ca71be2b73aef0857d77811f352c073b6108d72d9810a30914dff4"
	for _, c := range [][3]string{
		{short, "3243f6a8885a308d313198a2e0370734", "3925841d02dc09fbdc118597196a0b32"},
		{"000102030405060708090a0b0c0d0e0f", "00112233445566778899aabbccddeeff", "69c4e0d86a7b0430d8cdb78070b4c55a"},
		{"000102030405060708090a0b0c0d0e0f101112131415161718191a1b1c1d1e1f", "00112233445566778899aabbccddeeff", "8ea2b7ca516745bfeafc49904b496089"},
		{short, "6bc1bee22e409f96e93d7e117393172a", "3ad77bb40d7a3660a89ecaf32466ef97"},
		{short, "ae2d8a571e03ac9c9eb76fac45af8e51", "f5d3d58503b9699de785895a96fdbaaf"},
		{short, "30c81c46a35ce411e5fbc1191a0a52ef", "43b1cd7f598ece23881b00e3ed030688"},
		{short, "f69f2445df4f9b17ad2b417be66c3710", "7b0c785e27e8ad3f8223207104725dd4"},
		{long, "6bc1bee22e409f96e93d7e117393172a", "f3eed1bdb5d2a03c064b5a7e3db181f8"},
		{long, "ae2d8a571e03ac9c9eb76fac45af8e51", "591ccb10d410ed26dc5ba74a31362870"},
		{long, "30c81c46a35ce411e5fbc1191a0a52ef", "b6ed21b99ca6f4f9f153e7b1beafed1d"},
		{long, "f69f2445df4f9b17ad2b417be66c3710", "23304b7a39f9f3ff067d8d8f9e24ecc7"},
	} {
		wantBoth(t, unhex(t, c[0]), unhex(t, c[1]), unhex(t, c[2]))
	}
}

// P10: the last time, in which columns stay: what FIPS 197, appendices C.1 and
// C.3, have behind the rows' move is all that the last 16 bytes are xored with.
func TestLastTimeWrittenOut(t *testing.T) {
	block := unhex(t, "00112233445566778899aabbccddeeff")
	for _, c := range [][3]string{
		{"000102030405060708090a0b0c0d0e0f", "13111d7fe3944a17f307a78b4d2b30c5", "7ad5fda789ef4e272bca100b3d9ff59f"},
		{"000102030405060708090a0b0c0d0e0f101112131415161718191a1b1c1d1e1f", "24fc79ccbf0979e9371ac23c6d68de36", "aa5ece06ee6e3c56dde68bac2621bebf"},
	} {
		key, last, moved := unhex(t, c[0]), unhex(t, c[1]), unhex(t, c[2])
		s, e := Expand(key)
		want(t, "the end of Expand", s[len(s)-16:], e, last, api.OK, key)
		got, e := Encrypt(key, block)
		want(t, "Encrypt ahead of the last xor", xored(got, last), e, moved, api.OK, key, block)
		got, e = Decrypt(key, xored(moved, last))
		want(t, "Decrypt", got, e, block, api.OK, key)
	}
}

// P10: FIPS 197, appendix B: its first time, step by step, and each step
// undone.
func TestStepsWrittenOut(t *testing.T) {
	c := newCipher(unhex(t, "2b7e151628aed2a6abf7158809cf4f3c"))
	at := func(h string) square { return square([]byte(unhex(t, h))) }
	start := at("193de3bea0f4e22b9ac68d2ae9f84808")
	subs := at("d42711aee0bf98f1b8b45de51e415230")
	rows := at("d4bf5d30e0b452aeb84111f11e2798e5")
	columns := at("046681e5e0cb199a48f8d37a2806264c")
	for _, step := range []struct {
		name       string
		got, right square
	}{
		{"each byte Sub", start.read(&c.sub), subs},
		{"each byte Back", subs.read(&c.back), start},
		{"rows moved", subs.moved(1), rows},
		{"rows moved back", rows.moved(3), subs},
		{"columns mixed", c.mixed(rows, 1), columns},
		{"columns as ahead", c.mixed(columns, 3), rows},
		{"xored", columns.xored(c.keys[1]), at("a49c7ff2689f352b6b5bea43026a5049")},
	} {
		if step.got != step.right {
			t.Errorf("%s: %x, not %x", step.name, step.got, step.right)
		}
	}
}

// P10: each column in the chapter's own words, all bytes at all places; and
// what was mixed once is mixed three times more to what it was.
func TestColumns(t *testing.T) {
	tables := newTables()
	mul := galois.Mul
	for place := range 4 {
		for b := range 256 {
			a := word{0x1d, 0x80, 0xff, 0x02}
			a[place] = byte(b)
			right := word{
				mul(2, a[0]) ^ mul(3, a[1]) ^ a[2] ^ a[3],
				a[0] ^ mul(2, a[1]) ^ mul(3, a[2]) ^ a[3],
				a[0] ^ a[1] ^ mul(2, a[2]) ^ mul(3, a[3]),
				mul(3, a[0]) ^ a[1] ^ a[2] ^ mul(2, a[3]),
			}
			if got := tables.stirred(a); got != right {
				t.Errorf("%x becomes %x, not %x", a, got, right)
			}
			whole := square(slices.Concat(a[:], right[:], a[:], a[:]))
			if got := tables.mixed(tables.mixed(whole, 1), 3); got != whole {
				t.Errorf("%x becomes %x", whole, got)
			}
		}
	}
}

// checkBoth holds Encrypt and Decrypt against Go's own library, both ways.
func checkBoth(t *testing.T, key, block string) {
	t.Helper()
	c, err := library.NewCipher([]byte(key))
	if err != nil {
		t.Fatal(err)
	}
	var out [16]byte
	c.Encrypt(out[:], []byte(block))
	got, e := Encrypt(key, block)
	want(t, "Encrypt", got, e, string(out[:]), api.OK, key, block)
	c.Decrypt(out[:], []byte(block))
	got, e = Decrypt(key, block)
	want(t, "Decrypt", got, e, string(out[:]), api.OK, key, block)
}

// P10: edges with chance, and chance with chance.
func TestAgainstLibrary(t *testing.T) {
	blocks := chance(200, 16)
	for i, key := range slices.Concat(keys(), chance(100, 16), chance(100, 32)) {
		checkBoth(t, key, blocks[i%200])
	}
	for _, key := range []string{blocks[0], blocks[1] + blocks[2], strings.Repeat("\x00", 16), strings.Repeat("\xff", 32)} {
		for _, block := range edges(16) {
			checkBoth(t, key, block)
		}
	}
}

// P10: one behind the other, both ways round.
func TestThereAndBack(t *testing.T) {
	for i, block := range append(edges(16), chance(50, 16)...) {
		key := keys()[i%len(keys())]
		there, e := Encrypt(key, block)
		if len(there) != 16 || there == block || e != api.OK {
			t.Errorf("Encrypt(%x, %x) = %x, %d", key, block, there, e)
		}
		got, e := Decrypt(key, there)
		want(t, "Decrypt of Encrypt", got, e, block, api.OK, key, block)
		back, e := Decrypt(key, block)
		if len(back) != 16 || back == block || e != api.OK {
			t.Errorf("Decrypt(%x, %x) = %x, %d", key, block, back, e)
		}
		got, e = Encrypt(key, back)
		want(t, "Encrypt of Decrypt", got, e, block, api.OK, key, block)
	}
}

// P10: each bit of key and of block counts, and a key of 16 bytes twice over
// is another one than that of 16.
func TestEachBitCounts(t *testing.T) {
	block := chance(1, 16)[0]
	for _, key := range []string{chance(1, 16)[0], strings.Repeat(chance(1, 16)[0], 2)} {
		seen := map[string]int{}
		note := func(s string, e api.Errno) {
			if e != api.OK {
				t.Error(e)
			}
			seen[s]++
		}
		note(Encrypt(key, block))
		for bit := range 8 * len(key) {
			note(Encrypt(flipped(key, bit), block))
		}
		for bit := range 8 * len(block) {
			note(Encrypt(key, flipped(block, bit)))
		}
		if len(seen) != 1+8*len(key)+8*len(block) {
			t.Errorf("%x: %d answers", key, len(seen))
		}
	}
	short, _ := Encrypt(chance(1, 16)[0], block)
	if long, e := Encrypt(strings.Repeat(chance(1, 16)[0], 2), block); short == long || e != api.OK {
		t.Errorf("%x, %x, %d", short, long, e)
	}
}

// wrongTexts are of no length that is right.
func wrongTexts(right ...int) []string {
	list := []string{strings.Repeat("\xff", 1000), strings.Repeat("\x00", 1<<20)}
	for n := range 130 {
		if !slices.Contains(right, n) {
			list = append(list, strings.Repeat("\x00", n), strings.Repeat("\xff", n), strings.Repeat("é", n)[:n])
		}
	}
	return list
}

// wantRefused asks both ways.
func wantRefused(t *testing.T, key, block string) {
	t.Helper()
	got, e := Encrypt(key, block)
	want(t, "Encrypt", got, e, "", api.ErrArg, key, block)
	got, e = Decrypt(key, block)
	want(t, "Decrypt", got, e, "", api.ErrArg, key, block)
}

// P9, wrong inputs: keys of 24 bytes, which FIPS 197 has, among them.
func TestWrongKeys(t *testing.T) {
	for _, key := range append(wrongTexts(16, 32), chance(1, 24)[0]) {
		got, e := Expand(key)
		want(t, "Expand", got, e, "", api.ErrArg, key)
		wantRefused(t, key, chance(1, 16)[0])
		wantRefused(t, key, chance(1, 32)[0])
		wantRefused(t, key, "")
		wantRefused(t, key, key)
	}
}

// P9, wrong inputs: blocks of 32 bytes, which a key may have, among them.
func TestWrongBlocks(t *testing.T) {
	for _, block := range wrongTexts(16) {
		wantRefused(t, chance(1, 16)[0], block)
		wantRefused(t, chance(1, 32)[0], block)
	}
}

// P9: texts that are as long together as a key and a block are not both yet.
func TestWrongLengthsTogether(t *testing.T) {
	for _, whole := range []string{strings.Repeat("\x01", 32), strings.Repeat("\x01", 48)} {
		for n := range len(whole) + 1 {
			if len(whole)-n != 16 {
				wantRefused(t, whole[:n], whole[n:])
			}
		}
	}
}

// P10, of many blocks: none, one, and as many as a text can have, each as
// Encrypt has it, the same ones twice among them.
func TestEncryptAll(t *testing.T) {
	blocks := slices.Concat(edges(16), chance(100, 16), edges(16)[:3])
	for _, key := range []string{chance(1, 16)[0], chance(1, 32)[0], strings.Repeat("\x00", 32)} {
		right := ""
		for n := range len(blocks) + 1 {
			all := strings.Join(blocks[:n], "")
			got, e := EncryptAll(key, all)
			want(t, "EncryptAll", got, e, right, api.OK, key, all)
			if n < len(blocks) {
				one, _ := Encrypt(key, blocks[n])
				right += one
			}
		}
	}
}

// P9, of many blocks: wrong keys, and a last block that is not whole.
func TestWrongEncryptAll(t *testing.T) {
	for _, key := range wrongTexts(16, 32) {
		for _, blocks := range []string{"", "a", chance(1, 16)[0], chance(1, 32)[0]} {
			got, e := EncryptAll(key, blocks)
			want(t, "EncryptAll", got, e, "", api.ErrArg, key, blocks)
		}
	}
	for n := range 100 {
		if n%16 != 0 {
			got, e := EncryptAll(chance(1, 32)[0], chance(1, n)[0])
			want(t, "EncryptAll", got, e, "", api.ErrArg, chance(1, n)[0])
		}
	}
}

// P1, P9 and P10 for whatever comes.
func FuzzAnything(f *testing.F) {
	for _, key := range keys() {
		f.Add(key, strings.Repeat("\x5a", 16))
	}
	f.Add("", "x")
	f.Fuzz(func(t *testing.T, key, block string) {
		got, e := Expand(key)
		if len(key) != 16 && len(key) != 32 {
			want(t, "Expand", got, e, "", api.ErrArg, key)
			wantRefused(t, key, block)
			return
		}
		want(t, "Expand", got, e, words(key), api.OK, key)
		if len(block) != 16 {
			wantRefused(t, key, block)
			return
		}
		checkBoth(t, key, block)
	})
}

// calls answers what each call makes of key and block.
func calls(key, block string) []string {
	var list []string
	keep := func(s string, _ api.Errno) { list = append(list, s) }
	keep(Expand(key))
	keep(Encrypt(key, block))
	keep(Decrypt(key, block))
	keep(EncryptAll(key, block+block))
	keep(EncryptAll(key, block))
	return list
}

// shares says whether two texts have a byte of memory in common.
func shares(a, b string) bool {
	if len(a) == 0 || len(b) == 0 {
		return false
	}
	p, q := uintptr(unsafe.Pointer(unsafe.StringData(a))), uintptr(unsafe.Pointer(unsafe.StringData(b)))
	return p < q+uintptr(len(b)) && q < p+uintptr(len(a))
}

// P2: what is handed in stays, the room behind it too, and no answer lies in
// it: also where key and block are the same bytes.
func TestNothingShared(t *testing.T) {
	for _, key := range append(keys(), "", "short", strings.Repeat("long", 20)) {
		room := key + "a block: 16 byte" + "room behind"
		handed := []byte(room)
		whole := unsafe.String(unsafe.SliceData(handed), len(handed))
		mine, block := whole[:len(key)], whole[len(key):len(key)+16]
		for _, answer := range append(calls(mine, block), calls(mine, mine)...) {
			if shares(answer, whole) {
				t.Errorf("an answer to %x lies in what was handed in", key)
			}
		}
		if string(handed) != room {
			t.Errorf("%x became %x", room, handed)
		}
	}
}

// P2: no two answers lie in the same memory.
func TestAnswersApart(t *testing.T) {
	key, block := chance(1, 32)[0], chance(1, 16)[0]
	answers := slices.Concat(calls(key, block), calls(key, block), calls(block, block))
	for i, a := range answers {
		for _, b := range answers[i+1:] {
			if shares(a, b) {
				t.Fatalf("two answers share %x", a)
			}
		}
	}
}

// P2: nothing is kept: the same call answers the same, whatever came between,
// what was refused included, and at the same time as others.
func TestAnswersStay(t *testing.T) {
	key, block := chance(1, 32)[0], chance(1, 16)[0]
	all := calls(key, block)
	first := strings.Join(all, "")
	var group sync.WaitGroup
	for _, other := range append(keys(), "", "short") {
		group.Go(func() {
			calls(other, block)
			calls(key, other)
			if !slices.Equal(calls(key, block), all) {
				t.Errorf("answers differ behind %x", other)
			}
		})
	}
	group.Wait()
	if strings.Join(all, "") != first {
		t.Errorf("answers changed")
	}
}
