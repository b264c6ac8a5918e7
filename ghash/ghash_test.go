package ghash

import (
	"crypto/aes"
	"crypto/cipher"
	"encoding/binary"
	"encoding/hex"
	"math"
	"math/big"
	"math/rand"
	"slices"
	"strings"
	"sync"
	"testing"
	"unsafe"

	"souterrain/api"
)

// nought, one and x are the blocks that stand for 0, 1 and x; beyond is what
// x^128 leaves.
var (
	nought = strings.Repeat("\x00", 16)
	one    = power(0)
	x      = power(1)
	beyond = "\xe1" + nought[1:]
)

// power answers the block of the one bit that stands at x^i.
func power(i int) string {
	b := make([]byte, 16)
	b[i/8] = 0x80 >> (i % 8)
	return string(b)
}

// unhex leaves blanks and line ends out.
func unhex(t *testing.T, h string) string {
	t.Helper()
	b, err := hex.DecodeString(strings.Join(strings.Fields(h), ""))
	if err != nil {
		t.Fatal(h)
	}
	return string(b)
}

func want(t *testing.T, name, got string, e api.Errno, text string, err api.Errno, in ...string) {
	t.Helper()
	if got != text || e != err {
		t.Errorf("%s(%.100x) = %x, %d; want %x, %d", name, in, got, e, text, err)
	}
}

// wantMul asks for a product both ways round.
func wantMul(t *testing.T, a, b, right string) {
	t.Helper()
	got, e := Mul(a, b)
	want(t, "Mul", got, e, right, api.OK, a, b)
	got, e = Mul(b, a)
	want(t, "Mul", got, e, right, api.OK, b, a)
}

func wantSum(t *testing.T, h, l, s, right string) {
	t.Helper()
	got, e := Sum(h, l, s)
	want(t, "Sum", got, e, right, api.OK, h, l, s)
}

// xored takes texts of 16 bytes.
func xored(list ...string) string {
	out := make([]byte, 16)
	for _, s := range list {
		for i := range out {
			out[i] ^= s[i]
		}
	}
	return string(out)
}

// polynomial answers the number whose bit i is what stands at x^i.
func polynomial(s string) *big.Int {
	n := new(big.Int)
	for i := range 128 {
		n.SetBit(n, i, uint(s[i/8]>>(7-i%8)&1))
	}
	return n
}

// product is Mul as P11 says it, not as the program works it out: the whole
// product of two polynomials first, and then what it leaves.
func product(a, b string) string {
	p, q := polynomial(a), polynomial(b)
	sum := new(big.Int)
	for i := range 128 {
		if q.Bit(i) == 1 {
			sum.Xor(sum, new(big.Int).Lsh(p, uint(i)))
		}
	}
	modulus := new(big.Int)
	for _, i := range []int{128, 7, 2, 1, 0} {
		modulus.SetBit(modulus, i, 1)
	}
	for sum.BitLen() > 128 {
		sum.Xor(sum, new(big.Int).Lsh(modulus, uint(sum.BitLen()-129)))
	}
	out := nought
	for i := range 128 {
		if sum.Bit(i) == 1 {
			out = xored(out, power(i))
		}
	}
	return out
}

// padded answers s with as many bytes 0 behind it as make whole blocks of it.
func padded(s string) string { return s + strings.Repeat("\x00", (16-len(s)%16)%16) }

// lengthsText is the last block that Sum takes in.
func lengthsText(l, s int) string {
	b := binary.BigEndian.AppendUint64(nil, uint64(l)*8)
	return string(binary.BigEndian.AppendUint64(b, uint64(s)*8))
}

// sum is Sum in P11's words.
func sum(h, l, s string) string {
	y := nought
	for all := padded(l) + padded(s) + lengthsText(len(l), len(s)); all != ""; all = all[16:] {
		y = product(xored(y, all[:16]), h)
	}
	return y
}

// chance answers texts that are the same in each run.
func chance(count, length int) []string {
	r := rand.New(rand.NewSource(38))
	list := make([]string, count)
	for i := range list {
		b := make([]byte, length)
		r.Read(b)
		list[i] = string(b)
	}
	return list
}

// edges has 0, blocks of one byte again and again, those of one bit at the ends
// of bytes and of halves, and those of all bits but this one.
func edges() []string {
	full := strings.Repeat("\xff", 16)
	list := []string{nought, full, strings.Repeat("\x55", 16), strings.Repeat("\xaa", 16), beyond}
	for _, i := range []int{0, 1, 2, 6, 7, 8, 31, 32, 62, 63, 64, 65, 71, 120, 121, 126, 127} {
		list = append(list, power(i), xored(full, power(i)))
	}
	return list
}

// texts has some of no byte, of whole blocks, and of a last one of fewer than
// 16 bytes; noughts among them, at the ends and alone.
func texts() []string {
	var list []string
	for _, n := range []int{0, 1, 2, 7, 8, 9, 15, 16, 17, 20, 24, 31, 32, 33, 47, 48, 60, 64, 100} {
		list = append(list, chance(1, n)[0], strings.Repeat("\x00", n), strings.Repeat("\xff", n))
	}
	return append(list, "a\x00", "\x00a", nought+"a", "a"+nought)
}

// given are GHASH's answers where GCM's inventors (McGrew and Viega, test cases
// 1 to 4 and 16) wrote them out: H, A, C, what it is behind each block, and the
// answer.
var given = []struct{ h, l, s, between, right string }{
	{"66e94bd4ef8a2c3b884cfa59ca342b2e", "", "", "", "00000000000000000000000000000000"},
	{
		"66e94bd4ef8a2c3b884cfa59ca342b2e", "", "0388dace60b6a392f328c2b971b2fe78",
		"5e2ec746917062882c85b0685353deb7", "f38cbb1ad69223dcc3457ae5b6b0f885",
	},
	{
		"b83b533708bf535d0aa6e52980d53b78", "",
		`42831ec2217774244b7221b784d0d49c e3aa212f2c02a4e035c17e2329aca12e
		21d514b25466931c7d8f6a5aac84aa05 1ba30b396a0aac973d58e091473f5985`,
		`59ed3f2bb1a0aaa07c9f56c6a504647b b714c9048389afd9f9bc5c1d4378e052
		47400c6577b1ee8d8f40b2721e86ff10 4796cf49464704b5dd91f159bb1b7f95`,
		"7f1b32b81b820d02614f8895ac1d4eac",
	},
	{
		"b83b533708bf535d0aa6e52980d53b78", "feedfacedeadbeeffeedfacedeadbeef abaddad2",
		`42831ec2217774244b7221b784d0d49c e3aa212f2c02a4e035c17e2329aca12e
		21d514b25466931c7d8f6a5aac84aa05 1ba30b396a0aac973d58e091`,
		`ed56aaf8a72d67049fdb9228edba1322 cd47221ccef0554ee4bb044c88150352
		54f5e1b2b5a8f9525c23924751a3ca51 324f585c6ffc1359ab371565d6c45f93
		ca7dd446af4aa70cc3c0cd5abba6aa1c 1590df9b2eb6768289e57d56274c8570`,
		"698e57f70e6ecc7fd9463b7260a9ae5f",
	},
	{
		"acbef20579b4b8ebce889bac8732dad7", "feedfacedeadbeeffeedfacedeadbeef abaddad2",
		`522dc1f099567d07f47f37a32a84427d 643a8cdcbfe5c0c97598a2bd2555d1aa
		8cb08e48590dbb3da7b08b1056828838 c5f61e6393ba7a0abcc9f662`,
		"", "8bd0c4d8aacd391e67cca447e8c38f65",
	},
}

// P11: sums whose answers are known.
func TestSumWrittenOut(t *testing.T) {
	for _, c := range given {
		wantSum(t, unhex(t, c.h), unhex(t, c.l), unhex(t, c.s), unhex(t, c.right))
	}
}

// P11: products whose answers are known: each step of these sums, the one of
// both lengths included.
func TestMulWrittenOut(t *testing.T) {
	for _, c := range given {
		h, l, s := unhex(t, c.h), unhex(t, c.l), unhex(t, c.s)
		between := unhex(t, c.between)
		if between == "" {
			continue
		}
		steps := between + unhex(t, c.right)
		y := nought
		for all := padded(l) + padded(s) + lengthsText(len(l), len(s)); all != ""; all = all[16:] {
			wantMul(t, xored(y, all[:16]), h, steps[:16])
			y, steps = steps[:16], steps[16:]
		}
	}
}

// P11: the powers of x in the chapter's order of bits, up to those that come
// to x^128 and beyond.
func TestPowersWrittenOut(t *testing.T) {
	last := power(127)
	wantMul(t, one, one, "\x80"+nought[1:])
	wantMul(t, one, x, "\x40"+nought[1:])
	wantMul(t, x, x, "\x20"+nought[1:])
	wantMul(t, power(7), one, "\x01"+nought[1:])
	wantMul(t, power(7), x, "\x00\x80"+nought[2:])
	wantMul(t, power(63), x, nought[:8]+"\x80"+nought[9:])
	wantMul(t, power(126), x, nought[:15]+"\x01")
	wantMul(t, last, x, "\xe1"+nought[1:])
	wantMul(t, last, power(2), "\x70\x80"+nought[2:])
	wantMul(t, power(64), power(64), "\xe1"+nought[1:])
	// x^248 is x^120 times what x^128 leaves, of which x^127 is the highest.
	wantMul(t, power(121), last, nought[:15]+"\xe1")
	// x^249 has x^128 once more: x^121 + x^122 + x^123, and what it leaves.
	wantMul(t, power(122), last, "\xe1"+nought[1:15]+"\x70")
	wantMul(t, last, last, "\xe6\x08"+nought[2:15]+"\x03")
}

// P11: all pairs of blocks of one bit each.
func TestMulOfOneBitEach(t *testing.T) {
	powers := make([]string, 255)
	for i := range powers {
		powers[i] = nought
		if i < 128 {
			powers[i] = power(i)
			continue
		}
		// x^128 leaves 1 + x + x^2 + x^7: so x^i leaves what these leave
		// times x^(i - 128).
		for _, k := range []int{0, 1, 2, 7} {
			powers[i] = xored(powers[i], powers[i-128+k])
		}
	}
	for i := range 128 {
		for j := range 128 {
			wantMul(t, power(i), power(j), powers[i+j])
		}
	}
}

// P11: the blocks of 1 and of 0, with each block of one bit, the edges and
// chance.
func TestMulOfNoughtAndOne(t *testing.T) {
	list := append(edges(), chance(100, 16)...)
	for i := range 128 {
		list = append(list, power(i))
	}
	for _, a := range list {
		wantMul(t, a, one, a)
		wantMul(t, a, nought, nought)
	}
}

// P11: all pairs of edges, and chance.
func TestMul(t *testing.T) {
	for _, a := range edges() {
		for _, b := range edges() {
			wantMul(t, a, b, product(a, b))
		}
	}
	for _, s := range chance(500, 32) {
		wantMul(t, s[:16], s[16:], product(s[:16], s[16:]))
	}
}

// times is Mul where nothing is wrong.
func times(a, b string) string {
	s, e := Mul(a, b)
	if e != api.OK {
		return ""
	}
	return s
}

// P11: what holds for products of polynomials.
func TestMulOfSumsAndProducts(t *testing.T) {
	for _, s := range chance(200, 48) {
		a, b, c := s[:16], s[16:32], s[32:]
		wantMul(t, a, xored(b, c), xored(times(a, b), times(a, c)))
		wantMul(t, times(a, b), c, times(a, times(b, c)))
	}
}

// P11: a block that is squared 128 times is the same again, since the modulus
// has no divisors.
func TestSquares(t *testing.T) {
	for _, a := range append(edges(), chance(50, 16)...) {
		square := a
		for range 128 {
			square = times(square, square)
		}
		if square != a {
			t.Errorf("%x becomes %x", a, square)
		}
	}
}

// P11: all pairs of texts, by edges and chance.
func TestSum(t *testing.T) {
	keys := append(edges(), chance(100, 16)...)
	for i, l := range texts() {
		for j, s := range texts() {
			h := keys[(i*len(texts())+j)%len(keys)]
			wantSum(t, h, l, s, sum(h, l, s))
		}
	}
	for _, h := range keys {
		for _, n := range []int{0, 16, 20, 45} {
			l, s := chance(1, n)[0], chance(1, 60-n)[0]
			wantSum(t, h, l, s, sum(h, l, s))
		}
	}
}

// P11, the edge: of no byte at all there is a block of lengths still, and it is
// 0.
func TestSumOfNoByte(t *testing.T) {
	for _, h := range append(edges(), chance(50, 16)...) {
		wantSum(t, h, "", "", nought)
	}
}

// P11: by 1 blocks are xored, by 0 all is 0, and by x each block is moved on
// by the ones behind it.
func TestSumByNoughtOneAndX(t *testing.T) {
	a, b, c := chance(3, 16)[0], chance(3, 16)[1], chance(3, 16)[2]
	wantSum(t, one, a, b, xored(a, b, lengthsText(16, 16)))
	wantSum(t, one, a+b, c, xored(a, b, c, lengthsText(32, 16)))
	wantSum(t, one, "", a+b+c, xored(a, b, c, lengthsText(0, 48)))
	wantSum(t, one, "a", "", "a"+nought[:6]+"\x08"+nought[:8])
	wantSum(t, one, "", "a", "a"+nought[:14]+"\x08")
	wantSum(t, one, "ab", "abc", "\x00\x00c"+nought[:4]+"\x10"+nought[:7]+"\x18")
	wantSum(t, x, one, one, xored(power(3), power(2), product(x, lengthsText(16, 16))))
	wantSum(t, x, one, "", xored(power(2), product(x, lengthsText(16, 0))))
	wantSum(t, x, "", one, xored(power(2), product(x, lengthsText(0, 16))))
	for _, s := range texts() {
		wantSum(t, nought, s, s, nought)
		wantSum(t, nought, "", s, nought)
	}
}

// P11: texts of noughts alone count by their lengths, in bits, the highest byte
// first, l's ahead of s's.
func TestSumOfLengths(t *testing.T) {
	h := chance(1, 16)[0]
	for _, n := range []int{1, 15, 16, 17, 31, 32, 255, 256, 8191, 8192, 8193, 1<<21 - 1, 1 << 21, 1<<21 + 5} {
		s := strings.Repeat("\x00", n)
		wantSum(t, h, s, "", product(h, lengthsText(n, 0)))
		wantSum(t, h, "", s, product(h, lengthsText(0, n)))
		wantSum(t, h, s, s, product(h, lengthsText(n, n)))
		wantSum(t, one, s, s[1:], lengthsText(n, n-1))
	}
	wantSum(t, one, strings.Repeat("\x00", 1<<21+5), nought, "\x00\x00\x00\x00\x01\x00\x00\x28"+nought[:7]+"\x80")
}

// P11: as many bits as the greatest texts have, which no test hands in.
func TestLengths(t *testing.T) {
	for _, c := range []struct {
		l, s  int
		right string
	}{
		{0, 0, nought},
		{1, 2, "\x00\x00\x00\x00\x00\x00\x00\x08\x00\x00\x00\x00\x00\x00\x00\x10"},
		{0x01234567, 0, "\x00\x00\x00\x00\x09\x1a\x2b\x38" + nought[:8]},
		{0, 1 << 29, nought[:8] + "\x00\x00\x00\x01\x00\x00\x00\x00"},
		{1 << 28, 1<<30 + 1, "\x00\x00\x00\x00\x80\x00\x00\x00\x00\x00\x00\x02\x00\x00\x00\x08"},
		{math.MaxInt32, math.MaxInt32, "\x00\x00\x00\x03\xff\xff\xff\xf8\x00\x00\x00\x03\xff\xff\xff\xf8"},
	} {
		if got := lengths(c.l, c.s).text(); got != c.right {
			t.Errorf("%d and %d bytes: %x, not %x", c.l, c.s, got, c.right)
		}
	}
}

// P11: where one text ends, and how many bytes 0 it has at its end, counts;
// and so does which one is which.
func TestSumTellsApart(t *testing.T) {
	h := chance(1, 16)[0]
	seen := map[string][2]string{}
	note := func(l, s string) {
		got, e := Sum(h, l, s)
		if len(got) != 16 || e != api.OK {
			t.Errorf("Sum(%x, %x, %x) = %x, %d", h, l, s, got, e)
		}
		mine := [2]string{l, s}
		if was, ok := seen[got]; ok && was != mine {
			t.Errorf("%x and %x have the same Sum", mine, was)
		}
		seen[got] = mine
	}
	whole := "sixteen bytes, and some more behind them: three blocks and more"
	for n := range len(whole) + 1 {
		note(whole[:n], whole[n:])
		note(whole[:n]+"\x00", "")
		note("", whole[n:]+"\x00")
	}
	for n := range 40 {
		note("a"+strings.Repeat("\x00", n), "a")
		note("a", "b"+strings.Repeat("\x00", n))
		note(strings.Repeat("\x00", n), "")
		note("", strings.Repeat("\x00", n+1))
	}
}

// fromLibrary works h and what Sum answers out from what Go's own library seals:
// h is the block of 0, encrypted; and the tag is the sum, xored with nonce and 1,
// encrypted.
func fromLibrary(t *testing.T, key, l, text string) (h, s, right string) {
	t.Helper()
	c, err := aes.NewCipher([]byte(key))
	if err != nil {
		t.Fatal(err)
	}
	g, err := cipher.NewGCM(c)
	if err != nil {
		t.Fatal(err)
	}
	nonce := []byte("twelve bytes")
	sealed := g.Seal(nil, nonce, []byte(text), []byte(l))
	var first, mask [16]byte
	c.Encrypt(first[:], first[:])
	c.Encrypt(mask[:], append(nonce, 0, 0, 0, 1))
	end := len(sealed) - 16
	return string(first[:]), string(sealed[:end]), xored(string(sealed[end:]), string(mask[:]))
}

// P11: texts of all lengths up to some blocks, and greater ones.
func TestSumAgainstLibrary(t *testing.T) {
	for i, key := range chance(70, 32) {
		for _, n := range []int{0, 1, 15, 16, 17, 33, i, 2000} {
			h, s, right := fromLibrary(t, key, chance(1, i)[0], chance(1, n)[0])
			wantSum(t, h, chance(1, i)[0], s, right)
		}
	}
	long := chance(1, 1<<20+3)[0]
	h, s, right := fromLibrary(t, long[:16], long, long)
	wantSum(t, h, long, s, right)
}

// wrongTexts have not 16 bytes.
func wrongTexts() []string {
	list := []string{strings.Repeat("\xff", 1000), strings.Repeat("\x00", 1<<20), strings.Repeat("é", 16)}
	for n := range 130 {
		if n != 16 {
			list = append(list, strings.Repeat("\x00", n), strings.Repeat("\xff", n), one[:min(n, 16)]+strings.Repeat("\x00", max(n-16, 0)))
		}
	}
	return list
}

// P11, wrong inputs: a, b, or both.
func TestWrongFactors(t *testing.T) {
	for _, a := range wrongTexts() {
		for _, b := range []string{one, nought, beyond, "", "x", a, a + a, chance(1, 15)[0], chance(1, 17)[0]} {
			got, e := Mul(a, b)
			want(t, "Mul", got, e, "", api.ErrArg, a, b)
			got, e = Mul(b, a)
			want(t, "Mul", got, e, "", api.ErrArg, b, a)
		}
	}
	for n := range 33 {
		if n != 16 {
			got, e := Mul((one + x)[:n], (one + x)[n:])
			want(t, "Mul", got, e, "", api.ErrArg, one, x)
		}
	}
}

// P11, wrong inputs: h, whatever l and s are.
func TestWrongKeys(t *testing.T) {
	for _, h := range wrongTexts() {
		for _, l := range []string{"", "a", one, one + x} {
			for _, s := range []string{"", "a", one, h} {
				got, e := Sum(h, l, s)
				want(t, "Sum", got, e, "", api.ErrArg, h, l, s)
			}
		}
	}
}

// P1 and P11 for whatever comes.
func FuzzAnything(f *testing.F) {
	for i, a := range edges() {
		f.Add(a, texts()[i], texts()[len(texts())-1-i])
		f.Add(a, edges()[i/2], "")
	}
	f.Add("", "x", "é")
	f.Fuzz(func(t *testing.T, a, b, c string) {
		got, e := Mul(a, b)
		if len(a) != 16 || len(b) != 16 {
			want(t, "Mul", got, e, "", api.ErrArg, a, b)
		} else {
			want(t, "Mul", got, e, product(a, b), api.OK, a, b)
		}
		got, e = Sum(a, b, c)
		if len(a) != 16 {
			want(t, "Sum", got, e, "", api.ErrArg, a, b, c)
		} else {
			want(t, "Sum", got, e, sum(a, b, c), api.OK, a, b, c)
		}
	})
}

// calls answers what each call makes of a, b and c.
func calls(a, b, c string) []string {
	var list []string
	keep := func(s string, _ api.Errno) { list = append(list, s) }
	keep(Mul(a, b))
	keep(Mul(b, a))
	keep(Sum(a, b, c))
	keep(Sum(b, c, a))
	return list
}

// shares says whether two texts have a byte of memory in common.
func shares(a, b string) bool {
	if len(a) == 0 || len(b) == 0 {
		return false
	}
	p, q := uintptr(unsafe.Pointer(unsafe.StringData(a))), uintptr(unsafe.Pointer(unsafe.StringData(b)))
	return p < q+uintptr(len(b)) && q < p+uintptr(len(a))
}

// P2: what is handed in stays, the room behind it too, and no answer lies in
// it: also where an answer is the same block (a product with 0 or 1), and where
// all that is handed in are the same bytes.
func TestNothingShared(t *testing.T) {
	for _, a := range append(edges(), "", "short", strings.Repeat("long", 20)) {
		for _, b := range []string{nought, one, x, "a block: 16 byte"} {
			room := a + b + "a text" + "room behind"
			handed := []byte(room)
			whole := unsafe.String(unsafe.SliceData(handed), len(handed))
			mine, other, text := whole[:len(a)], whole[len(a):len(a)+16], whole[len(a)+16:len(a)+22]
			for _, answer := range slices.Concat(calls(mine, other, text), calls(mine, mine, mine), calls(other, "", "")) {
				if shares(answer, whole) {
					t.Errorf("an answer to %x and %x lies in what was handed in", a, b)
				}
			}
			if string(handed) != room {
				t.Errorf("%x became %x", room, handed)
			}
		}
	}
}

// P2: no two answers lie in the same memory.
func TestAnswersApart(t *testing.T) {
	a, b := chance(2, 16)[0], chance(2, 16)[1]
	answers := slices.Concat(calls(a, b, "text"), calls(a, b, "text"), calls(nought, one, ""), calls(nought, nought, ""))
	for i, s := range answers {
		for _, other := range answers[i+1:] {
			if shares(s, other) {
				t.Fatalf("two answers share %x", s)
			}
		}
	}
}

// P2: nothing is kept: the same call answers the same, whatever came between,
// what was refused included, and at the same time as others.
func TestAnswersStay(t *testing.T) {
	a, b := chance(2, 16)[0], chance(2, 16)[1]
	all := calls(a, b, "text")
	first := strings.Join(all, "")
	var group sync.WaitGroup
	for _, other := range append(edges(), "", "short") {
		group.Go(func() {
			calls(other, b, "text")
			calls(a, other, other)
			if !slices.Equal(calls(a, b, "text"), all) {
				t.Errorf("answers differ behind %x", other)
			}
		})
	}
	group.Wait()
	if strings.Join(all, "") != first {
		t.Errorf("answers changed")
	}
}

func BenchmarkSum(b *testing.B) {
	h, text := chance(1, 16)[0], chance(1, api.MaxText)[0]
	for b.Loop() {
		Sum(h, text, text)
	}
}
