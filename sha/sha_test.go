package sha

import (
	library "crypto/sha256"
	"encoding/binary"
	"encoding/hex"
	"math/big"
	"math/rand"
	"reflect"
	"runtime"
	"slices"
	"strings"
	"sync"
	"testing"
	"unsafe"
	"weak"
)

// unhex leaves blanks and line ends out.
func unhex(t *testing.T, h string) string {
	t.Helper()
	b, err := hex.DecodeString(strings.Join(strings.Fields(h), ""))
	if err != nil {
		t.Fatal(h)
	}
	return string(b)
}

// chance answers texts that are the same in each run.
func chance(count, length int) []string {
	r := rand.New(rand.NewSource(256))
	list := make([]string, count)
	for i := range list {
		b := make([]byte, length)
		r.Read(b)
		list[i] = string(b)
	}
	return list
}

// flipped answers s with one bit changed.
func flipped(s string, bit int) string {
	b := []byte(s)
	b[bit/8] ^= 1 << (bit % 8)
	return string(b)
}

func want(t *testing.T, what, got, right, text string) {
	t.Helper()
	if got != right {
		t.Errorf("%s, of %d bytes (%.100x), = %x; want %x", what, len(text), text, got, right)
	}
}

// wantSum holds Sum against what is known of it, and a Hash that text was
// written to at once.
func wantSum(t *testing.T, text, right string) {
	t.Helper()
	want(t, "Sum", Sum(text), right, text)
	h := New()
	h.Write(text)
	want(t, "a Hash's Sum", h.Sum(), right, text)
}

// wantSaid holds Sum against the chapter's words and against Go's own library.
func wantSaid(t *testing.T, text string) {
	t.Helper()
	wantSum(t, text, said(text))
	wantSum(t, text, libraryOf(text))
}

func libraryOf(text string) string {
	sum := library.Sum256([]byte(text))
	return string(sum[:])
}

// primes answers that many of them, the lowest first.
func primes(count int) []int64 {
	var list []int64
	for n := int64(2); len(list) < count; n++ {
		if !slices.ContainsFunc(list, func(p int64) bool { return n%p == 0 }) {
			list = append(list, n)
		}
	}
	return list
}

// behindPoint answers the first 32 bits behind the point of the root of p: of
// the square root, if power is 2, or of the cube root, if it is 3.
func behindPoint(p int64, power uint) uint64 {
	// The root of p times 2^(32 power) is 2^32 times that of p.
	whole := new(big.Int).Lsh(big.NewInt(p), 32*power)
	root := new(big.Int)
	for bit := 40; bit >= 0; bit-- {
		more := new(big.Int).SetBit(root, bit, 1)
		if new(big.Int).Exp(more, big.NewInt(int64(power)), nil).Cmp(whole) <= 0 {
			root = more
		}
	}
	return root.Uint64() % (1 << 32)
}

// rootsOf answers what is behind the point of that many roots.
func rootsOf(count int, power uint) []uint64 {
	var list []uint64
	for _, p := range primes(count) {
		list = append(list, behindPoint(p, power))
	}
	return list
}

// saidH and saidK are H and K in P18's words: not numbers written out.
var saidH, saidK = rootsOf(8, 2), rootsOf(64, 3)

// saidTurned and saidCut take numbers of 64 bits, so that what has to be cut is
// cut in words.
func saidTurned(x uint64, n int) uint64 { return saidCut(x>>n + x<<(32-n)) }
func saidCut(x uint64) uint64           { return x % (1 << 32) }

// saidWords is W, of 64 bytes.
func saidWords(bytes string) []uint64 {
	var w []uint64
	for i := 0; i < 64; i += 4 {
		w = append(w, uint64(binary.BigEndian.Uint32([]byte(bytes[i:]))))
	}
	for t := 16; t < 64; t++ {
		x, y := w[t-15], w[t-2]
		x = saidTurned(x, 7) ^ saidTurned(x, 18) ^ x>>3
		y = saidTurned(y, 17) ^ saidTurned(y, 19) ^ y>>10
		w = append(w, saidCut(w[t-16]+w[t-7]+x+y))
	}
	return w
}

// saidMajority counts, bit by bit.
func saidMajority(a, b, c uint64) uint64 {
	var out uint64
	for bit := range 32 {
		if a>>bit&1+b>>bit&1+c>>bit&1 >= 2 {
			out |= 1 << bit
		}
	}
	return out
}

// saidSteps answers a to h behind that many times.
func saidSteps(from []uint64, bytes string, times int) []uint64 {
	w := saidWords(bytes)
	a, b, c, d, e, f, g, h := from[0], from[1], from[2], from[3], from[4], from[5], from[6], from[7]
	for t := range times {
		not := 1<<32 - 1 - e
		t1 := h + (saidTurned(e, 6) ^ saidTurned(e, 11) ^ saidTurned(e, 25)) + (e&f ^ not&g) + saidK[t] + w[t]
		t2 := (saidTurned(a, 2) ^ saidTurned(a, 13) ^ saidTurned(a, 22)) + saidMajority(a, b, c)
		h, g, f, e, d, c, b, a = g, f, e, saidCut(d+t1), c, b, a, saidCut(t1+t2)
	}
	return []uint64{a, b, c, d, e, f, g, h}
}

// saidBlocks answers the digest of whole blocks: of a text and of what P18 puts
// behind it.
func saidBlocks(padded string) string {
	now := saidH
	for ; len(padded) > 0; padded = padded[64:] {
		next := saidSteps(now, padded, 64)
		for i := range next {
			next[i] = saidCut(next[i] + now[i])
		}
		now = next
	}
	var out []byte
	for _, n := range now {
		out = binary.BigEndian.AppendUint32(out, uint32(n))
	}
	return string(out)
}

// saidBehind says what stands behind a text of that many bytes.
func saidBehind(length int) string {
	noughts := 0
	for (length+1+noughts+8)%64 != 0 {
		noughts++
	}
	count := big.NewInt(int64(length))
	count.Mul(count, big.NewInt(8))
	return "\x80" + strings.Repeat("\x00", noughts) + string(count.FillBytes(make([]byte, 8)))
}

func said(text string) string { return saidBlocks(text + saidBehind(len(text))) }

// P18: texts whose Sum is known: FIPS 180-2, appendix B, some of NIST's own, and
// some that are in everybody's mouth.
func TestWrittenOut(t *testing.T) {
	for text, right := range map[string]string{
		"":    "e3b0c44298fc1c149afbf4c8996fb92427ae41e4649b934ca495991b7852b855",
		"abc": "ba7816bf8f01cfea414140de5dae2223b00361a396177a9cb410ff61f20015ad",
		"abcdbcdecdefdefgefghfghighijhijkijkljklmklmnlmnomnopnopq": "248d6a61d20638b8e5c026930c3e6039a33ce45964ff2167f6ecedd419db06c1",
		"abcdefghbcdefghicdefghijdefghijkefghijklfghijklmghijklmnhijklmnoijklmnopjklmnopqklmnopqrlmnopqrsmnopqrstnopqrstu": "" +
			"cf5b16a778af8380036ce59e7b0492370b249b11e8f07a51afac45037afee9d1",
		"\xd3":             "28969cdfa74a12c82f3bad960b0b000aca2ac329deea5c2328ebc6f2ba9802c1",
		"\x11\xaf":         "5ca7133fa735326081558ac312c620eeca9970d1e70a4b95533d956f072d1f98",
		"\xb4\x19\x0e":     "dff2e73091f6c05e528896c4c831b9448653dc2ff043528f6769437bc7b975c2",
		"\x74\xba\x25\x21": "b16aa56be3880d18cd41e68384cf1ec8c17680c45a02b1575dc1518923ae8b0e",
		"The quick brown fox jumps over the lazy dog": "d7a8fbb307d7809469ca9abcb0082e4f8d5651e46d3cdb762d02d0bf37c9e592",
		"hello world":              "b94d27b9934d3e08a52e52d7da7dabfac484efe37a5380ee9088f7ace2efcde9",
		strings.Repeat("\x00", 32): "66687aadf862bd776c8fc18b8e9f8e20089714856ee233b3902a591d0d5f2925",
		strings.Repeat("\x00", 64): "f5a5fd42d16a20302798ef6ed309979b43003d2320d9f0e8ea9831a92759fb4b",
		strings.Repeat("a", 1e6):   "cdc76e5c9914fb9281a1c7e284d73e67f1809a48a497200e046d39ccc7112cd0",
	} {
		wantSum(t, text, unhex(t, right))
	}
}

// P18: H and K are those that are worked out, the first and last of them
// written out in the standard, too.
func TestRoots(t *testing.T) {
	for i, n := range begun() {
		if uint64(n) != saidH[i] {
			t.Errorf("H%d is %08x, not %08x", i, n, saidH[i])
		}
	}
	for i, n := range roots {
		if uint64(n) != saidK[i] {
			t.Errorf("K%d is %08x, not %08x", i, n, saidK[i])
		}
	}
	if saidH[0] != 0x6a09e667 || saidH[7] != 0x5be0cd19 || saidK[0] != 0x428a2f98 || saidK[63] != 0xc67178f2 {
		t.Errorf("%x, %x", saidH, saidK)
	}
}

// blockOf takes 64 bytes.
func blockOf(s string) block { return block([]byte(s)) }

// stateOf takes eight numbers.
func stateOf(list []uint64) state {
	var s state
	for i := range s {
		s[i] = uint32(list[i])
	}
	return s
}

// P18: of abc some of the sixty-four times, as FIPS 180-2, appendix B.1, has
// them.
func TestStepsWrittenOut(t *testing.T) {
	padded := blockOf("abc" + saidBehind(3))
	s := begun()
	w := spread(padded)
	if w[0] != 0x61626380 || w[14] != 0 || w[15] != 0x18 {
		t.Errorf("%x", w)
	}
	steps := map[int]state{
		0:  {0x5d6aebcd, 0x6a09e667, 0xbb67ae85, 0x3c6ef372, 0xfa2a4622, 0x510e527f, 0x9b05688c, 0x1f83d9ab},
		1:  {0x5a6ad9ad, 0x5d6aebcd, 0x6a09e667, 0xbb67ae85, 0x78ce7989, 0xfa2a4622, 0x510e527f, 0x9b05688c},
		63: {0x506e3058, 0xd39a2165, 0x04d24d6c, 0xb85e2ce9, 0x5ef50f24, 0xfb121210, 0x948d25b6, 0x961f4894},
	}
	for i, n := range w {
		s.stir(roots[i] + n)
		if right, ok := steps[i]; ok && s != right {
			t.Errorf("behind time %d: %x, not %x", i, s, right)
		}
	}
}

// P18: W, and each of the sixty-four times, in the chapter's own words.
func TestSteps(t *testing.T) {
	texts := append(chance(50, 64), strings.Repeat("\x00", 64), strings.Repeat("\xff", 64))
	for i, text := range texts {
		from := saidH
		if i%2 == 1 {
			from = saidSteps(saidH, texts[i-1], 64)
		}
		s, w, right := stateOf(from), spread(blockOf(text)), saidWords(text)
		for time, n := range w {
			if uint64(n) != right[time] {
				t.Errorf("W%d of %x is %08x, not %08x", time, text, n, right[time])
			}
			s.stir(roots[time] + n)
			if next := stateOf(saidSteps(from, text, time+1)); s != next {
				t.Errorf("behind time %d: %x, not %x", time, s, next)
			}
		}
	}
}

// P18: each length up to 700 bytes, of chance, and of one byte again and again.
func TestEachLength(t *testing.T) {
	most := chance(1, 700)[0]
	for n := range len(most) + 1 {
		wantSaid(t, most[:n])
		for _, one := range []string{"\x00", "\xff", "\x80", "a"} {
			wantSaid(t, strings.Repeat(one, n))
		}
	}
}

// edges are the lengths where what stands behind a text just fits into a block,
// and where it no longer does; and what stands there, ahead of how many bits.
func edges() map[int]string {
	end := func(noughts int) string { return "\x80" + strings.Repeat("\x00", noughts) }
	return map[int]string{
		0: end(55), 1: end(54), 54: end(1), 55: end(0), 56: end(63), 57: end(62), 63: end(56), 64: end(55), 65: end(54),
		118: end(1), 119: end(0), 120: end(63), 121: end(62), 127: end(56), 128: end(55), 129: end(54),
		183: end(0), 184: end(63), 191: end(56), 192: end(55),
	}
}

// P18, the edges, written out.
func TestEdges(t *testing.T) {
	for n, end := range edges() {
		count := "\x00\x00\x00\x00\x00\x00" + string([]byte{byte(n >> 5), byte(n << 3)})
		want(t, "what is behind", behind(uint64(n)), end+count, "")
		for _, text := range append(chance(20, n), strings.Repeat("\x00", n), strings.Repeat("\x80", n)) {
			wantSum(t, text, saidBlocks(text+end+count))
			wantSum(t, text, libraryOf(text))
		}
	}
	for n, right := range map[int]string{
		55:  "9f4390f8d30c2dd92ec9f095b65e2b9ae9b0a925a5258e241c9f1e910f734318",
		56:  "b35439a4ac6f0948b6d6f9e3c6af0f5f590ce20f1bde7090ef7970686ec6738a",
		64:  "ffe054fe7ae0cb6dc65c3af9b61d5209f439851db43d0ba5997337df154668eb",
		119: "31eba51c313a5c08226adf18d4a359cfdfd8d2e816b13f4af952f7ea6584dcfb",
		120: "2f3d335432c70b580af0e8e1b3674a7c020d683aa5f73aaaedfdc55af904c21c",
		128: "6836cf13bac400e9105071cd6af47084dfacad4e5e302c94bfed24e013afb73e",
	} {
		wantSum(t, strings.Repeat("a", n), unhex(t, right))
	}
}

// P18: how many bits there were stands in eight bytes, the highest first, also
// where a text has so many that lower ones don't suffice.
func TestHowManyBits(t *testing.T) {
	for size, right := range map[uint64]string{
		0:           "00000000 00000000",
		1:           "00000000 00000008",
		31:          "00000000 000000f8",
		32:          "00000000 00000100",
		8191:        "00000000 0000fff8",
		8192:        "00000000 00010000",
		1<<21 - 1:   "00000000 00fffff8",
		1 << 21:     "00000000 01000000",
		1<<29 - 1:   "00000000 fffffff8",
		1 << 29:     "00000001 00000000",
		1<<31 - 1:   "00000003 fffffff8",
		0x123456789: "00000009 1a2b3c48",
	} {
		end := behind(size)
		want(t, "how many bits", end[max(0, len(end)-8):], unhex(t, right), "")
		if (size+uint64(len(end)))%64 != 0 || len(end) > 72 || end[0] != 128 || strings.Trim(end[1:len(end)-8], "\x00") != "" {
			t.Errorf("behind %d bytes stands %x", size, end)
		}
	}
	for _, n := range []int{8191, 8192, 8193, 1<<21 - 1, 1 << 21, 1<<21 + 1} {
		text := strings.Repeat("\x00", n)
		wantSum(t, text, libraryOf(text))
	}
}

// P18 and P19: a text of 2^32 bits, which four bytes cannot say; the digests are
// sha256sum's.
func TestManyBits(t *testing.T) {
	if testing.Short() {
		t.Skip("half a gigabyte is written")
	}
	t.Parallel()
	h := New()
	piece := strings.Repeat("\x00", 1<<20-1)
	for range 1 << 9 {
		h.Write(piece)
	}
	h.Write(piece[:1<<9-1])
	want(t, "Sum of 2^29 - 1 bytes 0", h.Sum(), unhex(t, "bf7f45d9df691bd277948d7f124b87a9f76e16ddb5d8fb25a49df939798f0a01"), "")
	h.Write("\x00")
	want(t, "Sum of 2^29 bytes 0", h.Sum(), unhex(t, "9acca8e8c22201155389f65abbf6bc9723edc7384ead80503839f49dcc56d767"), "")
}

// P18: a text of many blocks; which block is where counts.
func TestManyBlocks(t *testing.T) {
	for _, n := range []int{10, 100, 1000, 5000} {
		text := chance(1, 64*n)[0]
		for _, s := range []string{text, text[1:], text + "a", text[64:] + text[:64]} {
			wantSum(t, s, said(s))
		}
		wantSum(t, text, libraryOf(text))
	}
}

// P18: each bit of a text counts, and so does each byte more, whatever it is:
// also one that looks like what stands behind a text.
func TestEachBitCounts(t *testing.T) {
	seen := map[string]string{}
	add := func(text string) {
		sum := Sum(text)
		if was, ok := seen[sum]; ok && was != text || len(sum) != 32 {
			t.Errorf("Sum of %x = %x, which is that of %x", text, sum, was)
		}
		seen[sum] = text
	}
	for n := range edges() {
		text := chance(1, n)[0]
		add(text)
		for bit := range 8 * n {
			add(flipped(text, bit))
		}
		end := saidBehind(n)
		for i := range len(end) {
			add(text + end[:i+1])
		}
		for i := range 130 {
			add(text + strings.Repeat("\x00", i))
		}
	}
}

// pieces cuts a text: its pieces have these lengths, again and again, as long as
// there is something left.
func pieces(text string, lengths ...int) []string {
	var list []string
	for i := 0; len(text) > 0; i++ {
		n := min(lengths[i%len(lengths)], len(text))
		list = append(list, text[:n])
		text = text[n:]
	}
	return list
}

// sums answers the Sum of each front of text, by its length.
func sums(text string) []string {
	list := make([]string, len(text)+1)
	for n := range list {
		list[n] = said(text[:n])
	}
	return list
}

// wantPieces writes one piece behind the other to a Hash; with asked set it asks
// for Sum in between.
func wantPieces(t *testing.T, list []string, right []string, asked bool) {
	t.Helper()
	h := New()
	all := ""
	for _, piece := range list {
		h.Write(piece)
		all += piece
		if asked {
			want(t, "Sum in between", h.Sum(), right[len(all)], all)
		}
	}
	want(t, "Sum at the end", h.Sum(), right[len(all)], all)
}

// P19: the same text whole, byte by byte, and in pieces of each size up to 300,
// Sum asked for between any two of them, or not.
func TestPieces(t *testing.T) {
	text := chance(1, 700)[0]
	right := sums(text)
	for _, asked := range []bool{false, true} {
		for size := 1; size <= 300; size++ {
			wantPieces(t, pieces(text, size), right, asked)
			wantPieces(t, pieces(text, size, 0), right, asked)
			wantPieces(t, pieces(text, 1, size), right, asked)
			wantPieces(t, pieces(text, size, 64), right, asked)
		}
		wantPieces(t, pieces(text, len(text)), right, asked)
	}
}

// P19: each edge's text, cut into two and into three at each place.
func TestCuts(t *testing.T) {
	text := chance(1, 192)[0]
	right := sums(text)
	for n := range edges() {
		for i := range n + 1 {
			wantPieces(t, []string{text[:i], text[i:n]}, right, false)
			wantPieces(t, []string{text[:i], text[i:n]}, right, true)
		}
	}
	for i := range 131 {
		for j := i; j < 131; j++ {
			wantPieces(t, []string{text[:i], text[i:j], text[j:130]}, right, false)
		}
	}
}

// P19: pieces of any size, among them those of no byte and of many blocks.
func TestPiecesOfChance(t *testing.T) {
	r := rand.New(rand.NewSource(64))
	text := chance(1, 3000)[0]
	right := sums(text)
	for range 300 {
		lengths := make([]int, 40)
		for i := range lengths {
			lengths[i] = r.Intn(1 << r.Intn(10))
		}
		lengths[0] = 1
		wantPieces(t, pieces(text, lengths...), right, true)
		wantPieces(t, pieces(text, lengths...), right, false)
	}
}

// P19: nothing written, and "" written, once, often, and between others.
func TestNothingWritten(t *testing.T) {
	none := unhex(t, "e3b0c442 98fc1c14 9afbf4c8 996fb924 27ae41e4 649b934c a495991b 7852b855")
	want(t, "New's Sum", New().Sum(), none, "")
	h := New()
	for range 100 {
		h.Write("")
		want(t, "Sum", h.Sum(), none, "")
	}
	all := ""
	for _, piece := range []string{"a", "", "", "bc", "", strings.Repeat("d", 61), "", "", strings.Repeat("e", 64), ""} {
		h.Write(piece)
		all += piece
		want(t, "Sum", h.Sum(), said(all), all)
	}
}

// P19: Sum changes nothing, however often it is asked for.
func TestSumTwice(t *testing.T) {
	most := chance(1, 192)[0]
	for n := range edges() {
		h, other := New(), New()
		h.Write(most[:n])
		other.Write(most[:n])
		for range 5 {
			want(t, "Sum", h.Sum(), said(most[:n]), most[:n])
		}
		h.Write("more")
		other.Write("more")
		want(t, "Sum behind some Sums", h.Sum(), said(most[:n]+"more"), most[:n]+"more")
		if *h != *other {
			t.Errorf("%v, not %v", *h, *other)
		}
	}
}

// P19: a Hash goes on from what it had when Sum was asked for, at each length.
func TestSumBetween(t *testing.T) {
	text := chance(1, 400)[0]
	right := sums(text)
	h := New()
	for n := range len(text) {
		want(t, "Sum", h.Sum(), right[n], text[:n])
		h.Write(text[n : n+1])
	}
	want(t, "Sum", h.Sum(), right[400], text)
}

// P19: of Hashes that are written to by turns none has what another one has.
func TestByTurns(t *testing.T) {
	texts := chance(6, 500)
	hashes := make([]*Hash, len(texts))
	for i := range hashes {
		hashes[i] = New()
	}
	for at := range 500 {
		for i, h := range hashes {
			// Each of them is elsewhere in its text, and in its block.
			if at%(i+1) == 0 {
				h.Write(texts[i][at:min(at+i+1, 500)])
			}
		}
		for i, h := range hashes {
			got := texts[i][:min(500, (at/(i+1)+1)*(i+1))]
			if at%7 == 0 || at > 490 {
				want(t, "Sum by turns", h.Sum(), said(got), got)
			}
		}
	}
	want(t, "New's Sum", New().Sum(), said(""), "")
}

// P19 and P2: what is kept hangs on the text alone, not on its pieces, and not
// on whether Sum was asked for; of what was taken in nothing is left.
func TestSameTextSameHash(t *testing.T) {
	most := chance(1, 200)[0]
	for n := range len(most) {
		whole := New()
		whole.Write(most[:n])
		want(t, "what is left", string(whole.rest[:]), most[n-n%64:n]+strings.Repeat("\x00", 64-n%64), most[:n])
		for _, size := range []int{1, 2, 7, 63, 64, 65} {
			h := New()
			for _, piece := range pieces(most[:n], size) {
				h.Write(piece)
				h.Sum()
			}
			if *h != *whole {
				t.Errorf("%d bytes by %d: %v, not %v", n, size, *h, *whole)
			}
		}
	}
}

// shares says whether two texts have a byte of memory in common.
func shares(a, b string) bool {
	if len(a) == 0 || len(b) == 0 {
		return false
	}
	p, q := uintptr(unsafe.Pointer(unsafe.StringData(a))), uintptr(unsafe.Pointer(unsafe.StringData(b)))
	return p < q+uintptr(len(b)) && q < p+uintptr(len(a))
}

// lent answers a text that lies in those bytes, and changes as they do.
func lent(b []byte) string { return unsafe.String(unsafe.SliceData(b), len(b)) }

// P2: what is handed in stays, the room behind it too, and no answer lies in it.
func TestNothingShared(t *testing.T) {
	for n := range 300 {
		room := chance(1, n)[0] + "room behind"
		handed := []byte(room)
		whole := lent(handed)
		h := New()
		h.Write(whole[:n])
		for _, answer := range []string{Sum(whole[:n]), h.Sum(), Sum(whole[n:]), Sum(whole)} {
			if shares(answer, whole) {
				t.Errorf("an answer to a text of %d bytes lies in what was handed in", n)
			}
		}
		if string(handed) != room {
			t.Errorf("%x became %x", room, handed)
		}
	}
}

// P2: a Hash has what its text was, also where those bytes change later on.
func TestWhatWasWrittenStays(t *testing.T) {
	for n := range 300 {
		text := chance(1, n)[0]
		handed := []byte(text)
		h := New()
		h.Write(lent(handed))
		clear(handed)
		want(t, "Sum", h.Sum(), said(text), text)
		copy(handed, strings.Repeat("x", n))
		h.Write("more")
		want(t, "Sum", h.Sum(), said(text+"more"), text+"more")
	}
}

// P2: a Hash that lives on keeps no text alive, also where not all of it was
// taken in.
func TestNotKept(t *testing.T) {
	var hashes []*Hash
	var texts []weak.Pointer[byte]
	for _, n := range []int{1 << 20, 1<<20 + 1, 1<<20 + 63} {
		handed := make([]byte, n)
		h := New()
		h.Write("ahead")
		h.Write(lent(handed))
		h.Sum()
		hashes = append(hashes, h)
		texts = append(texts, weak.Make(&handed[0]))
	}
	runtime.GC()
	for i, p := range texts {
		if p.Value() != nil {
			t.Errorf("text %d is kept", i)
		}
	}
	runtime.KeepAlive(hashes)
}

// plain says whether values of a type are all there is of them: nothing in them
// leads elsewhere, and they have no more room than written out.
func plain(of reflect.Type) bool {
	switch of.Kind() {
	case reflect.Struct:
		for i := range of.NumField() {
			if !plain(of.Field(i).Type) {
				return false
			}
		}
		return true
	case reflect.Array:
		return plain(of.Elem())
	}
	return of.Kind() >= reflect.Bool && of.Kind() <= reflect.Float64
}

// P2: a Hash is no greater than a block, a digest, and how many bytes there
// were, whatever was written to it.
func TestHashIsSmall(t *testing.T) {
	of := reflect.TypeFor[Hash]()
	if !plain(of) || of.Size() > 64+32+8 {
		t.Errorf("%s, of %d bytes", of, of.Size())
	}
}

// P2: no two answers lie in the same memory, and what was answered stays,
// whatever comes behind it.
func TestAnswersApart(t *testing.T) {
	h := New()
	answers := []string{Sum(""), Sum(""), Sum("abc"), Sum("abc"), h.Sum(), h.Sum()}
	for _, text := range chance(5, 100) {
		h.Write(text)
		answers = append(answers, h.Sum(), h.Sum(), Sum(text))
	}
	for i, s := range answers {
		for _, other := range answers[i+1:] {
			if shares(s, other) {
				t.Fatalf("two answers share %x", s)
			}
		}
	}
	first := strings.Join(answers, "")
	h.Write(strings.Repeat("x", 1000))
	h.Sum()
	Sum(strings.Repeat("x", 1000))
	if strings.Join(answers, "") != first {
		t.Error("answers changed")
	}
}

// P2: nothing is kept but in a Hash: the same call answers the same, whatever
// came between, and at the same time as others.
func TestAnswersStay(t *testing.T) {
	text := chance(1, 150)[0]
	right := said(text)
	old := New()
	old.Write(text)
	var group sync.WaitGroup
	for _, other := range append(chance(40, 130), "", "short") {
		group.Go(func() {
			h := New()
			for _, piece := range pieces(text, 7) {
				h.Write(piece)
				Sum(other)
				New().Write(other)
			}
			want(t, "Sum among others", Sum(text), right, text)
			want(t, "a Hash's Sum among others", h.Sum(), right, text)
		})
	}
	group.Wait()
	want(t, "an old Hash's Sum", old.Sum(), right, text)
}

// P1: also a Hash that New didn't make answers, whatever it answers.
func TestHashOfNobody(t *testing.T) {
	var h Hash
	h.Sum()
	for n := range 130 {
		h.Write(strings.Repeat("x", n))
		if len(h.Sum()) != 32 {
			t.Error(n)
		}
	}
}

// P1, P18 and P19 for whatever comes: the cuts are the lengths of the pieces.
func FuzzAnything(f *testing.F) {
	for n := range edges() {
		f.Add(chance(1, n)[0], []byte{1})
		f.Add(chance(1, n)[0], []byte{64, 0, 3})
		f.Add(strings.Repeat("\x00", n), []byte{})
	}
	f.Add("é", []byte("é"))
	f.Fuzz(func(t *testing.T, text string, cuts []byte) {
		wantSaid(t, text)
		h := New()
		at := 0
		for _, cut := range cuts {
			n := min(int(cut), len(text)-at)
			h.Write(text[at : at+n])
			at += n
			want(t, "Sum in between", h.Sum(), libraryOf(text[:at]), text[:at])
		}
		h.Write(text[at:])
		want(t, "Sum at the end", h.Sum(), libraryOf(text), text)
	})
}

func BenchmarkSum(b *testing.B) {
	text := chance(1, 1<<16)[0]
	b.SetBytes(int64(len(text)))
	for b.Loop() {
		Sum(text)
	}
}
