package blake

import (
	"math/big"
	"math/rand"
	"slices"
	"strings"
	"testing"
)

// saidOf answers the numbers of a state, or of v, as the chapter's words take
// them.
func saidOf(list []uint32) []uint64 {
	var out []uint64
	for _, n := range list {
		out = append(out, uint64(n))
	}
	return out
}

// blockOf takes 64 bytes.
func blockOf(s string) block { return block([]byte(s)) }

// padded answers s with bytes 0 behind it, up to 64.
func padded(s string) string { return s + strings.Repeat("\x00", 64-len(s)) }

// states are h at its edges, as it begins, and of chance.
func states() []state {
	var full state
	for i := range full {
		full[i] = 1<<32 - 1
	}
	list := []state{{}, full, iv, begun(0, 32), begun(32, 1), {1, 2, 3, 4, 5, 6, 7, 8}}
	r := rand.New(rand.NewSource(7693))
	for range 20 {
		var h state
		for i := range h {
			h[i] = r.Uint32()
		}
		list = append(list, h)
	}
	return list
}

// P20: IV, and what stands in tables, as the chapter says it.
func TestTables(t *testing.T) {
	if !slices.Equal(saidOf(iv[:]), saidIV) {
		t.Errorf("IV is %x, not %x", iv, saidIV)
	}
	if saidIV[0] != 0x6a09e667 || saidIV[7] != 0x5be0cd19 {
		t.Errorf("%x", saidIV)
	}
	for r, line := range lines {
		for i, n := range line {
			if int(n) != saidLine[17*r+1+i] {
				t.Errorf("line %d has %d at %d", r, n, i)
			}
		}
	}
	for i, p := range places {
		for j, n := range p {
			if int(n) != saidAt[4*i+j] {
				t.Errorf("place %d has %d at %d", i, n, j)
			}
		}
	}
}

// P20: each number h that a key's length and a size begin with.
func TestBegun(t *testing.T) {
	for keySize := range 33 {
		for size := 1; size <= 32; size++ {
			h := begun(keySize, size)
			if !slices.Equal(saidOf(h[:]), saidBegun(keySize, size)) {
				t.Errorf("begun(%d, %d) is %x", keySize, size, h)
			}
		}
	}
	for h0, sizes := range map[uint32][2]int{
		0x6b08e647: {0, 32}, 0x6b08e666: {0, 1}, 0x6b08c647: {32, 32}, 0x6b08e766: {1, 1}, 0x6b08c666: {32, 1},
	} {
		if h := begun(sizes[0], sizes[1]); h[0] != h0 || h[1] != 0xbb67ae85 {
			t.Errorf("begun of %v is %x", sizes, h)
		}
	}
}

// P20: RFC 7693, appendix B: v of abc, ahead of the first MIX and behind the
// last, and h then.
func TestStepsWrittenOut(t *testing.T) {
	b := blockOf(padded("abc"))
	m := b.numbers()
	if m[0] != 0x00636261 || m[1] != 0 || m[15] != 0 {
		t.Errorf("%x", m)
	}
	v := begun(0, 32).spread(3, true)
	if v != (wide{
		0x6b08e647, 0xbb67ae85, 0x3c6ef372, 0xa54ff53a, 0x510e527f, 0x9b05688c, 0x1f83d9ab, 0x5be0cd19,
		0x6a09e667, 0xbb67ae85, 0x3c6ef372, 0xa54ff53a, 0x510e527c, 0x9b05688c, 0xe07c2654, 0x5be0cd19,
	}) {
		t.Errorf("ahead: %x", v)
	}
	if v.mixed(m) != (wide{
		0xd9c994aa, 0xcfec3aa6, 0x700d0ab2, 0x2c38670e, 0xaf6a1f66, 0x1d023ef3, 0x1d9ec27d, 0x945357a5,
		0x3e9ffebd, 0x969fe811, 0xef485e21, 0xa632797a, 0xdeef082e, 0xaf3d80e1, 0x4e86829b, 0x4deafd3a,
	}) {
		t.Errorf("behind: %x", v.mixed(m))
	}
	right := state{0x8c5e8c50, 0xe2147c32, 0xa32ba7e1, 0x2f45eb4e, 0x208b4537, 0x293ad69e, 0x4c9b994d, 0x82596786}
	if h := begun(0, 32).behind(b, 3, true); h != right {
		t.Errorf("h is %x", h)
	}
}

// P20: MIX, where nothing is cut and where all is, and at chance.
func TestMix(t *testing.T) {
	a, b, c, d := mix(1, 0, 0, 0, 0, 0)
	if a != 0x00000011 || b != 0x20220202 || c != 0x11010100 || d != 0x11000100 {
		t.Errorf("%08x %08x %08x %08x", a, b, c, d)
	}
	edges := []uint32{0, 1, 1 << 7, 1 << 15, 1 << 16, 1 << 31, 1<<32 - 1, 0x55555555, 0xaaaaaaaa}
	r := rand.New(rand.NewSource(20))
	for range 20000 {
		in := make([]uint32, 6)
		for i := range in {
			in[i] = r.Uint32()
			if r.Intn(2) == 0 {
				in[i] = edges[r.Intn(len(edges))]
			}
		}
		right := saidOf(in)
		saidMix(right, 0, 1, 2, 3, right[4], right[5])
		a, b, c, d := mix(in[0], in[1], in[2], in[3], in[4], in[5])
		if got := saidOf([]uint32{a, b, c, d}); !slices.Equal(got, right[:4]) {
			t.Fatalf("mix of %x is %x, not %x", in, got, right[:4])
		}
	}
}

// counts are T: around the ends of its lowest 32 bits and of the next, and with
// another byte at each place.
func counts() []uint64 {
	list := []uint64{0, 1, 3, 63, 64, 65, 128, 1<<31 - 1, 1 << 31, 1<<63 + 1, 0x0123456789abcdef, 0xfedcba9876543210}
	for _, at := range []uint64{1 << 32, 1 << 33, 1 << 40, 1 << 48, 1 << 56, 0} {
		list = append(list, at-64, at-1, at, at+1, at+64)
	}
	return list
}

// P20: v ahead of the first MIX, and h behind a block, whatever h was, for each
// T, the block being the last one or not.
func TestStates(t *testing.T) {
	texts := append(chance(5, 64), strings.Repeat("\x00", 64), strings.Repeat("\xff", 64), up(64))
	for i, h := range states() {
		for j, count := range counts() {
			for _, last := range []bool{false, true} {
				from, big := saidOf(h[:]), new(big.Int).SetUint64(count)
				v := h.spread(count, last)
				if !slices.Equal(saidOf(v[:]), saidSpread(from, big, last)) {
					t.Errorf("%x at %d: v is %x", h, count, v)
				}
				text := texts[(i+j)%len(texts)]
				v = v.mixed(blockOf(text).numbers())
				if right := saidMixed(saidSpread(from, big, last), text, 10); !slices.Equal(saidOf(v[:]), right) {
					t.Errorf("%x at %d by %x: v is %x, not %x", h, count, text, v, right)
				}
				next := h.behind(blockOf(text), count, last)
				if right := saidBehind(from, text, big, last); !slices.Equal(saidOf(next[:]), right) {
					t.Errorf("behind %x at %d by %x stands %x, not %x", h, count, text, next, right)
				}
			}
		}
	}
}

// P20: where T's parts belong, written out.
func TestWhereTBelongs(t *testing.T) {
	v := state{}.spread(0x0123456789abcdef, false)
	if v[12] != 0x510e527f^0x89abcdef || v[13] != 0x9b05688c^0x01234567 || v[14] != 0x1f83d9ab || v[15] != 0x5be0cd19 {
		t.Errorf("%x", v)
	}
	v = state{}.spread(1<<32, true)
	if v[12] != 0x510e527f || v[13] != 0x9b05688d || v[14] != 0xe07c2654 || v[15] != 0x5be0cd19 {
		t.Errorf("%x", v)
	}
}

// P20: a text of some 2^32 bytes 0, so that T no longer goes into 32 bits. Its
// digests are those of CPython's hashlib, which took all of it in; here only its
// end is, from where h stood 128 bytes ahead of 2^32: what leads from there to
// those digests is right.
func TestTBeyond32Bits(t *testing.T) {
	h := state{0xba84110d, 0x5100ce67, 0xea6f90f9, 0xc30213f5, 0xcacd75e3, 0xfc088df6, 0x82a60d17, 0x8496a967}
	h = h.behind(block{}, 1<<32-64, false)
	for _, c := range []struct {
		count uint64
		right string
	}{
		{1<<32 - 1, "5052d898d9fa18a8e256b6944071ae334835abbfa6a76a856df48f7c86a44d4b"},
		{1 << 32, "2a8e26830310da3ef7f7032b7b1af11b989aba44a3713a22f539f69bd2ce4a87"},
	} {
		want(t, "what ends by 2^32", h.behind(block{}, c.count, true).text(), unhex(t, c.right))
	}
	h = h.behind(block{}, 1<<32, false)
	want(t, "what ends at 2^32 + 64", h.behind(block{}, 1<<32+64, true).text(),
		unhex(t, "c059f3fa773f71f7a2a23e3cda235ed2de302786238833ff4372d236e2fdac3b"))
	h = h.behind(block{}, 1<<32+64, false)
	want(t, "what ends at 2^32 + 100", h.behind(block{}, 1<<32+100, true).text(),
		unhex(t, "1f45aea82453d60dba7a341c69e458ca28c3d8e834b28068b073e4d6157a66f0"))
}

// P20: blocks as they are cut, and what is left.
func TestCut(t *testing.T) {
	text := up(200)
	for n := range len(text) + 1 {
		b, rest := cut(text[:n])
		want(t, "a block", string(b[:]), padded(text[:min(n, 64)]))
		want(t, "what is left", rest, text[min(n, 64):n])
	}
}
