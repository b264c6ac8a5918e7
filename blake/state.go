package blake

import "math/bits"

const (
	numbers      = 8 // numbers of a state
	numberSize   = 4 // bytes of a number
	blockNumbers = blockSize / numberSize
	sequential   = 16842752 // one block behind the other: no tree of digests
)

// state is h.
type state [numbers]uint32

// iv is H of chapter 11.
var iv = state{
	0x6a09e667, 0xbb67ae85, 0x3c6ef372, 0xa54ff53a,
	0x510e527f, 0x9b05688c, 0x1f83d9ab, 0x5be0cd19,
}

// lines says, ten times, which of a block's numbers are mixed in, two by two.
var lines = [10][blockNumbers]uint8{
	{0, 1, 2, 3, 4, 5, 6, 7, 8, 9, 10, 11, 12, 13, 14, 15},
	{14, 10, 4, 8, 9, 15, 13, 6, 1, 12, 0, 2, 11, 7, 5, 3},
	{11, 8, 12, 0, 5, 2, 15, 13, 10, 14, 3, 6, 7, 1, 9, 4},
	{7, 9, 3, 1, 13, 12, 11, 14, 2, 6, 5, 10, 4, 0, 15, 8},
	{9, 0, 5, 7, 2, 4, 10, 15, 14, 1, 11, 12, 6, 8, 3, 13},
	{2, 12, 6, 10, 0, 11, 8, 3, 4, 13, 7, 5, 15, 14, 1, 9},
	{12, 5, 1, 15, 14, 13, 4, 10, 0, 7, 6, 3, 9, 2, 8, 11},
	{13, 11, 7, 14, 12, 1, 3, 9, 5, 0, 15, 4, 8, 6, 2, 10},
	{6, 15, 14, 9, 11, 3, 0, 8, 12, 2, 13, 7, 1, 4, 10, 5},
	{10, 2, 8, 4, 7, 6, 1, 5, 15, 11, 9, 14, 3, 12, 13, 0},
}

// places says which four numbers are mixed, eight times a line.
var places = [8][4]uint8{
	{0, 4, 8, 12}, {1, 5, 9, 13}, {2, 6, 10, 14}, {3, 7, 11, 15},
	{0, 5, 10, 15}, {1, 6, 11, 12}, {2, 7, 8, 13}, {3, 4, 9, 14},
}

// begun answers h ahead of the first block. What it is made of keeps digests of
// other sizes, or by keys of other lengths, apart.
func begun(keySize, size int) state {
	h := iv
	h[0] ^= sequential ^ uint32(256*keySize) ^ uint32(size)
	return h
}

// behind answers h behind that block, up to whose end there are count BYTES.
func (h state) behind(b block, count uint64, last bool) state {
	v := h.spread(count, last).mixed(b.numbers())
	for i := range h {
		h[i] ^= v[i] ^ v[numbers+i]
	}
	return h
}

// wide is v.
type wide [2 * numbers]uint32

// spread answers v ahead of the first MIX.
func (h state) spread(count uint64, last bool) wide {
	var v wide
	for i, n := range h {
		v[i], v[numbers+i] = n, iv[i]
	}
	v[12] ^= uint32(count)
	v[13] ^= uint32(count >> 32)
	if last {
		v[14] = ^v[14]
	}
	return v
}

// numbers answers m.
func (b block) numbers() [blockNumbers]uint32 {
	var m [blockNumbers]uint32
	for i, n := range b {
		m[i/numberSize] |= uint32(n) << (8 * (i % numberSize))
	}
	return m
}

// mixed answers v behind the last MIX.
func (v wide) mixed(m [blockNumbers]uint32) wide {
	for _, line := range lines {
		for i, p := range places {
			v[p[0]], v[p[1]], v[p[2]], v[p[3]] = mix(v[p[0]], v[p[1]], v[p[2]], v[p[3]],
				m[line[2*i]], m[line[2*i+1]])
		}
	}
	return v
}

// mix answers what MIX makes of four numbers, by two of a block's.
func mix(a, b, c, d, x, y uint32) (uint32, uint32, uint32, uint32) {
	a += b + x
	d = turned(d^a, 16)
	c += d
	b = turned(b^c, 12)
	a += b + y
	d = turned(d^a, 8)
	c += d
	b = turned(b^c, 7)
	return a, b, c, d
}

// turned answers n with its bits moved down, those that go out coming in at the
// top.
func turned(n uint32, down int) uint32 { return bits.RotateLeft32(n, -down) }

// text answers the numbers in four bytes each, the lowest first.
func (h state) text() string {
	var list []byte
	for _, n := range h {
		list = append(list, byte(n), byte(n>>8), byte(n>>16), byte(n>>24))
	}
	return string(list)
}
