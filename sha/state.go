package sha

import "math/bits"

const (
	numbers    = 8  // numbers of a state
	numberSize = 4  // bytes of a number
	times      = 64 // times that a state is stirred by a block
)

// state is H, or what a to h are while a block is taken in.
type state [numbers]uint32

// roots has K: of the cube roots of the first primes what is behind the point.
var roots = [times]uint32{
	0x428a2f98, 0x71374491, 0xb5c0fbcf, 0xe9b5dba5, 0x3956c25b, 0x59f111f1, 0x923f82a4, 0xab1c5ed5,
	0xd807aa98, 0x12835b01, 0x243185be, 0x550c7dc3, 0x72be5d74, 0x80deb1fe, 0x9bdc06a7, 0xc19bf174,
	0xe49b69c1, 0xefbe4786, 0x0fc19dc6, 0x240ca1cc, 0x2de92c6f, 0x4a7484aa, 0x5cb0a9dc, 0x76f988da,
	0x983e5152, 0xa831c66d, 0xb00327c8, 0xbf597fc7, 0xc6e00bf3, 0xd5a79147, 0x06ca6351, 0x14292967,
	0x27b70a85, 0x2e1b2138, 0x4d2c6dfc, 0x53380d13, 0x650a7354, 0x766a0abb, 0x81c2c92e, 0x92722c85,
	0xa2bfe8a1, 0xa81a664b, 0xc24b8b70, 0xc76c51a3, 0xd192e819, 0xd6990624, 0xf40e3585, 0x106aa070,
	0x19a4c116, 0x1e376c08, 0x2748774c, 0x34b0bcb5, 0x391c0cb3, 0x4ed8aa4a, 0x5b9cca4f, 0x682e6ff3,
	0x748f82ee, 0x78a5636f, 0x84c87814, 0x8cc70208, 0x90befffa, 0xa4506ceb, 0xbef9a3f7, 0xc67178f2,
}

// begun answers H ahead of the first block.
func begun() state {
	return state{
		0x6a09e667, 0xbb67ae85, 0x3c6ef372, 0xa54ff53a,
		0x510e527f, 0x9b05688c, 0x1f83d9ab, 0x5be0cd19,
	}
}

// taken answers H behind that block.
func (s state) taken(b block) state {
	w := spread(b)
	stirred := s
	for t, n := range w {
		stirred.stir(roots[t] + n)
	}
	for i, n := range stirred {
		s[i] += n
	}
	return s
}

// spread answers the numbers W that a block becomes.
func spread(b block) [times]uint32 {
	var w [times]uint32
	ahead := blockSize / numberSize
	for t := range ahead {
		w[t] = number(b[numberSize*t:])
	}
	for t := ahead; t < times; t++ {
		n, m := w[t-15], w[t-2]
		w[t] = w[t-16] + w[t-7] +
			(turned(n, 7) ^ turned(n, 18) ^ n>>3) +
			(turned(m, 17) ^ turned(m, 19) ^ m>>10)
	}
	return w
}

// number takes four bytes, the highest first.
func number(s []byte) uint32 {
	return uint32(s[0])<<24 | uint32(s[1])<<16 | uint32(s[2])<<8 | uint32(s[3])
}

// turned answers n with its bits moved down, those that go out coming in at the
// top.
func turned(n uint32, down int) uint32 { return bits.RotateLeft32(n, -down) }

// stir does what is done sixty-four times, each time with another sum of K and
// W.
func (s *state) stir(sum uint32) {
	a, b, c := s[0], s[1], s[2]
	e, f, g := s[4], s[5], s[6]
	t1 := s[7] + (turned(e, 6) ^ turned(e, 11) ^ turned(e, 25)) + (e&f ^ ^e&g) + sum
	t2 := (turned(a, 2) ^ turned(a, 13) ^ turned(a, 22)) + (a&b | a&c | b&c)
	// Each number goes where the next one was; only two of them are others then.
	copy(s[1:], s[:numbers-1])
	s[0] = t1 + t2
	s[4] += t1
}

// text answers the numbers in four bytes each, the highest first.
func (s state) text() string {
	var list []byte
	for _, n := range s {
		list = put(list, uint64(n), numberSize)
	}
	return string(list)
}
