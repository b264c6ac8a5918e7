package ghash

const (
	size = 16         // bytes of a block
	half = 8          // bytes of each of its numbers
	rest = 0xe1 << 56 // what x^128 leaves, in the front: 1 + x + x^2 + x^7
)

// block is a polynomial: the highest bit of front is what stands at 1, the
// lowest bit of back what stands at x^127.
type block struct{ front, back uint64 }

// read takes the first 16 bytes of s; where there are fewer, bytes 0 stand
// behind them.
func read(s string) block {
	var b [size]byte
	copy(b[:], s)
	return block{number(b[:half]), number(b[half:])}
}

func number(list []byte) uint64 {
	var n uint64
	for _, b := range list {
		n = n<<8 | uint64(b)
	}
	return n
}

func (b block) text() string {
	var out [size]byte
	for i := range half {
		shift := 56 - 8*i
		out[i], out[half+i] = byte(b.front>>shift), byte(b.back>>shift)
	}
	return string(out[:])
}

func (b block) plus(c block) block { return block{b.front ^ c.front, b.back ^ c.back} }

func (b block) times(c block) block {
	var product block
	for _, n := range [2]uint64{b.front, b.back} {
		for range 64 {
			product = product.plus(c.only(n >> 63))
			c = c.timesX()
			n <<= 1
		}
	}
	return product
}

// only answers b if bit is 1, and 0 if it is 0.
func (b block) only(bit uint64) block { return block{b.front & whole(bit), b.back & whole(bit)} }

func (b block) timesX() block {
	return block{b.front>>1 ^ rest&whole(b.back&1), b.front<<63 | b.back>>1}
}

// whole answers 64 bits like the one that is handed in: so a product takes the
// same steps, whatever its blocks are.
func whole(bit uint64) uint64 { return -bit }
