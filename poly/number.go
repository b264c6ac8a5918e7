package poly

const (
	limbs    = 5
	limbBits = 26
	limbMask = 1<<limbBits - 1
	over     = 5 // what 2^130 leaves
)

// number has its lowest limb first. A limb has 26 bits, so that the fifth one
// ends where 2^130 begins, and that sums of products of limbs are no more than
// a uint64 holds. But where it is said otherwise no limb has more bits.
type number [limbs]uint64

// read takes a text of up to 16 bytes, the lowest first, or one of 17 whose
// last byte is below 4: so the number is below 2^130.
func read(s string) number {
	var n number
	for i := range len(s) {
		at := 8 * i
		n[at/limbBits] |= uint64(s[i]) << (at % limbBits)
	}
	// The highest bits of a byte may belong to the next limb.
	n, _ = n.carried()
	return n
}

// text answers the lowest 128 bits of n, which may be a sum.
func (n number) text() string {
	n, _ = n.carried()
	var out [size]byte
	// Bit by bit, since some bytes lie in two limbs.
	for i := range 8 * size {
		out[i/8] |= byte(n[i/limbBits]>>(i%limbBits)&1) << (i % 8)
	}
	return string(out[:])
}

// carried hands on to the next limb what a limb has beyond its 26 bits, and
// answers what goes beyond 2^130 beside it.
func (n number) carried() (number, uint64) {
	carry := uint64(0)
	for i, limb := range n {
		carry += limb
		n[i] = carry & limbMask
		carry >>= limbBits
	}
	return n, carry
}

// plus answers a number whose limbs may have 27 bits.
func (n number) plus(m number) number {
	for i, limb := range m {
		n[i] += limb
	}
	return n
}

// times takes a sum, too, as n. What it answers is below 2^130, and may be
// 2^130 - 5 or more.
func (n number) times(m number) number {
	// Up to five products of 53 bits each come together.
	var wide [2 * limbs]uint64
	for i, x := range n {
		for j, y := range m {
			wide[i+j] += x * y
		}
	}
	return folded(wide)
}

// folded lays the upper half of a product on its lower half.
func folded(wide [2 * limbs]uint64) number {
	var n number
	for i := range n {
		n[i] = wide[i] + over*wide[limbs+i]
	}
	n, beyond := n.carried()
	for beyond != 0 {
		n[0] += over * beyond
		n, beyond = n.carried()
	}
	return n
}

// lowered takes any number below 2^130, and answers what it leaves divided by
// 2^130 - 5.
func (n number) lowered() number {
	// n + 5 reaches 2^130 just if n reaches 2^130 - 5.
	more, beyond := n.plus(number{over}).carried()
	if beyond == 0 {
		return n
	}
	return more
}
