package elem

const (
	limbs    = 8
	limbBits = 32
	size     = 32        // bytes of a number's text
	lastBits = 1<<31 - 1 // the bits of the last limb that lie below 2^255
)

// number has its lowest limb first. A limb has 32 bits, so that a product of
// two limbs and two more limbs are together no more than a uint64 holds. But
// where it is said otherwise a number is from 0 to P - 1.
type number [limbs]uint32

var prime = number{0xffffffed, 0xffffffff, 0xffffffff, 0xffffffff, 0xffffffff, 0xffffffff, 0xffffffff, 0x7fffffff}

var primeLessTwo = number{0xffffffeb, 0xffffffff, 0xffffffff, 0xffffffff, 0xffffffff, 0xffffffff, 0xffffffff, 0x7fffffff}

// read takes a text of 32 bytes.
func read(s string) number {
	var n number
	for i := range size {
		n[i/4] |= uint32(s[i]) << (i % 4 * 8)
	}
	return n.lowered()
}

func (n number) text() string {
	out := make([]byte, 0, size)
	for _, limb := range n {
		out = append(out, byte(limb), byte(limb>>8), byte(limb>>16), byte(limb>>24))
	}
	return string(out)
}

// lowered takes any number below 2^256.
func (n number) lowered() number {
	top := n[limbs-1] >> 31
	n[limbs-1] &= lastBits
	// 2^255 leaves 19.
	n, _ = n.raised(19 * top)
	// n is below 2^255 + 19 now, and n + 19 reaches 2^255 just if n reaches P.
	more, _ := n.raised(19)
	if more[limbs-1]>>31 == 0 {
		return n
	}
	more[limbs-1] &= lastBits
	return more
}

// raised adds x to any number below 2^256, and answers what goes beyond 2^256
// beside it.
func (n number) raised(x uint32) (number, uint32) {
	carry := uint64(x)
	for i, limb := range n {
		carry += uint64(limb)
		n[i] = uint32(carry)
		carry >>= limbBits
	}
	return n, uint32(carry)
}

func (n number) plus(m number) number {
	// Both are below 2^255, so nothing goes beyond 2^256.
	carry := uint64(0)
	for i, limb := range m {
		carry += uint64(n[i]) + uint64(limb)
		n[i] = uint32(carry)
		carry >>= limbBits
	}
	return n.lowered()
}

func (n number) minus(m number) number {
	// P is added, so that what is left is not below 0.
	carry := int64(0)
	for i, limb := range m {
		carry += int64(n[i]) + int64(prime[i]) - int64(limb)
		n[i] = uint32(carry)
		carry >>= limbBits
	}
	return n.lowered()
}

func (n number) times(m number) number {
	var wide [2 * limbs]uint32
	for i, x := range n {
		carry := uint64(0)
		for j, y := range m {
			carry += uint64(x)*uint64(y) + uint64(wide[i+j])
			wide[i+j] = uint32(carry)
			carry >>= limbBits
		}
		wide[i+limbs] = uint32(carry)
	}
	return folded(wide)
}

// folded lays the upper half of a product on its lower half.
func folded(wide [2 * limbs]uint32) number {
	var n number
	carry := uint64(0)
	for i := range n {
		// 2^256 leaves 38.
		carry += uint64(wide[i]) + 38*uint64(wide[limbs+i])
		n[i] = uint32(carry)
		carry >>= limbBits
	}
	// What goes beyond 2^256 is less than 39 at first, then less than 2, then 0.
	for beyond := uint32(carry); beyond != 0; {
		n, beyond = n.raised(38 * beyond)
	}
	return n.lowered()
}

// power takes m as it stands, not what it leaves divided by P.
func (n number) power(m number) number {
	out := number{1}
	for _, limb := range m {
		for i := range limbBits {
			if limb>>i&1 == 1 {
				out = out.times(n)
			}
			n = n.times(n)
		}
	}
	return out
}
