package chacha

const (
	numbers = 16 // numbers of a state
	size    = 4  // bytes of a number
	counter = 12 // where n stands
)

type state [numbers]uint32

// begun answers the numbers S; key and behind have 48 bytes together, which are
// all but the first four numbers.
func begun(key, behind string) state {
	s := state{1634760805, 857760878, 2036477234, 1797285236}
	text := key + behind
	for i := range len(text) / size {
		s[4+i] = number(text[size*i:])
	}
	return s
}

// number takes four bytes, the lowest first.
func number(s string) uint32 {
	return uint32(s[0]) | uint32(s[1])<<8 | uint32(s[2])<<16 | uint32(s[3])<<24
}

// told answers the numbers in four bytes each, the lowest first.
func told(list ...uint32) string {
	out := make([]byte, 0, size*len(list))
	for _, n := range list {
		out = append(out, byte(n), byte(n>>8), byte(n>>16), byte(n>>24))
	}
	return string(out)
}

// stirrer answers the function by which w is stirred, four of its numbers at a
// time: it keeps w, so that who stirs says only which ones.
func stirrer(w *state) func(a, b, c, d int) {
	return func(a, b, c, d int) {
		w[a], w[b], w[c], w[d] = Quarter(w[a], w[b], w[c], w[d])
	}
}

// stirred answers the numbers W that s becomes.
func (s state) stirred() state {
	stir := stirrer(&s)
	for range 10 {
		stir(0, 4, 8, 12)
		stir(1, 5, 9, 13)
		stir(2, 6, 10, 14)
		stir(3, 7, 11, 15)
		stir(0, 5, 10, 15)
		stir(1, 6, 11, 12)
		stir(2, 7, 8, 13)
		stir(3, 4, 9, 14)
	}
	return s
}

// block adds S to W: without it a block could be stirred back to the key.
func (s state) block() string {
	w := s.stirred()
	for i := range w {
		w[i] += s[i]
	}
	return told(w[:]...)
}
