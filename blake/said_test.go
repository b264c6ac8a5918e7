package blake

import (
	"math/big"
	"strconv"
	"strings"
)

// saidIV is H in P18's words: not numbers written out.
var saidIV = func() []uint64 {
	var list []uint64
	for _, prime := range []int64{2, 3, 5, 7, 11, 13, 17, 19} {
		// The root of p times 2^64 is 2^32 times that of p.
		p := new(big.Int).Lsh(big.NewInt(prime), 64)
		list = append(list, saidCut(p.Sqrt(p).Uint64()))
	}
	return list
}()

// saidTable is the chapter's, as it stands there.
const saidTable = `
| 0 | 0 1 2 3 4 5 6 7 8 9 10 11 12 13 14 15 |
| 1 | 14 10 4 8 9 15 13 6 1 12 0 2 11 7 5 3 |
| 2 | 11 8 12 0 5 2 15 13 10 14 3 6 7 1 9 4 |
| 3 | 7 9 3 1 13 12 11 14 2 6 5 10 4 0 15 8 |
| 4 | 9 0 5 7 2 4 10 15 14 1 11 12 6 8 3 13 |
| 5 | 2 12 6 10 0 11 8 3 4 13 7 5 15 14 1 9 |
| 6 | 12 5 1 15 14 13 4 10 0 7 6 3 9 2 8 11 |
| 7 | 13 11 7 14 12 1 3 9 5 0 15 4 8 6 2 10 |
| 8 | 6 15 14 9 11 3 0 8 12 2 13 7 1 4 10 5 |
| 9 | 10 2 8 4 7 6 1 5 15 11 9 14 3 12 13 0 |
`

const saidPlaces = "(0, 4, 8, 12), (1, 5, 9, 13), (2, 6, 10, 14), (3, 7, 11, 15), " +
	"(0, 5, 10, 15), (1, 6, 11, 12), (2, 7, 8, 13), (3, 4, 9, 14)"

// saidNumbers answers the numbers that stand in a text, whatever is between
// them.
func saidNumbers(text string) []int {
	var list []int
	for _, word := range strings.FieldsFunc(text, func(r rune) bool { return r < '0' || r > '9' }) {
		n, err := strconv.Atoi(word)
		if err != nil {
			panic(err)
		}
		list = append(list, n)
	}
	return list
}

// saidTurned and saidCut take numbers of 64 bits, so that what has to be cut is
// cut in words.
func saidTurned(x uint64, n int) uint64 { return saidCut(x>>n + x<<(32-n)) }
func saidCut(x uint64) uint64           { return x % (1 << 32) }

func saidMix(v []uint64, a, b, c, d int, x, y uint64) {
	v[a] = saidCut(v[a] + v[b] + x)
	v[d] = saidTurned(v[d]^v[a], 16)
	v[c] = saidCut(v[c] + v[d])
	v[b] = saidTurned(v[b]^v[c], 12)
	v[a] = saidCut(v[a] + v[b] + y)
	v[d] = saidTurned(v[d]^v[a], 8)
	v[c] = saidCut(v[c] + v[d])
	v[b] = saidTurned(v[b]^v[c], 7)
}

var saidAt, saidLine = saidNumbers(saidPlaces), saidNumbers(saidTable)

// saidMixed answers v behind what is done ten times, or fewer times.
func saidMixed(from []uint64, block string, times int) []uint64 {
	v := append([]uint64{}, from...)
	var m []uint64
	for i := range 16 {
		b := block[4*i:]
		m = append(m, uint64(b[0])+256*uint64(b[1])+65536*uint64(b[2])+16777216*uint64(b[3]))
	}
	for r := range times {
		line := saidLine[17*r+1:]
		for i := range 8 {
			at := saidAt[4*i:]
			saidMix(v, at[0], at[1], at[2], at[3], m[line[2*i]], m[line[2*i+1]])
		}
	}
	return v
}

// saidSpread answers v ahead of the first MIX; count is T.
func saidSpread(h []uint64, count *big.Int, last bool) []uint64 {
	v := append(append([]uint64{}, h...), saidIV...)
	for i := range 32 {
		v[12] ^= uint64(count.Bit(i)) << i
		v[13] ^= uint64(count.Bit(32+i)) << i
		if last {
			v[14] ^= 1 << i
		}
	}
	return v
}

func saidBehind(h []uint64, block string, count *big.Int, last bool) []uint64 {
	v := saidMixed(saidSpread(h, count, last), block, 10)
	var out []uint64
	for i, n := range h {
		out = append(out, n^v[i]^v[i+8])
	}
	return out
}

func saidBegun(keySize, size int) []uint64 {
	h := append([]uint64{}, saidIV...)
	h[0] ^= 16842752
	h[0] ^= uint64(256 * keySize)
	h[0] ^= uint64(size)
	return h
}

// said is P20 in its own words.
func said(key, text string, size int) string {
	all := text
	if key != "" {
		all = key + strings.Repeat("\x00", 64-len(key)) + text
	}
	blocks := max(1, (len(all)+63)/64)
	padded := all + strings.Repeat("\x00", 64*blocks-len(all))
	h := saidBegun(len(key), size)
	for i := range blocks {
		end := min(64*(i+1), len(all))
		h = saidBehind(h, padded[64*i:64*(i+1)], big.NewInt(int64(end)), i == blocks-1)
	}
	var out []byte
	for _, n := range h {
		out = append(out, byte(n%256), byte(n/256%256), byte(n/65536%256), byte(n/16777216%256))
	}
	return string(out[:size])
}
