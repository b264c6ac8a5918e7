package gcm

import (
	"strings"

	"souterrain/aes"
	"souterrain/ghash"
)

// masks are what a key and a nonce come to, which neither more nor text changes.
type masks struct {
	sum    string // the block of 0, encrypted: tags are summed by it
	first  string // BLOCK 1, which hides the sum
	stream string // BLOCK 2 and those behind it, which hide the text
}

// newMasks takes a key, a nonce, and how many bytes there are to hide. All of
// its blocks are encrypted at once, since a cipher takes longer to be made than
// to encrypt a block.
func newMasks(key, nonce string, length int) masks {
	var plain strings.Builder
	plain.Write(make([]byte, size))
	for n := range 1 + (length+size-1)/size {
		plain.WriteString(numbered(nonce, uint32(n+1)))
	}
	// key and plain are as long as they must be: so there is no error.
	blocks, _ := aes.EncryptAll(key, plain.String())
	return masks{blocks[:size], blocks[size : 2*size], blocks[2*size:]}
}

// numbered answers the block that is encrypted to BLOCK n.
func numbered(nonce string, n uint32) string {
	return nonce + string([]byte{byte(n >> 24), byte(n >> 16), byte(n >> 8), byte(n)})
}

func (m masks) tag(more, hidden string) string {
	// What tags are summed by has 16 bytes: so there is no error.
	sum, _ := ghash.Sum(m.sum, more, hidden)
	return xored(sum, m.first)
}

// xored takes a mask that is no shorter than text.
func xored(text, mask string) string {
	out := []byte(text)
	for i := range out {
		out[i] ^= mask[i]
	}
	return string(out)
}
