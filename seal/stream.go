package seal

import (
	"strings"

	"souterrain/api"
	"souterrain/chacha"
	"souterrain/poly"
)

// Block 0 is kept for the tag: so no byte of it hides a text.
const (
	tagBlock  = 0
	textBlock = 1
)

const (
	longSize = 24
	subSize  = 16 // bytes of a long nonce that go into the key
	intSize  = 8  // bytes of a length
)

// xored hides a text, or shows it again. All three are as long as they must be:
// so there is no error.
func xored(key, nonce, text string) string {
	out, _ := chacha.Xor(key, nonce, textBlock, text)
	return out
}

// tag takes a key and a nonce that are as long as they must be: so there is no
// error.
func tag(key, nonce, more, hidden string) string {
	block, _ := chacha.Block(key, nonce, tagBlock)
	sum, _ := poly.Tag(block[:keySize], tagged(more, hidden))
	return sum
}

// tagged answers what the tag is made of. The lengths tell bytes 0 that were
// there from those that fill up.
func tagged(more, hidden string) string {
	return filled(more) + filled(hidden) + told(len(more)) + told(len(hidden))
}

// filled answers s and bytes 0 up to a whole number of blocks.
func filled(s string) string {
	return s + strings.Repeat("\x00", (size-len(s)%size)%size)
}

// told answers n in eight bytes, the lowest first.
func told(n int) string {
	var out [intSize]byte
	for i := range out {
		out[i] = byte(n >> (8 * i))
	}
	return string(out[:])
}

// shortened answers the key and the nonce that stand for a key and a long
// nonce.
func shortened(key, nonce string) (string, string, api.Errno) {
	if len(key) != keySize || len(nonce) != longSize {
		return "", "", api.ErrArg
	}
	// Both are as long as they must be: so there is no error.
	sub, _ := chacha.Sub(key, nonce[:subSize])
	return sub, strings.Repeat("\x00", nonceSize-(longSize-subSize)) + nonce[subSize:], api.OK
}
