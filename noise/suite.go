package noise

import (
	"souterrain/api"
	"souterrain/gcm"
	"souterrain/kdf"
	"souterrain/seal"
)

const (
	nonceSize = 12
	ahead     = 4 // bytes 0 ahead of the number in a nonce
)

// suite is what differs from one suite to the other.
type suite interface {
	name() string
	sum(text string) string
	derive(key, text string, n int) []string
	nonce(n uint64) string
	seal(key, nonce, more, text string) (string, api.Errno)
	open(key, nonce, more, sealed string) (string, api.Errno)
}

// meant answers the suite of that number.
func meant(number int) (suite, api.Errno) {
	switch number {
	case api.Blake:
		return lower{digests(number)}, api.OK
	case api.Sha:
		return higher{digests(number)}, api.OK
	}
	return nil, api.ErrArg
}

// digests are those of the suite of that number, which is right, as both digests'
// sizes and counts are: so nothing can be wrong with them.
type digests int

func (d digests) sum(text string) string {
	sum, _ := kdf.Sum(int(d), text)
	return sum
}

func (d digests) derive(key, text string, n int) []string {
	keys, _ := kdf.Derive(int(d), key, text, n)
	return keys
}

// lower is the suite Blake.
type lower struct{ digests }

func (lower) name() string { return "souterrain 1" }

func (lower) nonce(n uint64) string {
	var b [nonceSize]byte
	for i := ahead; i < nonceSize; i++ {
		b[i] = byte(n)
		n >>= 8
	}
	return string(b[:])
}

func (lower) seal(key, nonce, more, text string) (string, api.Errno) {
	return seal.Seal(key, nonce, more, text)
}

func (lower) open(key, nonce, more, sealed string) (string, api.Errno) {
	return seal.Open(key, nonce, more, sealed)
}

// higher is the suite Sha.
type higher struct{ digests }

func (higher) name() string { return "souterrain 2" }

func (higher) nonce(n uint64) string {
	var b [nonceSize]byte
	for i := nonceSize - 1; i >= ahead; i-- {
		b[i] = byte(n)
		n >>= 8
	}
	return string(b[:])
}

func (higher) seal(key, nonce, more, text string) (string, api.Errno) {
	return gcm.Seal(key, nonce, more, text)
}

func (higher) open(key, nonce, more, sealed string) (string, api.Errno) {
	return gcm.Open(key, nonce, more, sealed)
}
