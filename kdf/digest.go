package kdf

const (
	digestSize = 32
	blockSize  = 64
	inner      = 54
	outer      = 92
)

// digest makes digestSize bytes of a text.
type digest func(s string) string

// block is K: a key in as many bytes as both digests take in at once.
type block [blockSize]byte

// mac answers HMAC of s by key.
func (sum digest) mac(key, s string) string {
	k := sum.block(key)
	return sum(k.xored(outer) + sum(k.xored(inner)+s))
}

// block answers the key, or its digest where it is too long, and bytes 0.
func (sum digest) block(key string) block {
	if len(key) > blockSize {
		key = sum(key)
	}
	var k block
	copy(k[:], key)
	return k
}

// xored answers k with each byte xored with x.
func (k block) xored(x byte) string {
	for i := range k {
		k[i] ^= x
	}
	return string(k[:])
}

// keys answers n keys, each of them but the first one made of the one ahead.
func (sum digest) keys(p string, n int) []string {
	list := make([]string, n)
	ahead := ""
	for i := range list {
		ahead = sum.mac(p, ahead+string([]byte{byte(i + 1)}))
		list[i] = ahead
	}
	return list
}
