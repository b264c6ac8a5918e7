package aes

import "souterrain/galois"

// tables hold what galois says of each byte, so that it is asked once a
// cipher, and not once a byte of each block.
type tables struct {
	sub, back, twice [256]byte
}

// cipher is what does not hang on the block.
type cipher struct {
	tables
	keys []square // what a block is xored with, ahead of all and each time
}

// square is a block: byte r + 4 c stands in row r of column c.
type square [size]byte

// newCipher takes a key.
func newCipher(key string) *cipher {
	c := &cipher{tables: newTables()}
	for words := expanded(key); len(words) > 0; words = words[size:] {
		c.keys = append(c.keys, square(words))
	}
	return c
}

func newTables() tables {
	var t tables
	for i := range t.sub {
		a := byte(i)
		s := galois.Sub(a)
		t.sub[a], t.back[s] = s, a
		t.twice[a] = galois.Mul(2, a)
	}
	return t
}

// there is the way of Encrypt.
func (c *cipher) there(b square) square {
	last := len(c.keys) - 1
	b = b.xored(c.keys[0])
	for _, key := range c.keys[1:last] {
		b = c.mixed(b.read(&c.sub).moved(1), 1).xored(key)
	}
	return b.read(&c.sub).moved(1).xored(c.keys[last])
}

// home is the way of Decrypt: the other one's steps undone, the last one first.
// To move rows four times, or to mix columns four times, changes nothing: so
// three times more undo one.
func (c *cipher) home(b square) square {
	last := len(c.keys) - 1
	b = b.xored(c.keys[last]).moved(3).read(&c.back)
	for i := last - 1; i > 0; i-- {
		b = c.mixed(b.xored(c.keys[i]), 3).moved(3).read(&c.back)
	}
	return b.xored(c.keys[0])
}

func (b square) xored(key square) square {
	for i, k := range key {
		b[i] ^= k
	}
	return b
}

// read answers what a table says of each byte.
func (b square) read(table *[256]byte) square {
	for i, a := range b {
		b[i] = table[a]
	}
	return b
}

// moved answers b with each row r moved by r columns to the front, that many
// times.
func (b square) moved(times int) square {
	var out square
	for i := range out {
		out[i] = b[(i+wide*times*(i%wide))%size]
	}
	return out
}

// mixed answers b with each column mixed that many times.
func (t *tables) mixed(b square, times int) square {
	for range times {
		for c := 0; c < size; c += wide {
			w := t.stirred(word(b[c:]))
			copy(b[c:], w[:])
		}
	}
	return b
}

func (t *tables) stirred(a word) word {
	var out word
	for i := range a {
		// 3 times a byte is twice it, xored with it.
		next := a[(i+1)%wide]
		out[i] = t.twice[a[i]] ^ t.twice[next] ^ next ^ a[(i+2)%wide] ^ a[(i+3)%wide]
	}
	return out
}
