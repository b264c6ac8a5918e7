package shake

import (
	"souterrain/api"
	"souterrain/curve"
)

const (
	keySize   = 32
	tagSize   = 16
	timeSize  = 12
	bestSize  = 1
	indexSize = 4
)

// Where the parts of both messages begin.
const (
	kindAt  = 0
	suiteAt = 1
	indexAt = 2
)

// Where those of a first one begin, and where it ends.
const (
	firstPoint = indexAt + indexSize
	firstA     = firstPoint + keySize
	firstB     = firstA + keySize + tagSize
	firstSize  = firstB + timeSize + bestSize + tagSize
)

// Where those of a second one begin, and where it ends.
const (
	toldAt      = indexAt + indexSize
	secondPoint = toldAt + indexSize
	secondC     = secondPoint + keySize
	secondSize  = secondC + bestSize + tagSize
)

// isFirst says what is wrong with first ahead of all keys.
func isFirst(first string) api.Errno {
	if e := sized(first, firstSize); e != api.OK {
		return e
	}
	if first[kindAt] != api.First || !isSuite(suite(first)) {
		return api.ErrForm
	}
	return api.OK
}

// isAnswer says what is wrong with second ahead of all keys, as an answer to what
// was begun.
func (b *Begun) isAnswer(second string) api.Errno {
	if e := sized(second, secondSize); e != api.OK {
		return e
	}
	if second[kindAt] != api.Second || suite(second) != b.by.suite || number(second[toldAt:]) != b.index {
		return api.ErrForm
	}
	return api.OK
}

func sized(text string, size int) api.Errno {
	if len(text) < size {
		return api.ErrShort
	}
	if len(text) > size {
		return api.ErrForm
	}
	return api.OK
}

func suite(message string) int { return int(message[suiteAt]) }

// isSuite says whether there is such a suite: the best one that somebody has is one
// of them, too.
func isSuite(n int) bool { return n == api.Blake || n == api.Sha }

func areKeys(list ...string) bool {
	for _, key := range list {
		if len(key) != keySize {
			return false
		}
	}
	return true
}

// public is for what is a key: so nothing can be wrong.
func public(own string) string {
	key, _ := curve.Public(own)
	return key
}

// head answers what stands ahead of all keys in a message.
func head(kind, suite int, indexes ...uint32) string {
	b := []byte{kindAt: byte(kind), suiteAt: byte(suite)}
	for _, n := range indexes {
		b = append(b, byte(n), byte(n>>8), byte(n>>16), byte(n>>24))
	}
	return string(b)
}

// number answers the index that text begins with.
func number(text string) uint32 {
	n := uint32(0)
	for i := indexSize - 1; i >= 0; i-- {
		n = n<<8 | uint32(text[i])
	}
	return n
}

func oneByte(n int) string { return string([]byte{byte(n)}) }
