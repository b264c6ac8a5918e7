package cookie

import (
	"strings"

	"souterrain/blake"
)

const (
	publicSize = 32
	secretSize = 32
	keySize    = 32
	markSize   = 16 // bytes of a cookie, too
	bothSize   = 2 * markSize
)

// What is mixed into a key says what it is for, so that no key is for both.
const (
	forMarks   = "mark----"
	forReplies = "cookie--"
)

func canMark(public, cookie string) bool {
	return len(public) == publicSize && (cookie == "" || len(cookie) == markSize)
}

// cut answers s without its last mark, and that mark.
func cut(s string) (string, string) {
	end := len(s) - markSize
	return s[:end], s[end:]
}

// key answers the key that goes with public.
func key(what, public string) string { return digest("", what+public, keySize) }

// proof answers the second mark of a text that has the first one behind it.
func proof(cookie, once string) string {
	if cookie == "" {
		return strings.Repeat("\x00", markSize)
	}
	return mark(cookie, once)
}

func mark(key, text string) string { return digest(key, text, markSize) }

// digest is for keys and sizes that there may be: so nothing can be wrong.
func digest(key, text string, size int) string {
	sum, _ := blake.Sum(key, text, size)
	return sum
}

// told answers n in so many bytes, the highest first.
func told(n, size int) string {
	b := make([]byte, size)
	for i := size - 1; i >= 0; i-- {
		b[i] = byte(n)
		n >>= 8
	}
	return string(b)
}
