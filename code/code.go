// Package code: bytes as signs: see doc/01-code.md.
package code

import "souterrain/api"

const hexSigns = "0123456789abcdef"

const baseSigns = "ABCDEFGHIJKLMNOPQRSTUVWXYZabcdefghijklmnopqrstuvwxyz0123456789+/"

// Hex tells each byte of s by two signs, the higher half first.
func Hex(s string) string {
	out := make([]byte, 0, 2*len(s))
	for i := 0; i < len(s); i++ {
		out = append(out, hexSigns[s[i]>>4], hexSigns[s[i]&15])
	}
	return string(out)
}

// Unhex answers the text that s is Hex of, or ErrSyntax if there is none.
func Unhex(s string) (string, api.Errno) {
	if len(s)%2 != 0 {
		return "", api.ErrSyntax
	}
	out := make([]byte, 0, len(s)/2)
	for i := 0; i < len(s); i += 2 {
		high, okHigh := hexValue(s[i])
		low, okLow := hexValue(s[i+1])
		if !okHigh || !okLow {
			return "", api.ErrSyntax
		}
		out = append(out, high<<4|low)
	}
	return string(out), api.OK
}

// hexValue takes no capital letters: Hex never writes them.
func hexValue(c byte) (byte, bool) {
	switch {
	case '0' <= c && c <= '9':
		return c - '0', true
	case 'a' <= c && c <= 'f':
		return c - 'a' + 10, true
	}
	return 0, false
}

// Base tells each three bytes of s by four signs; `=` stands for each byte
// that the last three lack.
func Base(s string) string {
	out := make([]byte, 0, (len(s)+2)/3*4)
	whole := len(s) - len(s)%3
	for i := 0; i < whole; i += 3 {
		a, b, c, d := fourSigns(s[i], s[i+1], s[i+2])
		out = append(out, a, b, c, d)
	}
	switch len(s) - whole {
	case 1:
		a, b, _, _ := fourSigns(s[whole], 0, 0)
		out = append(out, a, b, '=', '=')
	case 2:
		a, b, c, _ := fourSigns(s[whole], s[whole+1], 0)
		out = append(out, a, b, c, '=')
	}
	return string(out)
}

func fourSigns(x, y, z byte) (byte, byte, byte, byte) {
	return baseSigns[x>>2], baseSigns[(x&3)<<4|y>>4], baseSigns[(y&15)<<2|z>>6], baseSigns[z&63]
}

// Unbase answers the text that s is Base of, or ErrSyntax if there is none.
func Unbase(s string) (string, api.Errno) {
	if len(s)%4 != 0 {
		return "", api.ErrSyntax
	}
	signs := unpadded(s)
	out := make([]byte, 0, len(s)/4*3)
	held, count := uint32(0), 0
	for i := 0; i < len(signs); i++ {
		v, ok := baseValue(signs[i])
		if !ok {
			return "", api.ErrSyntax
		}
		held, count = held<<6|uint32(v), count+6
		if count >= 8 {
			count -= 8
			out = append(out, byte(held>>count))
			held &= 1<<count - 1
		}
	}
	// Base fills the bits that lack with 0, so any other filling is nobody's.
	if held != 0 {
		return "", api.ErrSyntax
	}
	return string(out), api.OK
}

// unpadded takes at most two `=` away: a third one is left standing, and is
// then refused as no sign of Base's.
func unpadded(s string) string {
	n := len(s)
	for n > 0 && n > len(s)-2 && s[n-1] == '=' {
		n--
	}
	return s[:n]
}

func baseValue(c byte) (byte, bool) {
	switch {
	case 'A' <= c && c <= 'Z':
		return c - 'A', true
	case 'a' <= c && c <= 'z':
		return c - 'a' + 26, true
	case '0' <= c && c <= '9':
		return c - '0' + 52, true
	case c == '+':
		return 62, true
	case c == '/':
		return 63, true
	}
	return 0, false
}
