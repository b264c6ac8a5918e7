package kdf

import (
	"crypto/hkdf"
	"crypto/hmac"
	"crypto/sha256"
	"hash"
	"strings"
	"testing"

	"souterrain/api"
	"souterrain/blake"
)

// saidSum is P21's Sum: P18's is asked of Go's own library, and P20's of package
// blake, whose digests its own tests hold against others.
func saidSum(suite int, s string) string {
	if suite == api.Sha {
		sum := sha256.Sum256([]byte(s))
		return string(sum[:])
	}
	sum, _ := blake.Sum("", s, 32)
	return sum
}

// saidXored answers K, each byte xored with x.
func saidXored(k string, x byte) string {
	var out []byte
	for _, b := range []byte(k) {
		// Without the operator: what is in just one of both.
		out = append(out, b&^x|x&^b)
	}
	return string(out)
}

// saidMac is P21's Mac in its own words.
func saidMac(suite int, key, s string) string {
	k := key
	if len(k) > 64 {
		k = saidSum(suite, key)
	}
	for len(k) < 64 {
		k += "\x00"
	}
	return saidSum(suite, saidXored(k, 92)+saidSum(suite, saidXored(k, 54)+s))
}

// saidKeys is P21's Derive in its own words: what three Macs by P are.
func saidKeys(suite int, key, s string) [3]string {
	p := saidMac(suite, key, s)
	one := saidMac(suite, p, "\x01")
	two := saidMac(suite, p, one+"\x02")
	three := saidMac(suite, p, two+"\x03")
	return [3]string{one, two, three}
}

// gathered is what is written, for Go's own library: it asks for a hash.
type gathered struct {
	suite int
	all   strings.Builder
}

func (g *gathered) Write(b []byte) (int, error) { return g.all.Write(b) }
func (g *gathered) Sum(ahead []byte) []byte {
	return append(ahead, saidSum(g.suite, g.all.String())...)
}
func (g *gathered) Reset()         { g.all.Reset() }
func (g *gathered) Size() int      { return 32 }
func (g *gathered) BlockSize() int { return 64 }

func hashOf(suite int) func() hash.Hash {
	if suite == api.Sha {
		return sha256.New
	}
	return func() hash.Hash { return &gathered{suite: suite} }
}

func libraryMac(suite int, key, s string) string {
	mac := hmac.New(hashOf(suite), []byte(key))
	mac.Write([]byte(s))
	return string(mac.Sum(nil))
}

// libraryKeys answers all three keys, one behind the other, as RFC 5869 makes
// them: its salt is key, its secret is s, and its info is empty.
func libraryKeys(t *testing.T, suite int, key, s string) string {
	t.Helper()
	all, err := hkdf.Key(hashOf(suite), []byte(s), []byte(key), "", 96)
	if err != nil {
		t.Fatal(err)
	}
	return string(all)
}
