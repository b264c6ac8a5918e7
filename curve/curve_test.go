package curve

import (
	"crypto/ecdh"
	"encoding/hex"
	"math/big"
	"math/rand"
	"slices"
	"strings"
	"sync"
	"testing"
	"unsafe"

	"souterrain/api"
)

func unhex(t *testing.T, h string) string {
	t.Helper()
	b, err := hex.DecodeString(h)
	if err != nil || len(b) != 32 {
		t.Fatal(h)
	}
	return string(b)
}

// textOf takes a number below 2^256.
func textOf(n *big.Int) string {
	b := n.FillBytes(make([]byte, 32))
	slices.Reverse(b)
	return string(b)
}

func small(n int64) string { return textOf(big.NewInt(n)) }

// near answers the text of 2^bits + n.
func near(bits uint, n int64) string {
	x := new(big.Int).Lsh(big.NewInt(1), bits)
	return textOf(x.Add(x, big.NewInt(n)))
}

// marked answers u with its highest bit set.
func marked(u string) string {
	b := []byte(u)
	b[31] |= 0x80
	return string(b)
}

// flipped answers s with one bit changed.
func flipped(s string, bit int) string {
	b := []byte(s)
	b[bit/8] ^= 1 << (bit % 8)
	return string(b)
}

// noMultiples answers the numbers from 0 to P - 1 whose multiples, by a number
// that is 8 times another one, are 0.
func noMultiples(t *testing.T) []string {
	return []string{
		small(0), small(1), near(255, -20),
		unhex(t, "e0eb7a7c3b41b8ae1656e3faf19fc46ada098deb9c32b1fd866205165f49b800"),
		unhex(t, "5f9c95bca3508c24b1d0b1559c83ef5b04445cc4581c8e86d8224eddd09f1157"),
	}
}

// noMultiplesAtAll has them in each way to write them.
func noMultiplesAtAll(t *testing.T) []string {
	list := append(noMultiples(t), near(255, -19), near(255, -18))
	for _, u := range slices.Clone(list) {
		list = append(list, marked(u))
	}
	return list
}

// chance answers texts that are the same in each run.
func chance(count int) []string {
	r := rand.New(rand.NewSource(7748))
	list := make([]string, count)
	for i := range list {
		b := make([]byte, 32)
		r.Read(b)
		list[i] = string(b)
	}
	return list
}

// edges has what lies around 0, P, 2^255 and 2^256.
func edges() []string {
	list := []string{small(0), small(1), small(2), small(8), small(9), small(121665), small(486662)}
	for d := int64(-21); d <= 1; d++ {
		list = append(list, near(255, d))
	}
	for d := int64(1); d <= 41; d += 4 {
		list = append(list, near(256, -d))
	}
	return append(list, near(254, -1), near(254, 0), near(254, 8), strings.Repeat("\x55", 32), strings.Repeat("\xaa", 32))
}

// library is X25519 as Go's own library has it: no text, if it is 0.
func library(t *testing.T, k, u string) string {
	t.Helper()
	secret, err := ecdh.X25519().NewPrivateKey([]byte(k))
	if err != nil {
		t.Fatal(err)
	}
	other, err := ecdh.X25519().NewPublicKey([]byte(u))
	if err != nil {
		t.Fatal(err)
	}
	s, err := secret.ECDH(other)
	if err != nil {
		return ""
	}
	return string(s)
}

func want(t *testing.T, name, got string, e api.Errno, text string, err api.Errno, in ...string) {
	t.Helper()
	if got != text || e != err {
		t.Errorf("%s(%x) = %x, %d; want %x, %d", name, in, got, e, text, err)
	}
}

// checkTwo holds Mult and Share of k and u against the library.
func checkTwo(t *testing.T, k, u string) {
	t.Helper()
	secret, none := library(t, k, u), api.OK
	product := secret
	if secret == "" {
		product, none = small(0), api.ErrZero
	}
	got, e := Mult(k, u)
	want(t, "Mult", got, e, product, api.OK, k, u)
	got, e = Share(k, u)
	want(t, "Share", got, e, secret, none, k, u)
}

// P6: RFC 7748, section 5.2.
func TestMultWrittenOut(t *testing.T) {
	for _, c := range [][3]string{
		{
			"a546e36bf0527c9d3b16154b82465edd62144c0ac1fc5a18506a2244ba449ac4",
			"e6db6867583030db3594c1a424b15f7c726624ec26b3353b10a903a6d0ab1c4c",
			"c3da55379de9c6908e94ea4df28d084f32eccf03491c71f754b4075577a28552",
		},
		{
			"4b66e9d4d1b4673c5ad22691957d6af5c11b6421e0ea01d42ca4169e7918ba0d",
			"e5210f12786811d3f4b7959d0538ae2c31dbe7106fc03c3efc4cd549c715a493",
			"95cbde9476e8907d7aade45cb4b873f88b595a68799fa152e6f8f7647aac7957",
		},
	} {
		k, u, out := unhex(t, c[0]), unhex(t, c[1]), unhex(t, c[2])
		got, e := Mult(k, u)
		want(t, "Mult", got, e, out, api.OK, k, u)
		got, e = Share(k, u)
		want(t, "Share", got, e, out, api.OK, k, u)
	}
}

// P6: RFC 7748, section 5.2: what is answered becomes k, and what was k u.
func TestMultAgainAndAgain(t *testing.T) {
	k, u := small(9), small(9)
	for i := 1; i <= 1000; i++ {
		out, e := Mult(k, u)
		if e != api.OK {
			t.Fatal(i, e)
		}
		k, u = out, k
		if i == 1 {
			want(t, "Mult", k, e, unhex(t, "422c8e7a6227d7bca1350b3e2bb7279f7897b87bb6854b783c60e80311ae3079"), api.OK)
		}
	}
	want(t, "Mult, 1000 times", k, api.OK, unhex(t, "684cf59ba83309552800ef566f2f4d3c1c3887c49360e3875f2eb94d99532c51"), api.OK)
}

// P7: RFC 7748, section 6.1.
func TestMeetWrittenOut(t *testing.T) {
	alice := unhex(t, "77076d0a7318a57d3c16c17251b26645df4c2f87ebc0992ab177fba51db92c2a")
	bob := unhex(t, "5dab087e624a8a4b79e17f8b83800ee66f3bb1292618b6fd1c2f8b27ff88e0eb")
	ofAlice := unhex(t, "8520f0098930a754748b7ddcb43ef75a0dbf3a0d26381af4eba4a98eaa9b4e6a")
	ofBob := unhex(t, "de9edb7d7b7dc1b4d35b61c2ece435373f8343c85b78674dadfc7e146f882b4f")
	both := unhex(t, "4a5d9d5ba4ce2de1728e3bf480350f25e07e21c947d19e3376f09b3c1e161742")
	got, e := Public(alice)
	want(t, "Public", got, e, ofAlice, api.OK, alice)
	got, e = Public(bob)
	want(t, "Public", got, e, ofBob, api.OK, bob)
	got, e = Share(alice, ofBob)
	want(t, "Share", got, e, both, api.OK, alice, ofBob)
	got, e = Share(bob, ofAlice)
	want(t, "Share", got, e, both, api.OK, bob, ofAlice)
}

// P6: what becomes of each bit, ahead of a key of noughts and of one of ones,
// and of one of chance.
func TestClampOfEachBit(t *testing.T) {
	for _, k := range append(chance(3), small(0), near(256, -1)) {
		for bit := -1; bit < 256; bit++ {
			handed := k
			if bit >= 0 {
				handed = flipped(k, bit)
			}
			out := []byte(handed)
			for _, nought := range []int{0, 1, 2, 255} {
				out[nought/8] &^= 1 << (nought % 8)
			}
			out[31] |= 1 << 6
			got, e := Clamp(handed)
			want(t, "Clamp", got, e, string(out), api.OK, handed)
		}
	}
}

// P6, written out: all first and last bytes.
func TestClampOfFirstAndLast(t *testing.T) {
	for b := range 256 {
		s := string([]byte{byte(b)}) + strings.Repeat("\x5a", 30) + string([]byte{byte(b)})
		got, e := Clamp(s)
		if len(got) != 32 || e != api.OK {
			t.Fatalf("Clamp(%x) = %x, %d", s, got, e)
		}
		if int(got[0]) != b/8*8 || int(got[31]) != 64+b%64 || got[1:31] != s[1:31] {
			t.Errorf("Clamp(%x) = %x", s, got)
		}
	}
}

// P6: the bits that Clamp sets change nothing of what Mult answers, the others do.
func TestMultOfEachBitOfKey(t *testing.T) {
	k, u := chance(2)[0], chance(2)[1]
	whole, _ := Mult(k, u)
	for bit := range 256 {
		got, e := Mult(flipped(k, bit), u)
		clamped := bit < 3 || bit > 253
		if len(got) != 32 || e != api.OK || (got == whole) != clamped {
			t.Errorf("bit %d of k changed: %x, %d; else %x", bit, got, e, whole)
		}
	}
	clamped, _ := Clamp(k)
	got, e := Mult(clamped, u)
	want(t, "Mult", got, e, whole, api.OK, clamped, u)
}

// P6: the highest bit of u changes nothing, the others do.
func TestMultOfEachBitOfOther(t *testing.T) {
	k, u := chance(2)[0], chance(2)[1]
	whole, _ := Mult(k, u)
	for bit := range 256 {
		got, e := Mult(k, flipped(u, bit))
		if len(got) != 32 || e != api.OK || (got == whole) != (bit == 255) {
			t.Errorf("bit %d of u changed: %x, %d; else %x", bit, got, e, whole)
		}
	}
}

// P6: u from P on is what it leaves, with its highest bit set, too: 2^255 is 0
// there, and not 19.
func TestMultFromPrimeOn(t *testing.T) {
	k := chance(1)[0]
	for d := range int64(19) {
		low, e := Mult(k, small(d))
		for _, u := range []string{near(255, d-19), near(256, d-19), near(255, d)} {
			got, f := Mult(k, u)
			want(t, "Mult", got, f, low, e, k, u)
		}
	}
}

// P6 and P7: where the multiples are 0 Mult says so, and Share refuses.
func TestNoMultiples(t *testing.T) {
	for _, k := range append(chance(4), edges()[:20]...) {
		for _, u := range noMultiples(t) {
			got, e := Mult(k, u)
			want(t, "Mult", got, e, strings.Repeat("\x00", 32), api.OK, k, u)
			got, e = Share(k, u)
			want(t, "Share", got, e, "", api.ErrZero, k, u)
		}
	}
	for _, u := range noMultiplesAtAll(t) {
		k := chance(1)[0]
		got, e := Mult(k, u)
		want(t, "Mult", got, e, strings.Repeat("\x00", 32), api.OK, k, u)
		got, e = Share(k, u)
		want(t, "Share", got, e, "", api.ErrZero, k, u)
	}
}

// P7: beside those whose multiples are 0 no number is refused.
func TestShareBesideNoMultiples(t *testing.T) {
	k := chance(1)[0]
	refused := noMultiplesAtAll(t)
	for _, u := range refused {
		for _, bit := range []int{0, 1, 2, 3, 4, 7, 8, 31, 32, 127, 128, 247, 248, 252, 253, 254, 255} {
			other := flipped(u, bit)
			if slices.Contains(refused, other) {
				continue
			}
			got, e := Share(k, other)
			if len(got) != 32 || got == small(0) || e != api.OK {
				t.Errorf("Share(%x, %x) = %x, %d", k, other, got, e)
			}
		}
	}
}

// P7: Public is the multiple of 9, and never 0: also where k, taken as u, is
// one whose multiples are 0.
func TestPublic(t *testing.T) {
	for _, k := range slices.Concat(noMultiplesAtAll(t), edges(), chance(30)) {
		out := library(t, k, "\x09"+strings.Repeat("\x00", 31))
		if out == "" {
			t.Fatalf("no multiple of 9 by %x", k)
		}
		got, e := Public(k)
		want(t, "Public", got, e, out, api.OK, k)
		mult, f := Mult(k, small(9))
		want(t, "Mult", mult, f, got, e, k)
	}
}

// P6 and P7, against Go's own library: edges with edges, and chance.
func TestAgainstLibrary(t *testing.T) {
	for _, k := range append(edges()[:5], near(256, -1), chance(1)[0]) {
		for _, u := range slices.Concat(edges(), noMultiplesAtAll(t), chance(6)) {
			checkTwo(t, k, u)
		}
	}
	list := chance(200)
	for i, k := range list[:100] {
		checkTwo(t, k, list[100+i])
	}
}

// P7: two whose Shares meet, whatever their keys are; a third one's don't.
func TestTwoMeet(t *testing.T) {
	third := chance(1)[0]
	keys := append(edges()[:6], chance(7)[1:]...)
	for i, a := range keys {
		for _, b := range keys[i:] {
			ofA, _ := Public(a)
			ofB, _ := Public(b)
			p, e := Share(a, ofB)
			q, f := Share(b, ofA)
			if p != q || len(p) != 32 || e != api.OK || f != api.OK {
				t.Errorf("%x and %x: %x, %d and %x, %d", a, b, p, e, q, f)
			}
			if r, _ := Share(third, ofB); r == p {
				t.Errorf("%x is %x's and %x's, too", p, third, b)
			}
		}
	}
}

// wrongTexts have not 32 bytes.
func wrongTexts() []string {
	list := []string{strings.Repeat("\xff", 1000), strings.Repeat("\x00", 1<<20)}
	for n := range 130 {
		if n != 32 {
			list = append(list, strings.Repeat("\x00", n), strings.Repeat("\xff", n), strings.Repeat("é", n)[:n])
		}
	}
	return list
}

// P6 and P7, wrong inputs: each of k and u, and both; also beside a u whose
// multiples are 0.
func TestWrongLengths(t *testing.T) {
	good := small(9)
	for _, bad := range wrongTexts() {
		got, e := Clamp(bad)
		want(t, "Clamp", got, e, "", api.ErrArg, bad)
		got, e = Public(bad)
		want(t, "Public", got, e, "", api.ErrArg, bad)
		for _, c := range [][2]string{{bad, good}, {good, bad}, {bad, bad}, {bad, ""}, {"", bad}, {bad, small(0)}} {
			got, e = Mult(c[0], c[1])
			want(t, "Mult", got, e, "", api.ErrArg, c[0], c[1])
			got, e = Share(c[0], c[1])
			want(t, "Share", got, e, "", api.ErrArg, c[0], c[1])
		}
	}
}

// P6: two texts that have 64 bytes together are not two keys yet.
func TestWrongLengthsTogether(t *testing.T) {
	whole := strings.Repeat("\x01", 64)
	for n := range 65 {
		if n == 32 {
			continue
		}
		got, e := Mult(whole[:n], whole[n:])
		want(t, "Mult", got, e, "", api.ErrArg, whole[:n], whole[n:])
		got, e = Share(whole[:n], whole[n:])
		want(t, "Share", got, e, "", api.ErrArg, whole[:n], whole[n:])
	}
}

// P1, P6 and P7 for whatever comes.
func FuzzAnything(f *testing.F) {
	for _, a := range edges()[:20] {
		f.Add(a, near(256, -1))
	}
	f.Add("", "x")
	f.Fuzz(func(t *testing.T, k, u string) {
		if len(k) == 32 && len(u) == 32 {
			checkTwo(t, k, u)
			return
		}
		got, e := Mult(k, u)
		want(t, "Mult", got, e, "", api.ErrArg, k, u)
		got, e = Share(k, u)
		want(t, "Share", got, e, "", api.ErrArg, k, u)
	})
}

// calls answers what each call makes of k and u.
func calls(k, u string) []string {
	var list []string
	keep := func(s string, _ api.Errno) { list = append(list, s) }
	keep(Clamp(k))
	keep(Mult(k, u))
	keep(Public(k))
	keep(Share(k, u))
	return list
}

// shares says whether two texts have a byte of memory in common.
func shares(a, b string) bool {
	if len(a) == 0 || len(b) == 0 {
		return false
	}
	p, q := uintptr(unsafe.Pointer(unsafe.StringData(a))), uintptr(unsafe.Pointer(unsafe.StringData(b)))
	return p < q+uintptr(len(b)) && q < p+uintptr(len(a))
}

// P2: what is handed in stays, the room behind it too, and no answer lies in
// it: also where the answer has the same bytes, as a Clamp of what was clamped.
func TestNothingShared(t *testing.T) {
	for _, text := range append(edges(), near(254, 0), small(0), "", "short", strings.Repeat("long", 20)) {
		room := text + text + "room behind"
		handed := []byte(room)
		whole := unsafe.String(unsafe.SliceData(handed), len(handed))
		k, u := whole[:len(text)], whole[len(text):2*len(text)]
		for _, answer := range append(calls(k, u), calls(k, small(0))...) {
			if shares(answer, whole) {
				t.Errorf("an answer to %x lies in what was handed in", text)
			}
		}
		if string(handed) != room {
			t.Errorf("%x became %x", room, handed)
		}
	}
}

// P2: no two answers lie in the same memory: also where they are 0.
func TestAnswersApart(t *testing.T) {
	answers := slices.Concat(calls(near(254, 0), small(0)), calls(near(254, 0), small(0)), calls(near(254, 0), small(9)))
	for i, a := range answers {
		for _, b := range answers[i+1:] {
			if shares(a, b) {
				t.Fatalf("two answers share %x", a)
			}
		}
	}
}

// P2: nothing is kept: the same call answers the same, whatever came between,
// what was refused included, and at the same time as others.
func TestAnswersStay(t *testing.T) {
	k, u := chance(2)[0], chance(2)[1]
	all := calls(k, u)
	first := strings.Join(all, "")
	var group sync.WaitGroup
	for _, s := range append(edges(), "", "short") {
		group.Go(func() {
			calls(s, k)
			calls(k, s)
			if !slices.Equal(calls(k, u), all) {
				t.Errorf("answers differ behind %x", s)
			}
		})
	}
	group.Wait()
	if strings.Join(all, "") != first {
		t.Errorf("answers changed")
	}
}
