package elem

import (
	"math/big"
	"math/rand"
	"slices"
	"strings"
	"sync"
	"testing"
	"unsafe"

	"souterrain/api"
)

// bigPrime is worked out anew here, not taken from what is tested.
func bigPrime() *big.Int {
	p := new(big.Int).Lsh(big.NewInt(1), 255)
	return p.Sub(p, big.NewInt(19))
}

// bigOf reads a text as P5 says: the first byte counts least.
func bigOf(s string) *big.Int {
	b := []byte(s)
	slices.Reverse(b)
	return new(big.Int).SetBytes(b)
}

// textOf takes a number below 2^256.
func textOf(n *big.Int) string {
	b := n.FillBytes(make([]byte, 32))
	slices.Reverse(b)
	return string(b)
}

func small(n int64) string { return textOf(big.NewInt(n)) }

// near answers the text of 2^bits + n.
func near(bits uint, n int64) string {
	x := new(big.Int).Lsh(big.NewInt(1), bits)
	return textOf(x.Add(x, big.NewInt(n)))
}

// edges has 0, 1, P - 1, P, P + 1, 2^255 - 1, 2^256 - 1, what lies around
// these, around 2 P, and around each place where a limb ends.
func edges() []string {
	list := []string{small(0), small(1), small(2), small(19), small(37), small(38)}
	for d := int64(-3); d <= 3; d++ {
		list = append(list, near(255, d), near(255, d-19), near(255, d+19))
	}
	for d := int64(1); d <= 77; d++ {
		list = append(list, near(256, -d))
	}
	for bits := uint(1); bits < 256; bits++ {
		list = append(list, near(bits, -1), near(bits, 0))
	}
	return append(list, strings.Repeat("\x80", 32), strings.Repeat("\x00\x00\x00\x00\xff\xff\xff\xff", 4))
}

// chance answers texts that are the same in each run.
func chance(count int) []string {
	r := rand.New(rand.NewSource(255))
	list := make([]string, count)
	for i := range list {
		b := make([]byte, 32)
		r.Read(b)
		list[i] = string(b)
	}
	return list
}

func samples() []string { return append(edges(), chance(60)...) }

func wantNumber(t *testing.T, name, got string, e api.Errno, want *big.Int, in ...string) {
	t.Helper()
	low := textOf(new(big.Int).Mod(want, bigPrime()))
	if got != low || e != api.OK {
		t.Errorf("%s(%x) = %x, %d; want %x, OK", name, in, got, e, low)
	}
}

func checkOne(t *testing.T, a string) {
	t.Helper()
	x := bigOf(a)
	got, e := Low(a)
	wantNumber(t, "Low", got, e, x, a)
	inverse := new(big.Int).ModInverse(x, bigPrime())
	if inverse == nil {
		inverse = new(big.Int)
	}
	got, e = Inv(a)
	wantNumber(t, "Inv", got, e, inverse, a)
}

func checkTwo(t *testing.T, a, b string) {
	t.Helper()
	x, y := bigOf(a), bigOf(b)
	got, e := Add(a, b)
	wantNumber(t, "Add", got, e, new(big.Int).Add(x, y), a, b)
	got, e = Sub(a, b)
	wantNumber(t, "Sub", got, e, new(big.Int).Sub(x, y), a, b)
	got, e = Mul(a, b)
	wantNumber(t, "Mul", got, e, new(big.Int).Mul(x, y), a, b)
}

func checkPower(t *testing.T, a string, n uint64) {
	t.Helper()
	got, e := Pow(a, n)
	want := new(big.Int).Exp(bigOf(a), new(big.Int).SetUint64(n), bigPrime())
	wantNumber(t, "Pow", got, e, want, a, new(big.Int).SetUint64(n).String())
}

// P5, written out: nothing here is worked out by the test.
func TestWrittenOut(t *testing.T) {
	ff := strings.Repeat("\xff", 30)
	zeros := strings.Repeat("\x00", 31)
	for _, c := range []struct {
		name  string
		how   func(a, b string) (string, api.Errno)
		a, b  string
		first byte // of a number whose other bytes are 0
	}{
		{"Add", Add, "\xed" + ff + "\x7f", "\x05" + zeros, 5},
		{"Add", Add, "\xec" + ff + "\x7f", "\x01" + zeros, 0},
		{"Add", Add, "\xff" + ff + "\xff", "\xff" + ff + "\xff", 74},
		{"Sub", Sub, "\x05" + zeros, "\x03" + zeros, 2},
		{"Sub", Sub, "\x00" + zeros, "\xec" + ff + "\x7f", 1},
		{"Sub", Sub, "\xee" + ff + "\x7f", "\x01" + zeros, 0},
		{"Mul", Mul, "\x07" + zeros, "\x06" + zeros, 42},
		{"Mul", Mul, "\xec" + ff + "\x7f", "\xec" + ff + "\x7f", 1},
		{"Mul", Mul, "\xff" + ff + "\x7f", "\x0a" + zeros, 180},
	} {
		got, e := c.how(c.a, c.b)
		if want := string([]byte{c.first}) + zeros; got != want || e != api.OK {
			t.Errorf("%s(%x, %x) = %x, %d; want %x", c.name, c.a, c.b, got, e, want)
		}
	}
	got, e := Sub("\x03"+zeros, "\x05"+zeros)
	if got != "\xeb"+ff+"\x7f" || e != api.OK {
		t.Errorf("3 less 5 is %x, %d; want P - 2", got, e)
	}
}

// P5, the edges that are named, one by one.
func TestLowOfEdges(t *testing.T) {
	lessOne := near(255, -20)
	for a, want := range map[string]string{
		small(0): small(0), small(1): small(1), lessOne: lessOne, near(255, -19): small(0), near(255, -18): small(1),
		near(255, -1): small(18), near(255, 0): small(19), near(256, -38): small(0), near(256, -39): lessOne, near(256, -1): small(37),
	} {
		if got, e := Low(a); got != want || e != api.OK {
			t.Errorf("Low(%x) = %x, %d; want %x", a, got, e, want)
		}
	}
}

// P5, one number, against numbers of any length.
func TestOneNumber(t *testing.T) {
	for _, a := range samples() {
		checkOne(t, a)
	}
}

// P5, two numbers, against numbers of any length: each with each.
func TestTwoNumbers(t *testing.T) {
	list := samples()
	for _, a := range list {
		for _, b := range list {
			checkTwo(t, a, b)
		}
	}
}

// P5: 0 where there is no inverse, in each of the three ways to write it.
func TestInvOfNought(t *testing.T) {
	for _, a := range []string{small(0), near(255, -19), near(256, -38)} {
		if got, e := Inv(a); got != small(0) || e != api.OK {
			t.Errorf("Inv(%x) = %x, %d; want 0", a, got, e)
		}
	}
}

// P5: what Inv answers leaves 1, times a.
func TestInvTimes(t *testing.T) {
	for _, a := range samples() {
		low, _ := Low(a)
		want := small(1)
		if low == small(0) {
			want = small(0)
		}
		i, _ := Inv(a)
		if got, e := Mul(a, i); got != want || e != api.OK {
			t.Errorf("%x times its Inv %x is %x, %d", a, i, got, e)
		}
	}
}

// P5, powers, those of 0 and of 0 times among them.
func TestPow(t *testing.T) {
	times := []uint64{0, 1, 2, 3, 4, 5, 31, 32, 33, 255, 1<<31 - 1, 1 << 31, 1<<32 - 1, 1 << 32, 1<<32 + 1,
		1<<33 + 1, 1 << 62, 1<<63 - 1, 1 << 63, 1<<63 + 1, 1<<64 - 2, 1<<64 - 1, 0xa5a5a5a5a5a5a5a5}
	for _, a := range samples() {
		for _, n := range times {
			checkPower(t, a, n)
		}
	}
	for _, nought := range []string{small(0), near(255, -19), near(256, -38)} {
		for _, n := range times {
			want := small(0)
			if n == 0 {
				want = small(1)
			}
			if got, e := Pow(nought, n); got != want || e != api.OK {
				t.Errorf("Pow(%x, %d) = %x, %d; want %x", nought, n, got, e, want)
			}
		}
	}
}

// P5: Pow is Mul, again and again.
func TestPowByMul(t *testing.T) {
	for _, a := range []string{small(0), small(1), small(3), near(255, -20), near(256, -1), chance(1)[0]} {
		want := small(1)
		for n := range uint64(300) {
			if got, e := Pow(a, n); got != want || e != api.OK {
				t.Fatalf("Pow(%x, %d) = %x, %d; want %x", a, n, got, e, want)
			}
			want, _ = Mul(want, a)
		}
	}
}

// wrongTexts have not 32 bytes.
func wrongTexts() []string {
	list := []string{strings.Repeat("\xff", 1000), strings.Repeat("\x00", 1<<20)}
	for n := range 130 {
		if n != 32 {
			list = append(list, strings.Repeat("\x00", n), strings.Repeat("\xff", n), strings.Repeat("é", n)[:n])
		}
	}
	return list
}

func wantArg(t *testing.T, name, got string, e api.Errno, lengths ...int) {
	t.Helper()
	if got != "" || e != api.ErrArg {
		t.Errorf("%s of texts of %v bytes = %x, %d; want no text and ErrArg", name, lengths, got, e)
	}
}

// P5, wrong inputs: each of a and b, and both.
func TestWrongLengths(t *testing.T) {
	good := small(5)
	for _, bad := range wrongTexts() {
		got, e := Low(bad)
		wantArg(t, "Low", got, e, len(bad))
		got, e = Inv(bad)
		wantArg(t, "Inv", got, e, len(bad))
		for _, n := range []uint64{0, 1, 1<<64 - 1} {
			got, e = Pow(bad, n)
			wantArg(t, "Pow", got, e, len(bad))
		}
		for _, c := range [][2]string{{bad, good}, {good, bad}, {bad, bad}, {bad, ""}, {"", bad}} {
			got, e = Add(c[0], c[1])
			wantArg(t, "Add", got, e, len(c[0]), len(c[1]))
			got, e = Sub(c[0], c[1])
			wantArg(t, "Sub", got, e, len(c[0]), len(c[1]))
			got, e = Mul(c[0], c[1])
			wantArg(t, "Mul", got, e, len(c[0]), len(c[1]))
		}
	}
}

// P5: two texts that have 64 bytes together are not two numbers yet.
func TestWrongLengthsTogether(t *testing.T) {
	whole := strings.Repeat("\x01", 64)
	for n := range 65 {
		if n == 32 {
			continue
		}
		got, e := Mul(whole[:n], whole[n:])
		wantArg(t, "Mul", got, e, n, 64-n)
	}
}

// folded is handed less by times than it can take: here is the most there is.
func TestFoldedOfAnything(t *testing.T) {
	for _, low := range samples() {
		for _, high := range []string{small(0), small(1), near(255, -1), near(256, -38), near(256, -1)} {
			wide := [2 * limbs]uint32{}
			for i, c := range []byte(low + high) {
				wide[i/4] |= uint32(c) << (i % 4 * 8)
			}
			want := new(big.Int).Lsh(bigOf(high), 256)
			wantNumber(t, "folded", folded(wide).text(), api.OK, want.Add(want, bigOf(low)), low, high)
		}
	}
}

// P1 and P5 for whatever comes.
func FuzzAnything(f *testing.F) {
	for _, a := range edges()[:30] {
		f.Add(a, near(256, -1), uint64(1<<63))
	}
	f.Add("", "x", uint64(0))
	f.Fuzz(func(t *testing.T, a, b string, n uint64) {
		if len(a) == 32 {
			checkOne(t, a)
			checkPower(t, a, n)
		}
		if len(a) == 32 && len(b) == 32 {
			checkTwo(t, a, b)
			return
		}
		got, e := Mul(a, b)
		wantArg(t, "Mul", got, e, len(a), len(b))
	})
}

// calls answers what each call makes of a and b.
func calls(a, b string) []string {
	var list []string
	keep := func(s string, _ api.Errno) { list = append(list, s) }
	keep(Low(a))
	keep(Inv(a))
	keep(Add(a, b))
	keep(Sub(a, b))
	keep(Mul(a, b))
	for _, n := range []uint64{0, 1, 2, 1<<64 - 1} {
		keep(Pow(a, n))
	}
	return list
}

// shares says whether two texts have a byte of memory in common.
func shares(a, b string) bool {
	if len(a) == 0 || len(b) == 0 {
		return false
	}
	p, q := uintptr(unsafe.Pointer(unsafe.StringData(a))), uintptr(unsafe.Pointer(unsafe.StringData(b)))
	return p < q+uintptr(len(b)) && q < p+uintptr(len(a))
}

// P2: what is handed in stays, the room behind it too, and no answer lies in
// it: also where the answer has the same bytes.
func TestNothingShared(t *testing.T) {
	for _, text := range append(samples(), "", "short", strings.Repeat("long", 20)) {
		room := text + text + "room behind"
		handed := []byte(room)
		whole := unsafe.String(unsafe.SliceData(handed), len(handed))
		a, b := whole[:len(text)], whole[len(text):2*len(text)]
		for _, answer := range append(calls(a, b), calls(a, small(0))...) {
			if shares(answer, whole) {
				t.Errorf("an answer to %x lies in what was handed in", text)
			}
		}
		if string(handed) != room {
			t.Errorf("%x became %x", room, handed)
		}
	}
}

// P2: no two answers lie in the same memory.
func TestAnswersApart(t *testing.T) {
	answers := append(calls(small(1), small(0)), calls(small(1), small(0))...)
	for i, a := range answers {
		for _, b := range answers[i+1:] {
			if shares(a, b) {
				t.Fatalf("two answers share %x", a)
			}
		}
	}
}

// P2: nothing is kept: the same call answers the same, whatever came between,
// what was refused included, and at the same time as others.
func TestAnswersStay(t *testing.T) {
	list := samples()
	a, b := list[len(list)-1], list[len(list)-2]
	want := calls(a, b)
	first := strings.Join(want, "")
	var all sync.WaitGroup
	for _, s := range append(list, "", "short") {
		all.Go(func() {
			calls(s, a)
			if !slices.Equal(calls(a, b), want) {
				t.Errorf("answers differ behind %x", s)
			}
		})
	}
	all.Wait()
	if strings.Join(want, "") != first {
		t.Errorf("answers changed")
	}
}
