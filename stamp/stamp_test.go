package stamp

import (
	"encoding/hex"
	"math"
	"math/rand"
	"slices"
	"strings"
	"sync"
	"testing"
	"unsafe"

	"souterrain/api"
)

// The document's own numbers: package words holds api's against them.
const (
	mostSec  = 1 << 40
	mostNano = 999999999
)

func unhex(t *testing.T, h string) string {
	t.Helper()
	b, err := hex.DecodeString(h)
	if err != nil {
		t.Fatal(h)
	}
	return string(b)
}

// flipped answers s with one bit changed, counted from the first byte's lowest.
func flipped(s string, bit int) string {
	b := []byte(s)
	b[bit/8] ^= 1 << (bit % 8)
	return string(b)
}

// with answers s with one byte put at a place.
func with(s string, at int, c byte) string {
	b := []byte(s)
	b[at] = c
	return string(b)
}

// chance answers times that are the same in each run, of all sizes.
func chance(count int) []api.Stamp {
	r := rand.New(rand.NewSource(2214))
	list := make([]api.Stamp, count)
	for i := range list {
		sec, nano := r.Int63n(mostSec+1), r.Int63n(mostNano+1)
		list[i] = api.Stamp{Sec: int(sec >> r.Intn(41)), Nano: int(nano >> r.Intn(31))}
	}
	return list
}

// chanceTexts answers texts of any bytes, of each length up to 24, and of twelve
// bytes above all.
func chanceTexts(count int) []string {
	r := rand.New(rand.NewSource(4122))
	list := make([]string, count)
	for i := range list {
		b := make([]byte, 12)
		if i%2 == 0 {
			b = make([]byte, r.Intn(25))
		}
		r.Read(b)
		list[i] = string(b)
	}
	return list
}

func rightSecs() []int {
	return []int{0, 1, 255, 256, 258, 1<<16 - 1, 1 << 16, 1<<32 - 1, 1 << 32, 1<<39 + 1, mostSec - 1, mostSec}
}

func rightNanos() []int {
	return []int{0, 1, 7, 255, 256, 1<<16 - 1, 1 << 16, 1<<24 + 5, 1 << 29, mostNano - 1, mostNano}
}

// wrongSecs has those whose lower bits alone would be right, too.
func wrongSecs() []int {
	return []int{-1, -2, -258, mostSec + 1, mostSec + 2, 1<<40 + 1<<32, 1 << 41, 1 << 48, 1 << 61, 1<<62 - 1, 1 << 62,
		1<<62 + 258, -1 << 62, -1<<62 - 1, -1<<62 + 258, -1 << 40, -1 << 32, math.MaxInt - 1, math.MaxInt, math.MinInt, math.MinInt + 1, math.MinInt + 258}
}

func wrongNanos() []int {
	return []int{-1, -2, -1000000000, -999999999, 1000000000, 1000000001, 1 << 30, 1<<31 - 1, 1 << 31, 1<<32 - 1, 1 << 32, 1<<32 + 7,
		1 << 62, -1 << 32, -1<<32 + 7, math.MaxInt - 1, math.MaxInt, math.MinInt, math.MinInt + 7}
}

func pairs(secs, nanos []int) []api.Stamp {
	var list []api.Stamp
	for _, sec := range secs {
		for _, nano := range nanos {
			list = append(list, api.Stamp{Sec: sec, Nano: nano})
		}
	}
	return list
}

func edges() []api.Stamp { return pairs(rightSecs(), rightNanos()) }

// refused answers times that are none: by Sec, by Nano, and by both.
func refused() []api.Stamp {
	list := pairs(wrongSecs(), rightNanos())
	list = append(list, pairs(rightSecs(), wrongNanos())...)
	return append(list, pairs(wrongSecs(), wrongNanos())...)
}

func wantWrite(t *testing.T, in api.Stamp, right string, err api.Errno) {
	t.Helper()
	if got, e := Write(in); got != right || e != err {
		t.Errorf("Write(%d) = %x, %d; want %x, %d", in, got, e, right, err)
	}
}

func wantRead(t *testing.T, s string, right api.Stamp, err api.Errno) {
	t.Helper()
	if got, e := Read(s); got != right || e != err {
		t.Errorf("Read(%.100x), of %d bytes, = %d, %d; want %d, %d", s, len(s), got, e, right, err)
	}
}

func wantNone(t *testing.T, s string, err api.Errno) {
	t.Helper()
	wantRead(t, s, api.Stamp{}, err)
}

// wantBoth holds Write and Read against what is known of a time.
func wantBoth(t *testing.T, in api.Stamp, s string) {
	t.Helper()
	wantWrite(t, in, s, api.OK)
	wantRead(t, s, in, api.OK)
}

func wantAfter(t *testing.T, a, b api.Stamp, right bool) {
	t.Helper()
	if got := After(a, b); got != right {
		t.Errorf("After(%d, %d) = %t", a, b, got)
	}
}

// wantLater is for two times of which a is the later one.
func wantLater(t *testing.T, a, b api.Stamp) {
	t.Helper()
	wantAfter(t, a, b, true)
	wantAfter(t, b, a, false)
	wantAfter(t, a, a, false)
	wantAfter(t, b, b, false)
}

// written is for what is right.
func written(t *testing.T, in api.Stamp) string {
	t.Helper()
	s, e := Write(in)
	if len(s) != 12 || e != api.OK {
		t.Fatalf("Write(%d) = %x, %d", in, s, e)
	}
	return s
}

// wantSaid holds all three calls against the chapter's words.
func wantSaid(t *testing.T, a, b api.Stamp, s string) {
	t.Helper()
	for _, in := range []api.Stamp{a, b} {
		right, e := saidWrite(in)
		wantWrite(t, in, right, e)
	}
	right, e := saidRead(s)
	wantRead(t, s, right, e)
	wantAfter(t, a, b, saidAfter(a, b))
	wantAfter(t, b, a, saidAfter(b, a))
}

// P22: times whose twelve bytes are known, two of them (of 1992 and of 1999)
// from TAI64's and TAI64N's own descriptions.
func TestWrittenOut(t *testing.T) {
	for _, c := range []struct {
		sec, nano int
		bytes     string
	}{
		{0, 0, "400000000000000000000000"},
		{0, 1, "400000000000000000000001"},
		{1, 0, "400000000000000100000000"},
		{1, 1, "400000000000000100000001"},
		{258, 0, "400000000000010200000000"},
		{258, 7, "400000000000010200000007"},
		{7, 258, "400000000000000700000102"},
		{707472429, 0, "400000002a2b2c2d00000000"},
		{935467455, 787492500, "4000000037c219bf2ef02e94"},
		{4328719365, 16909060, "400000010203040501020304"},
		{0xfedcba9876, 0x12345678, "400000fedcba987612345678"},
		{255, 255, "40000000000000ff000000ff"},
		{256, 256, "400000000000010000000100"},
		{65535, 65535, "400000000000ffff0000ffff"},
		{65536, 65536, "400000000001000000010000"},
		{16777216, 16777216, "400000000100000001000000"},
		{4294967295, 0, "40000000ffffffff00000000"},
		{4294967296, 0, "400000010000000000000000"},
		{0, 999999998, "40000000000000003b9ac9fe"},
		{0, 999999999, "40000000000000003b9ac9ff"},
		{1099511627775, 0, "400000ffffffffff00000000"},
		{1099511627775, 999999999, "400000ffffffffff3b9ac9ff"},
		{1099511627776, 0, "400001000000000000000000"},
		{1099511627776, 999999998, "40000100000000003b9ac9fe"},
		{1099511627776, 999999999, "40000100000000003b9ac9ff"},
	} {
		wantBoth(t, api.Stamp{Sec: c.sec, Nano: c.nano}, unhex(t, c.bytes))
	}
}

// P22: each byte of Sec and of Nano, with each value that it may have by itself.
func TestEachByte(t *testing.T) {
	zero := "\x40" + strings.Repeat("\x00", 11)
	for c := 1; c < 256; c++ {
		for i := range 5 {
			wantBoth(t, api.Stamp{Sec: c << (8 * i)}, with(zero, 7-i, byte(c)))
		}
		for i := range 4 {
			// The highest byte of a Nano is at most 0x3b.
			if c<<(8*i) <= mostNano {
				wantBoth(t, api.Stamp{Nano: c << (8 * i)}, with(zero, 11-i, byte(c)))
			} else {
				wantNone(t, with(zero, 11-i, byte(c)), api.ErrForm)
			}
		}
	}
	wantBoth(t, api.Stamp{Sec: mostSec}, with(zero, 2, 1))
}

// P22, the edges: Sec and Nano at both of their bounds, and beside them.
func TestEdges(t *testing.T) {
	for _, in := range edges() {
		right, e := saidWrite(in)
		if e != api.OK {
			t.Fatal(in)
		}
		wantBoth(t, in, right)
	}
}

// P22: what Write tells of a time is read as that time.
func TestWrittenIsRead(t *testing.T) {
	for _, in := range append(chance(20000), edges()...) {
		wantRead(t, written(t, in), in, api.OK)
		right, _ := saidWrite(in)
		wantWrite(t, in, right, api.OK)
	}
}

// P22: what is read is written so again.
func TestReadIsWritten(t *testing.T) {
	read := 0
	for _, s := range chanceTexts(20000) {
		if len(s) != 12 {
			continue
		}
		// Otherwise none of them would have a Sec, and few a Nano.
		s = "\x40\x00\x00" + s[3:8] + with(s, 8, s[8]%64)[8:]
		right, e := saidRead(s)
		wantRead(t, s, right, e)
		if in, e := Read(s); e == api.OK {
			wantWrite(t, in, s, api.OK)
			read++
		}
	}
	if read < 5000 {
		t.Errorf("only %d texts were read", read)
	}
}

// P22: each bit of a time counts: with one turned it is another time, or none.
func TestEachBitCounts(t *testing.T) {
	for _, in := range append(chance(300), edges()...) {
		s := written(t, in)
		for bit := range 96 {
			other := flipped(s, bit)
			right, e := saidRead(other)
			wantRead(t, other, right, e)
			if got, e := Read(other); got == in && e == api.OK {
				t.Errorf("%x and %x are both read as %d", s, other, in)
			}
		}
	}
}

// P22, wrong inputs: Sec, Nano, and both; no text is told beside the error.
func TestWriteWrong(t *testing.T) {
	for _, in := range refused() {
		wantWrite(t, in, "", api.ErrArg)
	}
	for i := range 63 {
		wantWrite(t, api.Stamp{Sec: -1 << i}, "", api.ErrArg)
		wantWrite(t, api.Stamp{Nano: -1 << i}, "", api.ErrArg)
		if i > 40 {
			wantWrite(t, api.Stamp{Sec: 1 << i}, "", api.ErrArg)
		}
		if i > 29 {
			wantWrite(t, api.Stamp{Nano: 1 << i}, "", api.ErrArg)
		}
	}
}

// P22, the edges: texts of no byte, and of each length up to 11, whatever they are.
func TestReadShort(t *testing.T) {
	for _, s := range append(written12(t), strings.Repeat("\xff", 12), strings.Repeat("\x00", 12), "twelve bytes") {
		for n := range 12 {
			wantNone(t, s[:n], api.ErrShort)
			wantNone(t, s[12-n:], api.ErrShort)
		}
	}
}

// P22, the edges: texts of 13 and of many bytes, also where the first twelve, or
// the last, are right.
func TestReadLong(t *testing.T) {
	for _, s := range append(written12(t), strings.Repeat("\xff", 12), strings.Repeat("\x00", 12)) {
		for _, more := range []string{"\x00", "\x40", "\xff", "x", s, s + "\x00", strings.Repeat("\x00", 12), strings.Repeat("m", 1987), strings.Repeat("\x00", 1988), strings.Repeat("\x00", 1<<20)} {
			wantNone(t, s+more, api.ErrForm)
			wantNone(t, more+s, api.ErrForm)
		}
	}
	for n := 13; n < 300; n++ {
		wantNone(t, "\x40"+strings.Repeat("\x00", n-1), api.ErrForm)
	}
}

// written12 answers what Write tells of some times.
func written12(t *testing.T) []string {
	var list []string
	for _, in := range append(chance(20), edges()...) {
		list = append(list, written(t, in))
	}
	return list
}

// P22, wrong inputs: a Sec above MaxTime or below 0, as it is told, with a Nano
// that is right.
func TestReadWrongSec(t *testing.T) {
	for _, sec := range []string{
		"4000010000000001", "4000010000000002", "40000100000000ff", "4000010000000100", "4000010100000000", "400001ffffffffff",
		"4000020000000000", "4000030000000000", "4001000000000000", "4001000000000102", "40ffffffffffffff", "4000ffffffffffff",
		"3fffffffffffffff", "3ffffffffffffffe", "3fffff0000000000", "3fffffffffff0102", "3000000000000000", "0000000000000000",
		"0000000000000001", "0000000000000102", "0000010000000000", "00ffffffffffffff", "2000000000000102", "1000000000000102",
		"4100000000000000", "4100000000000102", "4200000000000102", "4400000000000102", "4800000000000102", "5000000000000102",
		"6000000000000102", "7fffffffffffffff", "8000000000000000", "8000000000000102", "8000010000000000", "bfffffffffffffff",
		"c000000000000000", "c000000000000102", "c000010000000000", "c0000100000000ff", "ffffffffffffffff", "fffffffffffffffe",
	} {
		for _, nano := range []string{"00000000", "00000001", "3b9ac9ff"} {
			wantNone(t, unhex(t, sec+nano), api.ErrForm)
		}
	}
}

// P22, wrong inputs: no first byte but one is a time's, whatever is behind it;
// nor has any second one, and a third one that is 1 has nothing behind it.
func TestReadFirstBytes(t *testing.T) {
	for _, s := range written12(t) {
		for c := range 256 {
			if c != 0x40 {
				wantNone(t, with(s, 0, byte(c)), api.ErrForm)
			}
			if c != 0 {
				wantNone(t, with(s, 1, byte(c)), api.ErrForm)
			}
			if c > 1 {
				wantNone(t, with(s, 2, byte(c)), api.ErrForm)
			}
			if c > 0 && s[3:8] != "\x00\x00\x00\x00\x00" {
				wantNone(t, with(s, 2, byte(c)), api.ErrForm)
			}
		}
	}
}

// P22, wrong inputs: a Nano above MaxNano, with a Sec that is right.
func TestReadWrongNano(t *testing.T) {
	for _, nano := range []string{
		"3b9aca00", "3b9aca01", "3b9acaff", "3b9acb00", "3b9bc9ff", "3b9b0000", "3c000000", "3c9ac9ff", "3fffffff",
		"40000000", "7fffffff", "80000000", "80000007", "bb9ac9ff", "c0000000", "fffffffe", "ffffffff",
	} {
		for _, sec := range []string{"4000000000000000", "4000000000000102", "400000ffffffffff", "4000010000000000"} {
			wantNone(t, unhex(t, sec+nano), api.ErrForm)
		}
		// A wrong Sec beside it changes nothing.
		for _, sec := range []string{"3fffffffffffffff", "4000010000000001", "c000000000000102", "0000000000000000"} {
			wantNone(t, unhex(t, sec+nano), api.ErrForm)
		}
	}
}

// P22: of two times one is later: by Sec, by Nano alone, by Sec where Nano says
// the contrary.
func TestAfter(t *testing.T) {
	for _, c := range [][2]api.Stamp{
		{{Sec: 2}, {Sec: 1}},
		{{Sec: 1}, {}},
		{{Sec: 258, Nano: 7}, {Sec: 257, Nano: 7}},
		{{Sec: 256, Nano: 7}, {Sec: 255, Nano: 7}},
		{{Sec: 1 << 32}, {Sec: 1<<32 - 1}},
		{{Sec: mostSec}, {Sec: mostSec - 1}},
		{{Sec: mostSec}, {}},
		{{Nano: 1}, {}},
		{{Sec: 258, Nano: 8}, {Sec: 258, Nano: 7}},
		{{Sec: 258, Nano: 256}, {Sec: 258, Nano: 255}},
		{{Sec: mostSec, Nano: mostNano}, {Sec: mostSec, Nano: mostNano - 1}},
		{{Nano: mostNano}, {}},
		{{Sec: 2}, {Sec: 1, Nano: 9}},
		{{Sec: 1}, {Nano: mostNano}},
		{{Sec: 258, Nano: 6}, {Sec: 257, Nano: 7}},
		{{Sec: mostSec}, {Sec: mostSec - 1, Nano: mostNano}},
		{{Sec: mostSec}, {Nano: mostNano}},
		{{Sec: 2, Nano: 9}, {Sec: 1, Nano: 1}},
	} {
		wantLater(t, c[0], c[1])
	}
}

// P22, the edges: no time is after itself, those that Write refuses among them.
func TestNotAfterItself(t *testing.T) {
	for _, in := range slices.Concat(edges(), refused(), chance(300)) {
		wantAfter(t, in, in, false)
	}
}

// P22, the edges: After of times that Write refuses, below 0 and far above.
func TestAfterOfRefused(t *testing.T) {
	for _, c := range [][2]api.Stamp{
		{{}, {Sec: -1}},
		{{}, {Nano: -1}},
		{{}, {Sec: -1, Nano: mostNano}},
		{{Sec: -1}, {Sec: -2}},
		{{Sec: -1, Nano: -1}, {Sec: -1, Nano: -2}},
		{{Sec: -1, Nano: math.MinInt}, {Sec: -2, Nano: math.MaxInt}},
		{{Sec: mostSec + 1}, {Sec: mostSec, Nano: mostNano}},
		{{Nano: 1000000000}, {Nano: mostNano}},
		{{Sec: 1}, {Nano: 1000000000}},
		{{Sec: 1}, {Nano: 1000000001}},
		{{Sec: 1}, {Nano: math.MaxInt}},
		{{Sec: 1, Nano: math.MinInt}, {Nano: math.MaxInt}},
		{{Sec: 1 << 32}, {Sec: 1}},
		{{Nano: 1 << 32}, {Nano: 1}},
		{{Sec: math.MaxInt}, {Sec: math.MinInt}},
		{{Sec: math.MaxInt}, {Sec: -1}},
		{{Sec: math.MaxInt}, {Sec: math.MaxInt - 1}},
		{{}, {Sec: math.MinInt}},
		{{Sec: 1}, {Sec: math.MinInt}},
		{{Sec: math.MinInt + 1}, {Sec: math.MinInt}},
		{{Nano: math.MaxInt}, {Nano: math.MinInt}},
		{{Nano: math.MaxInt}, {Nano: -1}},
		{{Nano: 1}, {Nano: math.MinInt}},
		{{Sec: 7, Nano: math.MinInt + 1}, {Sec: 7, Nano: math.MinInt}},
	} {
		wantLater(t, c[0], c[1])
	}
}

// P22: each edge with each, those that Write refuses among them.
func TestAfterOfAll(t *testing.T) {
	secs := []int{math.MinInt, math.MinInt + 1, -mostSec, -1, 0, 1, 258, 1 << 32, mostSec - 1, mostSec, mostSec + 1, 1 << 62, math.MaxInt}
	nanos := []int{math.MinInt, -1000000000, -1, 0, 1, 7, mostNano - 1, mostNano, 1000000000, 1 << 32, math.MaxInt}
	list := pairs(secs, nanos)
	for i, a := range list {
		for j, b := range list {
			// The list is written from the first one to the last.
			wantAfter(t, a, b, i > j)
		}
	}
}

// P22: of two that Write tells the later one's bytes are the higher ones.
func TestLaterIsHigher(t *testing.T) {
	list := append(chance(300), edges()...)
	texts := make([]string, len(list))
	for i, in := range list {
		texts[i] = written(t, in)
	}
	for i, a := range list {
		for j, b := range list {
			wantAfter(t, a, b, texts[i] > texts[j])
			if (a == b) != (texts[i] == texts[j]) {
				t.Errorf("%d and %d are told as %x and %x", a, b, texts[i], texts[j])
			}
		}
	}
}

// P22 and P1: whatever comes is answered as the chapter's words say.
func TestAnythingAnswers(t *testing.T) {
	r := rand.New(rand.NewSource(1422))
	for _, s := range chanceTexts(20000) {
		a := api.Stamp{Sec: int(r.Uint64()) >> r.Intn(64), Nano: int(r.Uint64()) >> r.Intn(64)}
		b := api.Stamp{Sec: int(r.Uint64()) >> r.Intn(64), Nano: int(r.Uint64()) >> r.Intn(64)}
		wantSaid(t, a, b, s)
		b.Sec = a.Sec
		wantSaid(t, a, b, s)
	}
}

// shares says whether two texts have a byte of memory in common.
func shares(a, b string) bool {
	if len(a) == 0 || len(b) == 0 {
		return false
	}
	p, q := uintptr(unsafe.Pointer(unsafe.StringData(a))), uintptr(unsafe.Pointer(unsafe.StringData(b)))
	return p < q+uintptr(len(b)) && q < p+uintptr(len(a))
}

// lent answers b's own bytes as a text, as one is handed in that could change.
func lent(b []byte) string { return unsafe.String(unsafe.SliceData(b), len(b)) }

// P2: what is handed in stays, the room behind it too, also where it is refused.
func TestHandedInStays(t *testing.T) {
	texts := append(written12(t), chanceTexts(100)...)
	texts = append(texts, "", "short", "\x40"+strings.Repeat("\x00", 12))
	for _, text := range texts {
		room := text + "room behind"
		handed := []byte(room)
		right, e := saidRead(text)
		wantRead(t, lent(handed)[:len(text)], right, e)
		right, e = saidRead(room)
		wantRead(t, lent(handed), right, e)
		if string(handed) != room {
			t.Errorf("%x became %x", room, handed)
		}
	}
	for _, in := range append(edges(), refused()...) {
		before := in
		Write(in)
		After(in, in)
		if in != before {
			t.Errorf("%d became %d", before, in)
		}
	}
}

// P2: a time that was read stays where the bytes that it was read from change.
func TestReadIsNotKept(t *testing.T) {
	in := api.Stamp{Sec: 0xfedcba9876, Nano: 0x12345678}
	handed := []byte(written(t, in))
	got, e := Read(lent(handed))
	clear(handed)
	if got != in || e != api.OK {
		t.Errorf("it became %d, %d", got, e)
	}
	wantNone(t, lent(handed), api.ErrForm)
	copy(handed, written(t, api.Stamp{Sec: 258}))
	wantRead(t, lent(handed), api.Stamp{Sec: 258}, api.OK)
}

// P2: no two answers of Write lie in the same memory, those of one time among
// them, and they stay whatever is asked later on.
func TestAnswersApart(t *testing.T) {
	var all, rights []string
	for range 3 {
		for _, in := range []api.Stamp{{}, {Sec: 258, Nano: 7}, {Sec: mostSec, Nano: mostNano}} {
			right, _ := saidWrite(in)
			all, rights = append(all, written(t, in)), append(rights, right)
		}
	}
	for i, s := range all {
		for _, other := range all[i+1:] {
			if shares(s, other) {
				t.Fatalf("two answers share %x", s)
			}
		}
	}
	for _, in := range append(edges(), refused()...) {
		Write(in)
	}
	if !slices.Equal(all, rights) {
		t.Errorf("answers became %x; want %x", all, rights)
	}
}

// P2: nothing is kept: the same call answers the same, whatever came between,
// what was refused included, and at the same time as others.
func TestAnswersStay(t *testing.T) {
	a, b := api.Stamp{Sec: 258, Nano: 7}, api.Stamp{Sec: 258, Nano: 8}
	s := written(t, a)
	others := append(chance(20), api.Stamp{Sec: -1}, api.Stamp{Nano: 1000000000}, a, b)
	var group sync.WaitGroup
	for i, text := range append(chanceTexts(20), "", s, s+"x", s[:11]) {
		group.Go(func() {
			for range 5 {
				wantSaid(t, others[i], a, text)
				wantSaid(t, a, b, s)
			}
		})
	}
	group.Wait()
	wantSaid(t, a, b, s)
}

// P1 and P22 for whatever comes.
func FuzzAnything(f *testing.F) {
	for i, in := range append(edges(), refused()...) {
		s, _ := saidWrite(in)
		f.Add(in.Sec, in.Nano, i-200, i*7654321, s)
	}
	for _, s := range chanceTexts(20) {
		f.Add(258, 7, 258, 8, s)
	}
	f.Fuzz(func(t *testing.T, sec, nano, otherSec, otherNano int, s string) {
		a, b := api.Stamp{Sec: sec, Nano: nano}, api.Stamp{Sec: otherSec, Nano: otherNano}
		wantSaid(t, a, b, s)
		if told, e := Write(a); e == api.OK {
			wantRead(t, told, a, api.OK)
		}
		if in, e := Read(s); e == api.OK {
			wantWrite(t, in, s, api.OK)
		}
	})
}
