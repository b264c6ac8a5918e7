package code

import (
	"encoding/base64"
	"encoding/hex"
	"strings"
	"sync"
	"testing"
	"unsafe"

	"souterrain/api"
)

// everyByte has each byte once, so each of its signs and halves comes up.
func everyByte() string {
	b := make([]byte, 256)
	for i := range b {
		b[i] = byte(i)
	}
	return string(b)
}

func samples() []string {
	all := everyByte()
	list := []string{"", "\x00", "\x00\x00", "\x00\x00\x00", "\xff", "\xff\xff", "\xff\xff\xff",
		"foob", "\x80\xc3\x28", strings.Repeat("below", 1001)}
	for n := range len(all) {
		list = append(list, all[:n], all[n:])
	}
	return list
}

func wantText(t *testing.T, name, in, got string, e api.Errno, want string) {
	t.Helper()
	if got != want || e != api.OK {
		t.Errorf("%s(%q) = %q, %d; want %q, OK", name, in, got, e, want)
	}
}

func wantSyntax(t *testing.T, name, in, got string, e api.Errno) {
	t.Helper()
	if got != "" || e != api.ErrSyntax {
		t.Errorf("%s(%q) = %q, %d; want no text and ErrSyntax", name, in, got, e)
	}
}

// P3, ordinary inputs and edges.
func TestHex(t *testing.T) {
	for s, want := range map[string]string{
		"": "", "\x00": "00", "\x0f": "0f", "\xf0": "f0", "\x9a": "9a", "\xff": "ff",
		"foo": "666f6f", "\x00\xaf": "00af", "é": "c3a9", "\xff\x00\n": "ff000a",
	} {
		if got := Hex(s); got != want {
			t.Errorf("Hex(%q) = %q; want %q", s, got, want)
		}
		got, e := Unhex(want)
		wantText(t, "Unhex", want, got, e, s)
	}
}

// P3, against another writer of the same signs.
func TestHexOfSamples(t *testing.T) {
	for _, s := range samples() {
		want := hex.EncodeToString([]byte(s))
		if got := Hex(s); got != want {
			t.Errorf("Hex(%q) = %q; want %q", s, got, want)
		}
		got, e := Unhex(want)
		wantText(t, "Unhex", want, got, e, s)
	}
}

// P3, every text of two bytes: just those that are Hex of a byte are read.
func TestUnhexOfAllPairs(t *testing.T) {
	texts := map[string]string{}
	for i := range 256 {
		s := string([]byte{byte(i)})
		texts[Hex(s)] = s
	}
	if len(texts) != 256 {
		t.Fatalf("256 bytes have %d signs", len(texts))
	}
	for i := range 1 << 16 {
		in := string([]byte{byte(i >> 8), byte(i)})
		got, e := Unhex(in)
		if want, ok := texts[in]; ok {
			wantText(t, "Unhex", in, got, e, want)
		} else {
			wantSyntax(t, "Unhex", in, got, e)
		}
	}
}

// P3, wrong inputs.
func TestUnhexWrong(t *testing.T) {
	for _, in := range []string{
		"0", "f", "000", "666f6", "AF", "aF", "Af", "0G", "g0", "0x66", " 66", "66 ", "66\n", "6 6f",
		"66 6f", "666f6G", "6G6f66", "\x00\x00", "\xff\xff", "-1", "+1", "0/", "0:", "0`", "é",
		strings.Repeat("0", 4001), strings.Repeat("0", 4000) + "0z",
	} {
		got, e := Unhex(in)
		wantSyntax(t, "Unhex", in, got, e)
	}
}

// P4, ordinary inputs and edges: nothing, one or two bytes left, each sign.
func TestBase(t *testing.T) {
	for s, want := range map[string]string{
		"": "", "f": "Zg==", "fo": "Zm8=", "foo": "Zm9v", "foob": "Zm9vYg==", "fooba": "Zm9vYmE=",
		"foobar": "Zm9vYmFy", "\x00": "AA==", "\x00\x00": "AAA=", "\x00\x00\x00": "AAAA",
		"\xff": "/w==", "\xff\xff": "//8=", "\xff\xff\xff": "////", "\xff\xfe": "//4=", "\xfb\xef\xbe": "++++",
	} {
		if got := Base(s); got != want {
			t.Errorf("Base(%q) = %q; want %q", s, got, want)
		}
		got, e := Unbase(want)
		wantText(t, "Unbase", want, got, e, s)
	}
}

// P4, the order of the signs: each is the first of four by its own number.
func TestBaseSigns(t *testing.T) {
	want := "ABCDEFGHIJKLMNOPQRSTUVWXYZ" + "abcdefghijklmnopqrstuvwxyz" + "0123456789" + "+/"
	for i := range 64 {
		s := string([]byte{byte(i << 2), 0, 0})
		if got := Base(s); got != want[i:i+1]+"AAA" {
			t.Errorf("number %d is told by %q; want %q ahead", i, got, want[i:i+1])
		}
	}
}

// P4, against another writer of the same signs.
func TestBaseOfSamples(t *testing.T) {
	for _, s := range samples() {
		want := base64.StdEncoding.EncodeToString([]byte(s))
		if got := Base(s); got != want {
			t.Errorf("Base(%q) = %q; want %q", s, got, want)
		}
		got, e := Unbase(want)
		wantText(t, "Unbase", want, got, e, s)
	}
}

// P4, all that may stand ahead of `==`: just what is Base of a byte is read.
func TestUnbaseOfAllSingles(t *testing.T) {
	texts := map[string]string{}
	for i := range 256 {
		s := string([]byte{byte(i)})
		texts[Base(s)] = s
	}
	if len(texts) != 256 {
		t.Fatalf("256 bytes have %d signs", len(texts))
	}
	for i := range 1 << 16 {
		in := string([]byte{byte(i >> 8), byte(i), '=', '='})
		got, e := Unbase(in)
		if want, ok := texts[in]; ok {
			wantText(t, "Unbase", in, got, e, want)
		} else {
			wantSyntax(t, "Unbase", in, got, e)
		}
	}
}

// P4, three signs, or what is nearly one, ahead of `=`.
func TestUnbaseOfAllDoubles(t *testing.T) {
	texts := map[string]string{}
	for i := range 1 << 16 {
		s := string([]byte{byte(i >> 8), byte(i)})
		texts[Base(s)] = s
	}
	if len(texts) != 1<<16 {
		t.Fatalf("65536 texts have %d signs", len(texts))
	}
	// No `=` among them: behind two signs it would make them a single byte's.
	signs := baseSigns + "-_,.@[`{:\x00\n\xff"
	for i := range len(signs) * len(signs) * len(signs) {
		a, b, c := i/len(signs)/len(signs), i/len(signs)%len(signs), i%len(signs)
		in := string([]byte{signs[a], signs[b], signs[c], '='})
		got, e := Unbase(in)
		if want, ok := texts[in]; ok {
			wantText(t, "Unbase", in, got, e, want)
		} else {
			wantSyntax(t, "Unbase", in, got, e)
		}
	}
}

// P4, every byte that is no sign at every place of the first four.
func TestUnbaseOfOneByteTurned(t *testing.T) {
	for _, whole := range []string{"Zm9v", "Zm9vZm9v", "Zm9vZm8=", "Zm9vZg=="} {
		for at := range 4 {
			for c := range 256 {
				in := whole[:at] + string([]byte{byte(c)}) + whole[at+1:]
				got, e := Unbase(in)
				if strings.IndexByte(baseSigns, byte(c)) >= 0 {
					continue
				}
				wantSyntax(t, "Unbase", in, got, e)
			}
		}
	}
}

// P4, wrong inputs.
func TestUnbaseWrong(t *testing.T) {
	for _, in := range []string{
		"Z", "Zg", "Zm9", "Zg=", "Z=", "=", "==", "===", "====", "Z===", "A===", "Zg===", "Zg====", "Zm9v=", "Zm9v==",
		"Zm9v====", "=Zm9", "Z=m9", "Zm=v", "Zg=A", "Zg==Zm9v", "Zm8=Zm9v", "Zg==Zg==", "====Zm9v",
		"Zh==", "Zv==", "Z/==", "Zm9=", "Zm+=", "Zm//Zm9=", "AB==", "AAB=", "A=A=", "==AA", "A==A",
		"Zm9\n", "Zm9v\n", "\nZm9v", "Zm\n9v", "Zm9v\n\n\n\n", "Zm8=\n", "Zg=\n", "Zm9 ", "Zm-_", "Zm9\x00", "\xff\xff\xff\xff",
		strings.Repeat("A", 4001), strings.Repeat("A", 4000) + "A===",
	} {
		got, e := Unbase(in)
		wantSyntax(t, "Unbase", in, got, e)
	}
}

// reread holds what is read against what is written: P3 and P4 say that a
// text is read just if it is written for some text, and then that text is it.
func reread(t *testing.T, in string) {
	t.Helper()
	if s, e := Unhex(in); e == api.OK && Hex(s) != in {
		t.Errorf("Unhex(%q) = %q, of which Hex is %q", in, s, Hex(s))
	} else if e != api.OK {
		wantSyntax(t, "Unhex", in, s, e)
	}
	if s, e := Unbase(in); e == api.OK && Base(s) != in {
		t.Errorf("Unbase(%q) = %q, of which Base is %q", in, s, Base(s))
	} else if e != api.OK {
		wantSyntax(t, "Unbase", in, s, e)
	}
	for _, name := range []string{"Hex", "Base"} {
		write, read := Hex, Unhex
		if name == "Base" {
			write, read = Base, Unbase
		}
		s, e := read(write(in))
		wantText(t, "Un-"+name, write(in), s, e, in)
	}
}

// P1: whatever bytes come, each call answers.
func TestAnythingAnswers(t *testing.T) {
	for _, s := range samples() {
		reread(t, s)
		reread(t, Hex(s)+s)
		reread(t, Base(s)+s)
	}
	for i := range 1 << 16 {
		s := string([]byte{byte(i >> 8), byte(i)})
		reread(t, s)
		reread(t, s[:1]+"="+s[1:]+"=")
	}
}

// P1, beyond the limit of texts that other chapters have: this one has none.
func TestLongTextsAnswer(t *testing.T) {
	for n := 1<<20 - 2; n <= 1<<20+2; n++ {
		reread(t, strings.Repeat("\xa5", n))
		reread(t, strings.Repeat("a", n))
		reread(t, strings.Repeat("=", n))
	}
}

func FuzzReread(f *testing.F) {
	for _, s := range []string{"", "Zm9vYg==", "Zh==", "666f6f", "AF", "\xff\x00"} {
		f.Add(s)
	}
	f.Fuzz(func(t *testing.T, in string) { reread(t, in) })
}

// shares says whether two texts have a byte of memory in common.
func shares(a, b string) bool {
	if len(a) == 0 || len(b) == 0 {
		return false
	}
	p, q := uintptr(unsafe.Pointer(unsafe.StringData(a))), uintptr(unsafe.Pointer(unsafe.StringData(b)))
	return p < q+uintptr(len(b)) && q < p+uintptr(len(a))
}

// P2: what is handed in stays, the room behind it too, and no answer lies in it.
func TestNothingShared(t *testing.T) {
	for _, text := range samples() {
		for _, in := range []string{text, Hex(text), Base(text)} {
			room := in + "room behind"
			handed := []byte(room)
			s := unsafe.String(unsafe.SliceData(handed), len(in))
			unhexed, _ := Unhex(s)
			unbased, _ := Unbase(s)
			for _, answer := range []string{Hex(s), Base(s), unhexed, unbased} {
				if shares(answer, unsafe.String(unsafe.SliceData(handed), len(handed))) {
					t.Errorf("an answer to %q lies in what was handed in", in)
				}
			}
			if string(handed) != room {
				t.Errorf("%q became %q", room, handed)
			}
		}
	}
}

// P2: an answer stays when other calls, and the same one, follow.
func TestAnswersStay(t *testing.T) {
	first, second := Hex("below"), Base("below")
	third, _ := Unhex("62656c6f77")
	fourth, _ := Unbase("YmVsb3c=")
	for _, s := range samples() {
		reread(t, s)
		again, _ := Unbase("YmVsb3c=")
		if Hex("below") != first || Base("below") != second || again != fourth {
			t.Fatalf("answers differ behind %q", s)
		}
	}
	if first != "62656c6f77" || second != "YmVsb3c=" || third != "below" || fourth != "below" {
		t.Errorf("answers became %q, %q, %q, %q", first, second, third, fourth)
	}
}

// P2: nothing is kept, so calls at the same time do not see one another.
func TestCallsAtTheSameTime(t *testing.T) {
	var all sync.WaitGroup
	for _, s := range samples() {
		all.Go(func() { reread(t, s) })
	}
	all.Wait()
}
