package cookie

import (
	"crypto/sha256"
	"encoding/hex"
	"strings"
	"testing"

	"souterrain/api"
)

// What others work out, here and below: CPython's hashlib, and, of its package
// cryptography, ChaCha20-Poly1305, by a key that ChaCha20's first block tells.

// Publics and secrets, in the base of 16.
const (
	noughts = "0000000000000000000000000000000000000000000000000000000000000000"
	ones    = "ffffffffffffffffffffffffffffffffffffffffffffffffffffffffffffffff"
	rising  = "000102030405060708090a0b0c0d0e0f101112131415161718191a1b1c1d1e1f"
	high    = "e0e1e2e3e4e5e6e7e8e9eaebecedeeeff0f1f2f3f4f5f6f7f8f9fafbfcfdfeff"
)

func unhex(t *testing.T, h string) string {
	t.Helper()
	b, err := hex.DecodeString(h)
	if err != nil {
		t.Fatal(h)
	}
	return string(b)
}

// steps answers n bytes, each of them so much higher than the one ahead of it.
func steps(from, n, by int) string {
	b := make([]byte, n)
	for i := range b {
		b[i] = byte(from + by*i)
	}
	return string(b)
}

// P31: marks that are known.
func TestKnownMarks(t *testing.T) {
	for _, c := range []struct{ public, cookie, text, one, two string }{
		{noughts, "", "", "a32a7b3640474556c5a49780723fb1d1", "00000000000000000000000000000000"},
		{noughts, "00000000000000000000000000000000", "", "a32a7b3640474556c5a49780723fb1d1", "19362209d25fada3a82fccce5e39a1da"},
		{ones, "ffffffffffffffffffffffffffffffff", "00", "a233effd6d6aee30ed6b04807f171f6c", "03022befbd728a30c8c6154d69f5f2a1"},
		{rising, "", "6d657373616765", "a69f5e9de19342a5c1fe4ea889168d68", "00000000000000000000000000000000"},
		{rising, "202122232425262728292a2b2c2d2e2f", "6d657373616765", "a69f5e9de19342a5c1fe4ea889168d68", "a75a228d0fb721df6bd0afcd61af18f5"},
		{rising, "202122232425262728292a2b2c2d2e2f", "303132333435363738393a3b3c3d3e3f404142434445464748494a4b4c4d4e4f505152535455565758595a5b5c5d5e5f606162636465666768696a6b6c6d6e", "fb601fc3cac4973143f2b89319a13944", "35a4eacb17065bfce2dc204c5db4ad13"},
		{high, "0910171e252c333a41484f565d646b72", "303132333435363738393a3b3c3d3e3f404142434445464748494a4b4c4d4e4f505152535455565758595a5b5c5d5e5f606162636465666768696a6b6c6d6e6f", "8540d1d6bb29a47fcd3ec33fc766b00d", "63e74625eba8cc064905203420fbc749"},
		{high, "0910171e252c333a41484f565d646b72", "303132333435363738393a3b3c3d3e3f404142434445464748494a4b4c4d4e4f505152535455565758595a5b5c5d5e5f606162636465666768696a6b6c6d6e6f70", "a889db5bc1f26bc5e81538ff27108223", "08c4885d058bf59e9efab4d0b44b6d26"},
	} {
		public, cookie, text := unhex(t, c.public), unhex(t, c.cookie), unhex(t, c.text)
		right := text + unhex(t, c.one) + unhex(t, c.two)
		if s, e := Mark(public, cookie, text); s != right || e != api.OK {
			t.Errorf("Mark(%x, %x, %x) = %x, %d; want %x", public, cookie, text, s, e, right)
		}
		told, is, e := Check(public, cookie, right)
		if told != text || is != (cookie != "") || e != api.OK {
			t.Errorf("Check(%x, %x, %x) = %x, %t, %d", public, cookie, right, told, is, e)
		}
	}
}

// P32: cookies that are known.
func TestKnownCookies(t *testing.T) {
	for _, c := range []struct {
		secret string
		from   uint32
		now    int
		right  string
	}{
		{noughts, 0, 0, "bfa6cb9aee6cf6c51ebb899ff7643ac9"},
		{noughts, 0, 119, "bfa6cb9aee6cf6c51ebb899ff7643ac9"},
		{noughts, 0, 120, "a67c769379b4361e1479778af3d0615e"},
		{noughts, 0, 239, "a67c769379b4361e1479778af3d0615e"},
		{noughts, 0, 240, "5054286b444f0021652d5c1e72dafc5a"},
		{noughts, 1, 0, "3f54771bc4445359b2d4c835cf2c378d"},
		{noughts, 255, 1, "697be4d26980694b79274967c4d115b7"},
		{noughts, 256, 1, "6b8492a6ed79aaa0d4d58886d2be62a2"},
		{ones, 4294967295, 1099511627775, "eba847e811610ffceba5e1bbcc6212c0"},
		{ones, 4294967295, 1099511627776, "eba847e811610ffceba5e1bbcc6212c0"},
		{rising, 16909060, 519446323800, "cb7733f918a09a08d49e2c4e04df3cad"},
		{rising, 67305985, 519446323799, "7059b103c79e67a996305f053666414c"},
		{rising, 7, 30720, "3323711330299e150c928e2d1429ff52"},
		{rising, 7, 7864320, "5c1f680ee04f0067bc795adeacea7567"},
		{rising, 7, 515396075520, "00da00f57a58372ad59a76bcaed1f3d7"},
		{rising, 2147483648, 30719, "c3363b7fce51e5d86ff853164b87b711"},
	} {
		if s, e := Make(unhex(t, c.secret), c.from, c.now); s != unhex(t, c.right) || e != api.OK {
			t.Errorf("Make(%s, %d, %d) = %x, %d; want %s", c.secret, c.from, c.now, s, e, c.right)
		}
	}
}

// P32: replies that are known.
func TestKnownReplies(t *testing.T) {
	for _, c := range []struct{ public, nonce, cookie, marked, right string }{
		{noughts, "000000000000000000000000000000000000000000000000", "00000000000000000000000000000000", "0000000000000000000000000000000000000000000000000000000000000000000000000000", "03000000000000000000000000000000000000000000000000000000000074537b7f901f8e0e1183421735584db92cb30268ab0dcde4584d30482b6ea030"},
		{ones, "ffffffffffffffffffffffffffffffffffffffffffffffff", "ffffffffffffffffffffffffffffffff", "ffffffffffffffffffffffffffffffffffffffffffffffffffffffffffffffffffffffffffff", "0300ffffffffffffffffffffffffffffffffffffffffffffffffffffffff680eb809dec644e8325f902cf25518defae80cc25b14484ace51a6eccc203ce9"},
		{rising, "202122232425262728292a2b2c2d2e2f3031323334353637", "404142434445464748494a4b4c4d4e4f", "6465666768696a6b6c6d6e6f707172737475767778797a7b7c7d7e7f80818283848586878889", "030066676869202122232425262728292a2b2c2d2e2f3031323334353637ee1a9f1dde31bb0dd3731e6e497a485418ded5bc1b89add150c930bb07f66d3c"},
		{rising, "202122232425262728292a2b2c2d2e2f3031323334353637", "404142434445464748494a4b4c4d4e4f", "6465666768696a6b6c6d6e6f707172737475767778797a7b7c7d7e7f808182838485868788898a", "030066676869202122232425262728292a2b2c2d2e2f3031323334353637ee1a9f1dde31bb0dd3731e6e497a485479c74ce96ae8fec012b609d26e1b06db"},
		{high, "05101b26313c47525d68737e89949faab5c0cbd6e1ecf702", "03080d12171c21262b30353a3f44494e", "010204030201070a0d101316191c1f2225282b2e3134373a3d404346494c4f5255585b5e6164676a6d707376797c7f8285888b8e9194979a9da0a3a6a9acafb2b5b8bbbec1c4c7cacdd0d3d6d9dcdfe2e5e8ebeef1f4f7fafd000306090c0f1215181b1e2124272a2d303336393c3f4245484b7e4ea7ecee6fc0de0864d679daa507fe00000000000000000000000000000000", "03000403020105101b26313c47525d68737e89949faab5c0cbd6e1ecf702171448865c8a796aa161e24038eaec5fab12c43eecf48ea8e673da90a5561f76"},
		{high, "05101b26313c47525d68737e89949faab5c0cbd6e1ecf702", "03080d12171c21262b30353a3f44494e", "020101020304070a0d101316191c1f2225282b2e3134373a3d404346494c4f5255585b5e6164676a6d707376797c7f8285888b8e9194979a9da0a3e02b3db5b34ed0223889794d823418013b05450d5add5298cfdeaa2cd51f6553", "03000102030405101b26313c47525d68737e89949faab5c0cbd6e1ecf702171448865c8a796aa161e24038eaec5f4ca839e467577a61229eba8b4c26f462"},
	} {
		public, nonce, cookie, marked := unhex(t, c.public), unhex(t, c.nonce), unhex(t, c.cookie), unhex(t, c.marked)
		if s, e := Reply(public, nonce, cookie, marked); s != unhex(t, c.right) || e != api.OK {
			t.Errorf("Reply(%x, %x, %x, %x) = %x, %d; want %s", public, nonce, cookie, marked, s, e, c.right)
		}
		if s, e := Accept(public, marked, unhex(t, c.right)); s != cookie || e != api.OK {
			t.Errorf("Accept(%x, %x, %s) = %x, %d; want %x", public, marked, c.right, s, e, cookie)
		}
	}
}

// wantAll holds the SHA-256 of all that was answered.
func wantAll(t *testing.T, list []string, right string) {
	t.Helper()
	sum := sha256.Sum256([]byte(strings.Join(list, "")))
	if got := hex.EncodeToString(sum[:]); got != right {
		t.Errorf("all of them: %s; want %s", got, right)
	}
}

// P31: texts of each length up to 2100, without a cookie and with one.
func TestKnownOfEachLength(t *testing.T) {
	public, cookie, text := steps(0, 32, 1), steps(32, 16, 1), steps(1, 2100, 7)
	var without, with []string
	for n := range len(text) + 1 {
		one, e := Mark(public, "", text[:n])
		other, err := Mark(public, cookie, text[:n])
		if e != api.OK || err != api.OK {
			t.Fatal(e, err)
		}
		without, with = append(without, one), append(with, other)
	}
	wantAll(t, without, "5888021a5898ad65dbb73d48b1d4aa6134d5230ab52a1d1db8bd1f4f4cb9b6d8")
	wantAll(t, with, "c307fcf7e7a7399215e99065312a7ad2aee082f785297ac071ba106080d9974f")
}

// P32: each tick up to 1000, and each bit of from and of now.
func TestKnownOfEachTick(t *testing.T) {
	secret := steps(64, 32, 1)
	var ticks, bits []string
	for now := range 1000 {
		s, _ := Make(secret, 7, now)
		ticks = append(ticks, s)
	}
	for i := range 32 {
		for j := range 41 {
			s, _ := Make(secret, 1<<i, 1<<j)
			bits = append(bits, s)
		}
	}
	wantAll(t, ticks, "1f3ce4bb5c7795618b81b3e67e7d7d672dfe4a25d3e7ae7bc02bebca6a6522e3")
	wantAll(t, bits, "2018e2810c0451138a0e3ae8334b97d2ea026be2304c375ba6f82549bf4ad03b")
}

// P32: marked texts of each length from 38 to 699, which need not be rightly marked.
func TestKnownOfEachMarked(t *testing.T) {
	public, text := steps(0, 32, 1), steps(1, 2100, 7)
	var list []string
	for n := 38; n < 700; n++ {
		s, e := Reply(public, steps(n, 24, 1), steps(n+3, 16, 1), text[:n])
		if e != api.OK {
			t.Fatal(e)
		}
		list = append(list, s)
	}
	wantAll(t, list, "0a79cab5f89a21688d1efa369bb88db3ab4736d26193c6a5114edad04ab5fea8")
}
